/- Names (of the reference). -/
import Derived.Test.YtilholgbepfopaaDoorVOp
import Derived.Test.YtilholgbepfopaaDoorTRep
import Derived.Test.YtilholgbepfopaaDoorBEq
import Derived.Test.YtilholgbepfopaaDoorBStr
namespace Go.Proofs.YtilholgbepfopaaDoor
open Go.RowKit

/-- the words that are no names -/
def resL : List ByteArray := [⟨#[110, 105, 108]⟩, ⟨#[102, 105, 101, 108, 100]⟩, ⟨#[110, 101, 119]⟩, ⟨#[102, 117, 110, 99]⟩, ⟨#[115, 101, 116]⟩, ⟨#[115, 116, 111, 114, 101]⟩, ⟨#[99, 97, 108, 108]⟩, ⟨#[105, 102]⟩, ⟨#[101, 108, 115, 101]⟩, ⟨#[102, 111, 114]⟩, ⟨#[119, 104, 105, 108, 101]⟩, ⟨#[114, 101, 116, 117, 114, 110]⟩, ⟨#[116, 104, 114, 111, 119]⟩, ⟨#[116, 114, 121]⟩, ⟨#[99, 97, 116, 99, 104]⟩, ⟨#[101, 109, 105, 116]⟩, ⟨#[97, 115, 107]⟩, ⟨#[114, 101, 100, 117, 99, 101]⟩, ⟨#[101, 110, 100]⟩]
def isRes (s : ByteArray) : Bool := (resL.any fun x => decide (x = s)) || (opR s).2
theorem res_len : resL.length = 19 := rfl
theorem res_world (w : World) : ∃ W, w.alloc (.cells #[.string ⟨#[110, 105, 108]⟩, .string ⟨#[102, 105, 101, 108, 100]⟩, .string ⟨#[110, 101, 119]⟩, .string ⟨#[102, 117, 110, 99]⟩, .string ⟨#[115, 101, 116]⟩, .string ⟨#[115, 116, 111, 114, 101]⟩, .string ⟨#[99, 97, 108, 108]⟩, .string ⟨#[105, 102]⟩, .string ⟨#[101, 108, 115, 101]⟩, .string ⟨#[102, 111, 114]⟩, .string ⟨#[119, 104, 105, 108, 101]⟩, .string ⟨#[114, 101, 116, 117, 114, 110]⟩, .string ⟨#[116, 104, 114, 111, 119]⟩, .string ⟨#[116, 114, 121]⟩, .string ⟨#[99, 97, 116, 99, 104]⟩, .string ⟨#[101, 109, 105, 116]⟩, .string ⟨#[97, 115, 107]⟩, .string ⟨#[114, 101, 100, 117, 99, 101]⟩, .string ⟨#[101, 110, 100]⟩] 9) = W ∧ Below w.heap.size w W ∧ CsAt W w.heap.size (resL.map Value.string) := ⟨_, rfl, below1 _ _, CsAt.new _ _ _⟩
def NoRes (s : ByteArray) (k : Nat) : Prop := ∀ j x, j < k → resL[j]? = some x → x ≠ s
theorem NoRes.succ {s x : ByteArray} {k : Nat} (h : NoRes s k) (hk : resL[k]? = some x) (hx : x ≠ s) : NoRes s (k + 1) := fun j y hj hy => by
  rcases Nat.lt_or_ge j k with q | q
  · exact h j y q hy
  · obtain rfl : j = k := by omega
    rw [hk] at hy
    exact Option.some.inj hy ▸ hx
theorem res_no {s : ByteArray} (h : NoRes s 19) : isRes s = (opR s).2 := by
  unfold isRes
  rw [show (resL.any fun x => decide (x = s)) = false by
    rw [List.any_eq_false]
    intro x hx
    obtain ⟨j, hj⟩ := List.getElem?_of_mem hx
    have hlt := (List.getElem?_eq_some_iff.1 hj).1
    rw [res_len] at hlt
    simpa using h j x hlt hj, Bool.false_or]
theorem res_yes {s x : ByteArray} {k : Nat} (hk : resL[k]? = some x) (hx : x = s) : isRes s = true := by
  unfold isRes
  rw [show (resL.any fun x => decide (x = s)) = true from List.any_eq_true.2 ⟨x, List.mem_of_getElem? hk, by simpa using hx⟩, Bool.true_or]

set_option maxHeartbeats 1000000 in
set_option maxRecDepth 100000 in
theorem rreserved_any (s : ByteArray) (w : World) : Calls Tryd.prog 28 #[.string s] w (RetB w (isRes s)) := by
  obtain ⟨W, hW, hB, hP⟩ := res_world w
  have HW := Lib.hid hW
  have BW := Lib.hid hB
  have PW := Lib.hid hP
  clear hW hB hP
  go_enter Tryd.func28, Tryd.ntmps28
  go_wp2_with fail
  rw [HW.out]
  go_loopw [4, 9] (fun _ i_ wr => ∃ k : Nat, k ≤ 19 ∧ i_ = .int .i64 k ∧ NoRes s k ∧ wr = W) (fun _ i_ _ => 19 - (intOf i_).toNat)
  case atStart => exact ⟨0, by omega, rfl, fun j x hj => by omega, rfl⟩
  case round =>
    obtain ⟨k, hk, rfl, hN, rfl⟩ := hrel
    have HN := Lib.hid hN
    clear hN
    by_cases hlt : k < 19
    · obtain ⟨x, hx⟩ : ∃ x, resL[k]? = some x := ⟨_, List.getElem?_eq_getElem (by rw [res_len]; exact hlt)⟩
      have c0 := PW.out.cell k (.string x) (by rw [List.getElem?_map, hx]; rfl)
      have HX := Lib.hid hx
      clear hx
      by_cases hs : x = s
      · have hq := tstr_eq hs
        have Hs := Lib.hid hs
        clear hs
        go_wp2
        go_ret
        exact retB (res_yes HX.out Hs.out).symm BW.out
      · have hq := tstr_ne hs
        have Hs := Lib.hid hs
        clear hs
        go_wp2
        go_roundw
        case rel => exact ⟨k + 1, by omega, by go_num, HN.out.succ HX.out Hs.out, by first | rfl | trivial⟩
        case measure => simp [intOf]; omega
    · obtain rfl : k = 19 := by omega
      go_wp2_with fail
      refine (rop_any s _).mono ?_
      rintro e w2 ⟨rfl, hb⟩
      go_wp2
      go_ret
      exact retB (res_no HN.out).symm (BW.out.then_' hb)
/-- whether a byte may stand at a place of a name -/
def okB (i b : Nat) : Bool := (decide (97 ≤ b) && decide (b ≤ 122)) || (decide (0 < i) && decide (48 ≤ b) && decide (b ≤ 57))
def NmOK (s : ByteArray) (k : Nat) : Prop := ∀ j, (h : j < s.size) → j < k → okB j s[j].toNat = true
def isNm (s : ByteArray) : Bool := decide (∀ j, (h : j < s.size) → okB j s[j].toNat = true) && (decide (0 < s.size) && decide (s.size ≤ 16) && !isRes s)
theorem NmOK.succ {s : ByteArray} {k : Nat} (h : NmOK s k) (hk : k < s.size) (hb : okB k s[k].toNat = true) : NmOK s (k + 1) := fun j hj hjk => by
  rcases Nat.lt_or_ge j k with q | q
  · exact h j hj q
  · obtain rfl : j = k := by omega
    exact hb
theorem nm_bad {s : ByteArray} {k : Nat} (hk : k < s.size) (hb : okB k s[k].toNat = false) : isNm s = false := by
  unfold isNm
  rw [show decide (∀ j, (h : j < s.size) → okB j s[j].toNat = true) = false from decide_eq_false (fun h => by rw [h k hk] at hb; cases hb), Bool.false_and]
theorem nm_all {s : ByteArray} (h : NmOK s s.size) : isNm s = (decide (0 < s.size) && decide (s.size ≤ 16) && !isRes s) := by
  unfold isNm
  rw [show decide (∀ j, (h : j < s.size) → okB j s[j].toNat = true) = true from decide_eq_true (fun j hj => h j hj hj), Bool.true_and]
set_option maxHeartbeats 1000000 in
set_option maxRecDepth 100000 in
theorem rnm_any (s : ByteArray) (w : World) (hs : s.size ≤ 1000000000) : Calls Tryd.prog 11 #[.string s] w (RetB w (isNm s)) := by
  go_enter Tryd.func11, Tryd.ntmps11
  go_wp2_with fail
  go_loop [3] (fun i_ => ∃ k : Nat, k ≤ s.size ∧ i_ = .int .i64 k ∧ NmOK s k) (fun i_ => s.size - (intOf i_).toNat)
  case atStart => exact ⟨0, Nat.zero_le _, rfl, fun j _ hj => by omega⟩
  case round =>
    obtain ⟨k, hk, rfl, hN⟩ := hrel
    have HN := Lib.hid hN
    clear hN
    by_cases hlt : k < s.size
    · have hki : (k : Int) < (s.size : Int) := by omega
      by_cases h1 : 97 ≤ s[k].toNat
      · have t1 : (97 : Int) ≤ (s[k].toNat : Int) := by omega
        by_cases h2 : s[k].toNat ≤ 122
        · have t2 : (s[k].toNat : Int) ≤ 122 := by omega
          have HF := Lib.hid (HN.out.succ hlt (by unfold okB; simp; omega))
          go_wp2_with fail
          go_round
          case rel => exact ⟨k + 1, by omega, by go_num, HF.out⟩
          case measure => simp [intOf]; omega
        · have t2 : ¬ (s[k].toNat : Int) ≤ 122 := by omega
          have t3 : (48 : Int) ≤ (s[k].toNat : Int) := by omega
          have t4 : ¬ (s[k].toNat : Int) ≤ 57 := by omega
          by_cases h0 : 0 < k
          · have t0 : (0 : Int) < (k : Int) := by omega
            have HF := Lib.hid (nm_bad hlt (by unfold okB; simp; omega))
            go_wp2_with fail
            go_ret
            exact retB HF.out.symm (Below.refl _ _)
          · have t0 : ¬ (0 : Int) < (k : Int) := by omega
            have HF := Lib.hid (nm_bad hlt (by unfold okB; simp; omega))
            go_wp2_with fail
            go_ret
            exact retB HF.out.symm (Below.refl _ _)
      · have t1 : ¬ (97 : Int) ≤ (s[k].toNat : Int) := by omega
        by_cases h0 : 0 < k
        · have t0 : (0 : Int) < (k : Int) := by omega
          by_cases h3 : 48 ≤ s[k].toNat
          · have t3 : (48 : Int) ≤ (s[k].toNat : Int) := by omega
            by_cases h4 : s[k].toNat ≤ 57
            · have t4 : (s[k].toNat : Int) ≤ 57 := by omega
              have HF := Lib.hid (HN.out.succ hlt (by unfold okB; simp; omega))
              go_wp2_with fail
              go_round
              case rel => exact ⟨k + 1, by omega, by go_num, HF.out⟩
              case measure => simp [intOf]; omega
            · have t4 : ¬ (s[k].toNat : Int) ≤ 57 := by omega
              have HF := Lib.hid (nm_bad hlt (by unfold okB; simp; omega))
              go_wp2_with fail
              go_ret
              exact retB HF.out.symm (Below.refl _ _)
          · have t3 : ¬ (48 : Int) ≤ (s[k].toNat : Int) := by omega
            have HF := Lib.hid (nm_bad hlt (by unfold okB; simp; omega))
            go_wp2_with fail
            go_ret
            exact retB HF.out.symm (Below.refl _ _)
        · have t0 : ¬ (0 : Int) < (k : Int) := by omega
          have HF := Lib.hid (nm_bad hlt (by unfold okB; simp; omega))
          go_wp2_with fail
          go_ret
          exact retB HF.out.symm (Below.refl _ _)
    · obtain rfl : k = s.size := by omega
      have HA := Lib.hid (nm_all HN.out)
      by_cases h0 : 0 < s.size
      · have t0 : (0 : Int) < (s.size : Int) := by omega
        by_cases h1 : s.size ≤ 16
        · have t1 : (s.size : Int) ≤ 16 := by omega
          have HB : Hid (isNm s = !isRes s) := Lib.hid (by rw [HA.out]; simp [h0, h1])
          go_wp2_with fail
          refine (rreserved_any s _).mono ?_
          rintro e w2 ⟨rfl, hb⟩
          go_wp2
          go_ret
          exact retB (by rw [HB.out]) hb
        · have t1 : ¬ (s.size : Int) ≤ 16 := by omega
          have HB : Hid (isNm s = false) := Lib.hid (by rw [HA.out]; simp [h1])
          go_wp2
          go_ret
          exact retB HB.out.symm (Below.refl _ _)
      · have t0 : ¬ (0 : Int) < (s.size : Int) := by omega
        have HB : Hid (isNm s = false) := Lib.hid (by rw [HA.out]; simp [h0])
        go_wp2
        go_ret
        exact retB HB.out.symm (Below.refl _ _)
end Go.Proofs.YtilholgbepfopaaDoor
