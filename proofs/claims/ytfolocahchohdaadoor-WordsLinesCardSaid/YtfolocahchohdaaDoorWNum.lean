/- isNumeral, Number: the number of a string. -/
import Derived.Test.YtfolocahchohdaaDoorWRSplit
import Derived.Deep.DeepCutAuto
namespace Go.Proofs.YtfolocahchohdaaDoor
open Go.RowKit WMath

def digB (c : UInt8) : Bool := decide (48 ≤ (c.toNat : Int)) && decide ((c.toNat : Int) ≤ 57)
theorem digB_iff (c : UInt8) : digB c = true ↔ 48 ≤ c.toNat ∧ c.toNat ≤ 57 := by unfold digB; simp; omega
theorem digB_no {c : UInt8} (h : c.toNat < 48 ∨ 57 < c.toNat) : digB c = false := by
  cases hd : digB c with
  | false => rfl
  | true => have := (digB_iff c).1 hd; omega
/-- what stands behind the sign -/
def numD (l : List UInt8) : List UInt8 := if l.head? = some 45 then l.tail else l
def isNumB (l : List UInt8) : Bool := !(numD l).isEmpty && (if (numD l).head? = some 48 then decide (l = [48]) else (numD l).all digB)
/-- a digit behind a number -/
def stepD (a : Nat) (c : UInt8) : Nat := a * 10 + (c.toNat - 48)
/-- a list of digits behind a number -/
def foldD (a : Nat) (l : List UInt8) : Nat := l.foldl stepD a
def valD (l : List UInt8) : Nat := foldD 0 l

theorem head_get (s : ByteArray) (h : 0 < s.size) : (bl s).head? = some s[0] := by
  rw [List.head?_eq_getElem?]
  exact bl_get s 0 h
theorem extract_tail (s : ByteArray) : bl (s.extract 1 s.size) = (bl s).tail := by
  have : bl (s.extract 1 s.size) = (bl s).drop 1 := Lib.extract_to_end s 1
  rw [this, List.drop_one]
theorem isNumB_nil (s : ByteArray) (h : numD (bl s) = []) : isNumB (bl s) = false := by unfold isNumB; rw [h]; rfl
theorem isNumB_zero (s d : ByteArray) (hd : bl d = numD (bl s)) (h : 0 < d.size) (h0 : d[0] = 48) : isNumB (bl s) = decide (bl s = [48]) := by
  unfold isNumB
  have hh : (numD (bl s)).head? = some 48 := by rw [← hd, head_get d h, h0]
  rw [if_pos hh]
  cases hl : numD (bl s) with
  | nil => rw [hl] at hh; cases hh
  | cons a t => rfl
theorem isNumB_miss (s d : ByteArray) (hd : bl d = numD (bl s)) (h : 0 < d.size) (h0 : d[0] ≠ 48) (k : Nat) (hk : k < d.size) (hb : digB d[k] = false) : isNumB (bl s) = false := by
  unfold isNumB
  have hh : (numD (bl s)).head? ≠ some 48 := by rw [← hd, head_get d h]; simpa using h0
  rw [if_neg hh, ← hd, List.all_eq_false.2 ⟨_, List.mem_of_getElem? (bl_get d k hk), by simp [hb]⟩]
  simp
theorem isNumB_ok (s d : ByteArray) (hd : bl d = numD (bl s)) (h : 0 < d.size) (h0 : d[0] ≠ 48) (ha : ((bl d).take d.size).all digB = true) : isNumB (bl s) = true := by
  rw [bl_take_all d _ (Nat.le_refl _)] at ha
  unfold isNumB
  have hh : (numD (bl s)).head? ≠ some 48 := by rw [← hd, head_get d h]; simpa using h0
  rw [if_neg hh, ← hd, ha]
  cases hl : bl d with
  | nil => have := (bl_empty d).1 hl; omega
  | cons a t => rfl
theorem digs_snoc (s : ByteArray) (k : Nat) (h : k < s.size) (ha : ((bl s).take k).all digB = true) (hb : digB s[k] = true) : ((bl s).take (k + 1)).all digB = true := by
  rw [bl_take s k h, List.all_append, ha]
  simp [hb]

theorem ne_toList {s : ByteArray} (h : s.size ≠ 0) : s.toList.isEmpty = false := by
  rw [bl_toList]
  cases h1 : bl s with
  | nil => exact absurd ((bl_empty s).1 h1) h
  | cons a t => rfl

/-- the string begins with a minus -/
def mB (s : ByteArray) : Bool := decide ((bl s).head? = some 45)
theorem mB_pos (s : ByteArray) (h : mB s = true) : 0 < s.size := by
  by_cases h0 : s.size = 0
  · have hse : s = ⟨#[]⟩ := bl_inj ((bl_empty s).2 h0)
    subst hse
    cases h
  · omega
theorem numD_minus' (s : ByteArray) (h : mB s = true) : bl (s.extract 1 s.size) = numD (bl s) := by
  unfold numD
  rw [if_pos (of_decide_eq_true h), extract_tail]
theorem numD_plain' (s : ByteArray) (h : mB s = false) : bl s = numD (bl s) := by
  unfold numD
  rw [if_neg (of_decide_eq_false h)]

theorem eq0_iff (s : ByteArray) : (s.toList == [48]) = decide (bl s = [48]) := by
  rw [bl_toList, Bool.eq_iff_iff]
  simp

set_option maxHeartbeats 1000000 in
set_option maxRecDepth 100000 in
theorem isNumeral_any (s : ByteArray) (w : World) (hs : s.size ≤ 1000) :
    Calls Tryd.prog 28 #[.string s] w (RetBool w (isNumB (bl s))) := by
  go_enter Tryd.func28, Tryd.ntmps28
  go_upto_region 2 with (fail)
  go_cut [13] (fun b wx => b = .bool (mB s) ∧ wx = w)
  case first =>
    by_cases h0 : s.size = 0
    · have hse : s = ⟨#[]⟩ := bl_inj ((bl_empty s).2 h0)
      have HM : Hid (mB s = false) := Lib.hid (by rw [hse]; rfl)
      have hne : s.toList.isEmpty = true := by rw [bl_toList, (bl_empty s).2 h0]; rfl
      clear h0 hse
      go_wp2
      go_meet
      exact ⟨by rw [HM.out], rfl⟩
    · have hne := ne_toList h0
      have hpos : 0 < s.size := by omega
      by_cases h45 : s[0] = 45
      · have t1 : ((s[0].toNat : Int) == 45) = true := u8_t (c := 45) h45
        have HM : Hid (mB s = true) := Lib.hid (by unfold mB; rw [head_get s hpos, h45]; rfl)
        clear h45 h0
        go_wp2
        go_meet
        exact ⟨by rw [HM.out], rfl⟩
      · have t1 : ((s[0].toNat : Int) == 45) = false := u8_f (c := 45) h45
        have HM : Hid (mB s = false) := Lib.hid (by unfold mB; rw [head_get s hpos]; simpa using h45)
        clear h45 h0
        go_wp2
        go_meet
        exact ⟨by rw [HM.out], rfl⟩
  case rest =>
    obtain ⟨rfl, rfl⟩ := hcut
    go_upto_if 13 with (fail)
    go_cut [3] (fun d wx => ∃ d' : ByteArray, d = .string d' ∧ bl d' = numD (bl s) ∧ d'.size ≤ 1000 ∧ wx = wc)
    case first =>
      cases hm : mB s with
      | true =>
        have HD := Lib.hid (numD_minus' s hm)
        have hpos := mB_pos s hm
        clear hm
        go_wp2
        go_meet
        exact ⟨_, rfl, HD.out, by simp; omega, rfl⟩
      | false =>
        have HD := Lib.hid (numD_plain' s hm)
        clear hm
        go_wp2
        go_meet
        exact ⟨_, rfl, HD.out, hs, rfl⟩
    case rest =>
      obtain ⟨d, rfl, hd, hds, rfl⟩ := hcut
      have HD := Lib.hid hd
      clear hd
      by_cases h0 : d.size = 0
      · have hne : d.toList.isEmpty = true := by rw [bl_toList, (bl_empty d).2 h0]; rfl
        have HN := Lib.hid (isNumB_nil s (by rw [← HD.out]; exact (bl_empty d).2 h0))
        clear h0
        go_wp2
        go_ret
        exact ⟨by rw [HN.out]; rfl, Below.refl _ _⟩
      · have hne := ne_toList h0
        have hpos : 0 < d.size := by omega
        clear h0
        by_cases h48 : d[0] = 48
        · have t1 : ((d[0].toNat : Int) == 48) = true := u8_t (c := 48) h48
          have HZ := Lib.hid (isNumB_zero s d HD.out hpos h48)
          clear h48
          go_wp2
          go_ret
          exact ⟨by rw [HZ.out, ← eq0_iff]; rfl, Below.refl _ _⟩
        · have t1 : ((d[0].toNat : Int) == 48) = false := u8_f (c := 48) h48
          have HM := Lib.hid (isNumB_miss s d HD.out hpos h48)
          have HK := Lib.hid (isNumB_ok s d HD.out hpos h48)
          clear h48
          obtain ⟨W, c, hcv, hB, hcell, hsz⟩ := bytes_of_string (P := Tryd.prog) wc 9 47 5 d Tryd.underlying9 Tryd.underlying47 Tryd.underlying5
          have HB := Lib.hid hB
          have Hcell := Lib.hid hcell
          clear hB hsz hcell
          go_wp2
          clear hcv
          go_loop [5, 26] (fun _ i => ∃ k : Nat, k ≤ d.size ∧ i = .int .i64 k ∧ ((bl d).take k).all digB = true) (fun _ i => d.size - (intOf i).toNat)
          case atStart => exact ⟨0, Nat.zero_le _, rfl, rfl⟩
          case round =>
            obtain ⟨k, hk, rfl, hall⟩ := hrel
            have Hall := Lib.hid hall
            clear hall
            by_cases hlt : k < d.size
            · have hc := Hcell.out k hlt
              have HMk := Lib.hid (HM.out k hlt)
              have HS := Lib.hid (digs_snoc d k hlt Hall.out)
              go_wp2
              · go_ret
                exact ⟨by rw [HMk.out (digB_no (by omega))]; rfl, HB.out⟩
              · go_round
                case rel => exact ⟨k + 1, by omega, by go_num, HS.out ((digB_iff _).2 (by omega))⟩
                case measure => simp [intOf]; omega
              · go_ret
                exact ⟨by rw [HMk.out (digB_no (by omega))]; rfl, HB.out⟩
            · obtain rfl : k = d.size := by omega
              go_wp2
              go_ret
              exact ⟨by rw [HK.out Hall.out]; rfl, HB.out⟩
end Go.Proofs.YtfolocahchohdaaDoor
