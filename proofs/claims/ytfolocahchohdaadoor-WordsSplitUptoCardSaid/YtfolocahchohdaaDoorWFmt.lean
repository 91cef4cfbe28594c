/- Format: the string of a number. -/
import Derived.Test.YtfolocahchohdaaDoorWNum2
namespace Go.Proofs.YtfolocahchohdaaDoor
open Go.RowKit WMath

theorem dig_step (u : Nat) (h : ¬ u < 10) : Lib.decDigits u = Lib.decDigits (u / 10) ++ [UInt8.ofNat (48 + u % 10)] := by
  rw [Lib.decDigits, dif_neg h]
theorem dig_last (u : Nat) (h : u < 10) : Lib.decDigits u = [UInt8.ofNat (48 + u)] := by
  rw [Lib.decDigits, dif_pos h]

theorem dig_len (k u : Nat) (h : u < 10 ^ (k + 1)) : (Lib.decDigits u).length ≤ k + 1 := by
  induction k generalizing u with
  | zero => rw [dig_last u (by simpa using h)]; simp
  | succ k ih =>
    by_cases h1 : u < 10
    · rw [dig_last u h1]; simp
    · rw [dig_step u h1]
      have := ih (u / 10) (by rw [Nat.pow_succ] at h; omega)
      simp only [List.length_append, List.length_cons, List.length_nil]
      omega
def dgB (u : Nat) : UInt8 := UInt8.ofNat (48 + u % 10)
theorem dgB_nat (u : Nat) : (dgB u).toNat = 48 + u % 10 := by
  unfold dgB
  rw [UInt8.toNat_ofNat']
  omega
theorem fmt_more {N U : Nat} {x : List UInt8} (h : Lib.decDigits N = Lib.decDigits U ++ x) (hU : U / 10 ≠ 0) : Lib.decDigits N = Lib.decDigits (U / 10) ++ (dgB U :: x) := by
  rw [h, dig_step U (by omega)]
  simp [dgB]
theorem fmt_last {N U : Nat} {x : List UInt8} (h : Lib.decDigits N = Lib.decDigits U ++ x) (hU : U / 10 = 0) : Lib.decDigits N = dgB U :: x := by
  have : U % 10 = U := by omega
  rw [h, dig_last U (by omega)]
  simp [dgB, this]

theorem ret_str {a b : ByteArray} (h : a = b) : Ending.returned (.string a) = .returned (.string b) := by rw [h]
theorem fmt_conv (w : World) (U : Nat) : (convert 47 9 (.slice (some ⟨w.heap.size, 0, none⟩) 1 1)).run Tryd.prog (w.alloc (.cells #[.int .u8 (48 + (U : Int) % 10)] 5)) = .ok (.string (bs [dgB U])) (w.alloc (.cells #[.int .u8 (48 + (U : Int) % 10)] 5)) := by
  have h := OwnB_string (OwnB_lit w (dgB U))
  have e : ((dgB U).toNat : Int) = 48 + (U : Int) % 10 := by rw [dgB_nat]; omega
  rw [e] at h
  exact h

set_option maxHeartbeats 1000000 in
set_option maxRecDepth 100000 in
theorem refFormat_pos (N : Nat) (w : World) (h1 : (N : Int) ≤ 9223372036854775807) :
    Calls Tryd.prog 21 #[.int .i64 N] w (RetStr w (Lib.itoa N)) := by
    have Hi : Hid (Lib.itoa (N : Int) = Lib.decDigits N) := Lib.hid (by unfold Lib.itoa; rw [if_neg (by omega)]; rfl)
    have hlen : (Lib.decDigits N).length ≤ 19 := dig_len 18 N (by omega)
    go_enter Tryd.func21, Tryd.ntmps21
    go_wp2
    go_loopw [3, 5] (fun u sv wr => ∃ U : Nat, ∃ x : ByteArray, u = .int .u64 U ∧ sv = .string x ∧ U ≤ N ∧ Lib.decDigits N = Lib.decDigits U ++ bl x ∧ x.size ≤ 19 ∧ Below w.heap.size w wr) (fun u _ _ => (intOf u).toNat)
    case atStart => exact ⟨N, ⟨#[]⟩, rfl, rfl, Nat.le_refl _, by simp [bl], by decide, Below.refl _ _⟩
    case round =>
      obtain ⟨U, x, rfl, rfl, hU, hd, hx, hb⟩ := hrel
      have HD := Lib.hid hd
      have HB := Lib.hid hb
      have hz := hb.size
      clear hd hb
      go_wp2
      rw [fmt_conv wr U]
      obtain ⟨t, ht⟩ : ∃ t, bs [dgB U] = t := ⟨_, rfl⟩
      rw [ht]
      have Ht : Hid (bl t = [dgB U]) := Lib.hid (by rw [← ht, bl_bs])
      have hts : t.size = 1 := by rw [← ht, bs_size]; rfl
      have hts' : t.size ≤ 1 := by omega
      have HTS := Lib.hid hts
      have HB3 : Hid (Below w.heap.size w (wr.alloc (.cells #[.int .u8 (48 + (U : Int) % 10)] 5))) := Lib.hid (HB.out.alloc hz _)
      clear ht hts
      by_cases hz0 : U / 10 = 0
      · have t1 : (((U : Int) / 10) == 0) = true := by rw [beq_iff_eq]; omega
        have HL := Lib.hid (fmt_last HD.out hz0)
        clear hz0
        go_wp2
        go_ret
        refine ⟨?_, HB3.out⟩
        rw [Hi.out, HL.out]
        exact ret_str (bl_inj (by rw [bl_bs, bl_append, bl_append, Ht.out]; rfl))
      · have t1 : (((U : Int) / 10) == 0) = false := by rw [beq_eq_false_iff_ne]; omega
        have HM := Lib.hid (fmt_more HD.out hz0)
        have hx2 : x.size ≤ 18 := by
          have h := congrArg List.length HD.out
          rw [List.length_append, bl_len, dig_step U (by omega), List.length_append] at h
          simp only [List.length_cons, List.length_nil] at h
          omega
        have hlt : U / 10 < U := by omega
        clear hz0
        go_wp2
        go_roundw
        case rel => exact ⟨U / 10, t ++ x, by go_num, rfl, by omega, by rw [HM.out, bl_append, Ht.out]; rfl, by rw [ByteArray.size_append, HTS.out]; omega, HB3.out⟩
        case measure => simp [intOf]; omega

set_option maxHeartbeats 1000000 in
set_option maxRecDepth 100000 in
theorem refFormat_neg (n : Int) (N : Nat) (w : World) (hn : n < 0) (h0 : -9223372036854775808 ≤ n) (hN : n = -(N : Int)) :
    Calls Tryd.prog 21 #[.int .i64 n] w (RetStr w (Lib.itoa n)) := by
    have Hi : Hid (Lib.itoa n = 45 :: Lib.decDigits N) := Lib.hid (by unfold Lib.itoa; rw [if_pos hn, hN]; simp)
    have hlen : (Lib.decDigits N).length ≤ 19 := dig_len 18 N (by omega)
    have hw : IntKind.u64.wrap (-IntKind.u64.wrap n) = (N : Int) := by
      have e1 : IntKind.u64.wrap n = n + 18446744073709551616 := by unfold IntKind.wrap; simp [IntKind.bits, IntKind.signed]; omega
      rw [e1]
      unfold IntKind.wrap
      simp [IntKind.bits, IntKind.signed]
      omega
    have Hw := Lib.hid hw
    have hNb : (N : Int) ≤ 9300000000000000000 := by omega
    clear hw hN
    go_enter Tryd.func21, Tryd.ntmps21
    go_wp2
    rw [Hw.out]
    go_loopw [3, 5] (fun u sv wr => ∃ U : Nat, ∃ x : ByteArray, u = .int .u64 U ∧ sv = .string x ∧ U ≤ N ∧ Lib.decDigits N = Lib.decDigits U ++ bl x ∧ x.size ≤ 19 ∧ Below w.heap.size w wr) (fun u _ _ => (intOf u).toNat)
    case atStart => exact ⟨N, ⟨#[]⟩, rfl, rfl, Nat.le_refl _, by simp [bl], by decide, Below.refl _ _⟩
    case round =>
      obtain ⟨U, x, rfl, rfl, hU, hd, hx, hb⟩ := hrel
      have HD := Lib.hid hd
      have HB := Lib.hid hb
      have hz := hb.size
      clear hd hb
      go_wp2
      rw [fmt_conv wr U]
      obtain ⟨t, ht⟩ : ∃ t, bs [dgB U] = t := ⟨_, rfl⟩
      rw [ht]
      have Ht : Hid (bl t = [dgB U]) := Lib.hid (by rw [← ht, bl_bs])
      have hts : t.size = 1 := by rw [← ht, bs_size]; rfl
      have hts' : t.size ≤ 1 := by omega
      have HTS := Lib.hid hts
      have HB3 : Hid (Below w.heap.size w (wr.alloc (.cells #[.int .u8 (48 + (U : Int) % 10)] 5))) := Lib.hid (HB.out.alloc hz _)
      clear ht hts
      by_cases hz0 : U / 10 = 0
      · have t1 : (((U : Int) / 10) == 0) = true := by rw [beq_iff_eq]; omega
        have HL := Lib.hid (fmt_last HD.out hz0)
        clear hz0
        go_wp2
        go_ret
        refine ⟨?_, HB3.out⟩
        rw [Hi.out, HL.out]
        exact ret_str (bl_inj (by rw [bl_bs, bl_append, bl_append, Ht.out]; rfl))
      · have t1 : (((U : Int) / 10) == 0) = false := by rw [beq_eq_false_iff_ne]; omega
        have HM := Lib.hid (fmt_more HD.out hz0)
        have hx2 : x.size ≤ 18 := by
          have h := congrArg List.length HD.out
          rw [List.length_append, bl_len, dig_step U (by omega), List.length_append] at h
          simp only [List.length_cons, List.length_nil] at h
          omega
        have hlt : U / 10 < U := by omega
        clear hz0
        go_wp2
        go_roundw
        case rel => exact ⟨U / 10, t ++ x, by go_num, rfl, by omega, by rw [HM.out, bl_append, Ht.out]; rfl, by rw [ByteArray.size_append, HTS.out]; omega, HB3.out⟩
        case measure => simp [intOf]; omega

theorem refFormat_any (n : Int) (w : World) (h0 : -9223372036854775808 ≤ n) (h1 : n ≤ 9223372036854775807) :
    Calls Tryd.prog 21 #[.int .i64 n] w (RetStr w (Lib.itoa n)) := by
  by_cases hn : n < 0
  · exact refFormat_neg n n.natAbs w hn h0 (by omega)
  · obtain ⟨N, rfl⟩ := Int.eq_ofNat_of_zero_le (show 0 ≤ n by omega)
    exact refFormat_pos N w h1

theorem format_any (n : Int) (w : World) (h0 : -9223372036854775808 ≤ n) (h1 : n ≤ 9223372036854775807) (hg : Glob w) :
    Calls Tryd.prog 20 #[.int .i64 n] w (RetStr w (Lib.itoa n)) := by
  have HT := Lib.hid hg.tab
  clear hg
  go_enter Tryd.func20, Tryd.ntmps20
  go_wp2_with (go_at_call 30; refine (Tryd.strconv_FormatInt_10 n h0 h1 w HT.out).mono ?_; rintro e w1 ⟨rfl, k, os, rfl⟩)
  go_ret
  exact ⟨rfl, ⟨rfl, rfl, rfl, by simp [Go.Sort.grow], fun i hi => by simp [Go.Sort.grow, Array.getElem?_append, hi]⟩⟩
end Go.Proofs.YtfolocahchohdaaDoor
