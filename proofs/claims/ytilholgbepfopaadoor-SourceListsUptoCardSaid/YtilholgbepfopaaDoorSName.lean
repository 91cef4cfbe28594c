/- Names (of the code). -/
import Derived.Test.YtilholgbepfopaaDoorTName
import Derived.Test.YtilholgbepfopaaDoorWKit
namespace Go.Proofs.YtilholgbepfopaaDoor
open Go.RowKit

def ltrB (c : Int) : Bool := decide (97 ≤ c) && decide (c ≤ 122)
def digB (c : Int) : Bool := decide (48 ≤ c) && decide (c ≤ 57)
theorem letter_any (c : Int) (w : World) : Calls Tryd.prog 25 #[.int .u8 c] w (fun e w' => e = .returned (.bool (ltrB c)) ∧ w' = w) := by
  go_enter Tryd.func25, Tryd.ntmps25
  by_cases h1 : 97 ≤ c
  · by_cases h2 : c ≤ 122
    · have HB : Hid (ltrB c = true) := Lib.hid (by unfold ltrB; simp [h1, h2])
      go_wp2
      go_ret
      exact ⟨by rw [HB.out]; rfl, rfl⟩
    · have HB : Hid (ltrB c = false) := Lib.hid (by unfold ltrB; simp [h2])
      go_wp2
      go_ret
      exact ⟨by rw [HB.out]; rfl, rfl⟩
  · have HB : Hid (ltrB c = false) := Lib.hid (by unfold ltrB; simp [h1])
    go_wp2
    go_ret
    exact ⟨by rw [HB.out]; rfl, rfl⟩
theorem digit_any (c : Int) (w : World) : Calls Tryd.prog 26 #[.int .u8 c] w (fun e w' => e = .returned (.bool (digB c)) ∧ w' = w) := by
  go_enter Tryd.func26, Tryd.ntmps26
  by_cases h1 : 48 ≤ c
  · by_cases h2 : c ≤ 57
    · have HB : Hid (digB c = true) := Lib.hid (by unfold digB; simp [h1, h2])
      go_wp2
      go_ret
      exact ⟨by rw [HB.out]; rfl, rfl⟩
    · have HB : Hid (digB c = false) := Lib.hid (by unfold digB; simp [h2])
      go_wp2
      go_ret
      exact ⟨by rw [HB.out]; rfl, rfl⟩
  · have HB : Hid (digB c = false) := Lib.hid (by unfold digB; simp [h1])
    go_wp2
    go_ret
    exact ⟨by rw [HB.out]; rfl, rfl⟩

theorem lst_ne {s : ByteArray} {l : List UInt8} (h : ¬ s = ⟨l.toArray⟩) : (s.toList == l) = false := by
  rw [beq_eq_false_iff_ne]
  intro e
  refine h (ByteArray.ext (Array.toList_inj.1 ?_))
  rw [ByteArray.toList_eq] at e
  exact e
theorem lst_eq {s : ByteArray} {l : List UInt8} (h : s = ⟨l.toArray⟩) : (s.toList == l) = true := by
  subst h
  rw [beq_iff_eq, ByteArray.toList_eq]

set_option maxHeartbeats 1000000 in
set_option maxRecDepth 100000 in
theorem sreserved_any (s : ByteArray) (w : World) (hg : Glob w) : Calls Tryd.prog 27 #[.string s] w (RetB w (isRes s)) := by
  have HG := Lib.hid hg
  clear hg
  go_enter Tryd.func27, Tryd.ntmps27
  by_cases h0 : s = ⟨#[110, 105, 108]⟩
  · have q0 := lst_eq (l := [110, 105, 108]) h0
    have HR := Lib.hid (res_yes (k := 0) rfl h0.symm)
    clear h0
    go_wp2_with fail
    go_ret
    exact retB HR.out.symm (Below.refl _ _)
  have H0 := Lib.hid h0
  have q0 := lst_ne (l := [110, 105, 108]) h0
  clear h0
  by_cases h1 : s = ⟨#[102, 105, 101, 108, 100]⟩
  · have q1 := lst_eq (l := [102, 105, 101, 108, 100]) h1
    have HR := Lib.hid (res_yes (k := 1) rfl h1.symm)
    clear h1
    go_wp2_with fail
    go_ret
    exact retB HR.out.symm (Below.refl _ _)
  have H1 := Lib.hid h1
  have q1 := lst_ne (l := [102, 105, 101, 108, 100]) h1
  clear h1
  by_cases h2 : s = ⟨#[110, 101, 119]⟩
  · have q2 := lst_eq (l := [110, 101, 119]) h2
    have HR := Lib.hid (res_yes (k := 2) rfl h2.symm)
    clear h2
    go_wp2_with fail
    go_ret
    exact retB HR.out.symm (Below.refl _ _)
  have H2 := Lib.hid h2
  have q2 := lst_ne (l := [110, 101, 119]) h2
  clear h2
  by_cases h3 : s = ⟨#[102, 117, 110, 99]⟩
  · have q3 := lst_eq (l := [102, 117, 110, 99]) h3
    have HR := Lib.hid (res_yes (k := 3) rfl h3.symm)
    clear h3
    go_wp2_with fail
    go_ret
    exact retB HR.out.symm (Below.refl _ _)
  have H3 := Lib.hid h3
  have q3 := lst_ne (l := [102, 117, 110, 99]) h3
  clear h3
  by_cases h4 : s = ⟨#[115, 101, 116]⟩
  · have q4 := lst_eq (l := [115, 101, 116]) h4
    have HR := Lib.hid (res_yes (k := 4) rfl h4.symm)
    clear h4
    go_wp2_with fail
    go_ret
    exact retB HR.out.symm (Below.refl _ _)
  have H4 := Lib.hid h4
  have q4 := lst_ne (l := [115, 101, 116]) h4
  clear h4
  by_cases h5 : s = ⟨#[115, 116, 111, 114, 101]⟩
  · have q5 := lst_eq (l := [115, 116, 111, 114, 101]) h5
    have HR := Lib.hid (res_yes (k := 5) rfl h5.symm)
    clear h5
    go_wp2_with fail
    go_ret
    exact retB HR.out.symm (Below.refl _ _)
  have H5 := Lib.hid h5
  have q5 := lst_ne (l := [115, 116, 111, 114, 101]) h5
  clear h5
  by_cases h6 : s = ⟨#[99, 97, 108, 108]⟩
  · have q6 := lst_eq (l := [99, 97, 108, 108]) h6
    have HR := Lib.hid (res_yes (k := 6) rfl h6.symm)
    clear h6
    go_wp2_with fail
    go_ret
    exact retB HR.out.symm (Below.refl _ _)
  have H6 := Lib.hid h6
  have q6 := lst_ne (l := [99, 97, 108, 108]) h6
  clear h6
  by_cases h7 : s = ⟨#[105, 102]⟩
  · have q7 := lst_eq (l := [105, 102]) h7
    have HR := Lib.hid (res_yes (k := 7) rfl h7.symm)
    clear h7
    go_wp2_with fail
    go_ret
    exact retB HR.out.symm (Below.refl _ _)
  have H7 := Lib.hid h7
  have q7 := lst_ne (l := [105, 102]) h7
  clear h7
  by_cases h8 : s = ⟨#[101, 108, 115, 101]⟩
  · have q8 := lst_eq (l := [101, 108, 115, 101]) h8
    have HR := Lib.hid (res_yes (k := 8) rfl h8.symm)
    clear h8
    go_wp2_with fail
    go_ret
    exact retB HR.out.symm (Below.refl _ _)
  have H8 := Lib.hid h8
  have q8 := lst_ne (l := [101, 108, 115, 101]) h8
  clear h8
  by_cases h9 : s = ⟨#[102, 111, 114]⟩
  · have q9 := lst_eq (l := [102, 111, 114]) h9
    have HR := Lib.hid (res_yes (k := 9) rfl h9.symm)
    clear h9
    go_wp2_with fail
    go_ret
    exact retB HR.out.symm (Below.refl _ _)
  have H9 := Lib.hid h9
  have q9 := lst_ne (l := [102, 111, 114]) h9
  clear h9
  by_cases h10 : s = ⟨#[119, 104, 105, 108, 101]⟩
  · have q10 := lst_eq (l := [119, 104, 105, 108, 101]) h10
    have HR := Lib.hid (res_yes (k := 10) rfl h10.symm)
    clear h10
    go_wp2_with fail
    go_ret
    exact retB HR.out.symm (Below.refl _ _)
  have H10 := Lib.hid h10
  have q10 := lst_ne (l := [119, 104, 105, 108, 101]) h10
  clear h10
  by_cases h11 : s = ⟨#[114, 101, 116, 117, 114, 110]⟩
  · have q11 := lst_eq (l := [114, 101, 116, 117, 114, 110]) h11
    have HR := Lib.hid (res_yes (k := 11) rfl h11.symm)
    clear h11
    go_wp2_with fail
    go_ret
    exact retB HR.out.symm (Below.refl _ _)
  have H11 := Lib.hid h11
  have q11 := lst_ne (l := [114, 101, 116, 117, 114, 110]) h11
  clear h11
  by_cases h12 : s = ⟨#[116, 104, 114, 111, 119]⟩
  · have q12 := lst_eq (l := [116, 104, 114, 111, 119]) h12
    have HR := Lib.hid (res_yes (k := 12) rfl h12.symm)
    clear h12
    go_wp2_with fail
    go_ret
    exact retB HR.out.symm (Below.refl _ _)
  have H12 := Lib.hid h12
  have q12 := lst_ne (l := [116, 104, 114, 111, 119]) h12
  clear h12
  by_cases h13 : s = ⟨#[116, 114, 121]⟩
  · have q13 := lst_eq (l := [116, 114, 121]) h13
    have HR := Lib.hid (res_yes (k := 13) rfl h13.symm)
    clear h13
    go_wp2_with fail
    go_ret
    exact retB HR.out.symm (Below.refl _ _)
  have H13 := Lib.hid h13
  have q13 := lst_ne (l := [116, 114, 121]) h13
  clear h13
  by_cases h14 : s = ⟨#[99, 97, 116, 99, 104]⟩
  · have q14 := lst_eq (l := [99, 97, 116, 99, 104]) h14
    have HR := Lib.hid (res_yes (k := 14) rfl h14.symm)
    clear h14
    go_wp2_with fail
    go_ret
    exact retB HR.out.symm (Below.refl _ _)
  have H14 := Lib.hid h14
  have q14 := lst_ne (l := [99, 97, 116, 99, 104]) h14
  clear h14
  by_cases h15 : s = ⟨#[101, 109, 105, 116]⟩
  · have q15 := lst_eq (l := [101, 109, 105, 116]) h15
    have HR := Lib.hid (res_yes (k := 15) rfl h15.symm)
    clear h15
    go_wp2_with fail
    go_ret
    exact retB HR.out.symm (Below.refl _ _)
  have H15 := Lib.hid h15
  have q15 := lst_ne (l := [101, 109, 105, 116]) h15
  clear h15
  by_cases h16 : s = ⟨#[97, 115, 107]⟩
  · have q16 := lst_eq (l := [97, 115, 107]) h16
    have HR := Lib.hid (res_yes (k := 16) rfl h16.symm)
    clear h16
    go_wp2_with fail
    go_ret
    exact retB HR.out.symm (Below.refl _ _)
  have H16 := Lib.hid h16
  have q16 := lst_ne (l := [97, 115, 107]) h16
  clear h16
  by_cases h17 : s = ⟨#[114, 101, 100, 117, 99, 101]⟩
  · have q17 := lst_eq (l := [114, 101, 100, 117, 99, 101]) h17
    have HR := Lib.hid (res_yes (k := 17) rfl h17.symm)
    clear h17
    go_wp2_with fail
    go_ret
    exact retB HR.out.symm (Below.refl _ _)
  have H17 := Lib.hid h17
  have q17 := lst_ne (l := [114, 101, 100, 117, 99, 101]) h17
  clear h17
  by_cases h18 : s = ⟨#[101, 110, 100]⟩
  · have q18 := lst_eq (l := [101, 110, 100]) h18
    have HR := Lib.hid (res_yes (k := 18) rfl h18.symm)
    clear h18
    go_wp2_with fail
    go_ret
    exact retB HR.out.symm (Below.refl _ _)
  have H18 := Lib.hid h18
  have q18 := lst_ne (l := [101, 110, 100]) h18
  clear h18
  have HN : Hid (NoRes s 19) := Lib.hid (fun j x hj hx => by
    have : j = 0 ∨ j = 1 ∨ j = 2 ∨ j = 3 ∨ j = 4 ∨ j = 5 ∨ j = 6 ∨ j = 7 ∨ j = 8 ∨ j = 9 ∨ j = 10 ∨ j = 11 ∨ j = 12 ∨ j = 13 ∨ j = 14 ∨ j = 15 ∨ j = 16 ∨ j = 17 ∨ j = 18 := by omega
    rcases this with rfl | rfl | rfl | rfl | rfl | rfl | rfl | rfl | rfl | rfl | rfl | rfl | rfl | rfl | rfl | rfl | rfl | rfl | rfl
    · exact Option.some.inj hx ▸ fun e => H0.out e.symm
    · exact Option.some.inj hx ▸ fun e => H1.out e.symm
    · exact Option.some.inj hx ▸ fun e => H2.out e.symm
    · exact Option.some.inj hx ▸ fun e => H3.out e.symm
    · exact Option.some.inj hx ▸ fun e => H4.out e.symm
    · exact Option.some.inj hx ▸ fun e => H5.out e.symm
    · exact Option.some.inj hx ▸ fun e => H6.out e.symm
    · exact Option.some.inj hx ▸ fun e => H7.out e.symm
    · exact Option.some.inj hx ▸ fun e => H8.out e.symm
    · exact Option.some.inj hx ▸ fun e => H9.out e.symm
    · exact Option.some.inj hx ▸ fun e => H10.out e.symm
    · exact Option.some.inj hx ▸ fun e => H11.out e.symm
    · exact Option.some.inj hx ▸ fun e => H12.out e.symm
    · exact Option.some.inj hx ▸ fun e => H13.out e.symm
    · exact Option.some.inj hx ▸ fun e => H14.out e.symm
    · exact Option.some.inj hx ▸ fun e => H15.out e.symm
    · exact Option.some.inj hx ▸ fun e => H16.out e.symm
    · exact Option.some.inj hx ▸ fun e => H17.out e.symm
    · exact Option.some.inj hx ▸ fun e => H18.out e.symm)
  go_wp2_with fail
  refine (op_any s _ HG.out).mono ?_
  rintro e w2 ⟨rfl, hb⟩
  go_wp2
  go_ret
  exact retB (res_no HN.out).symm hb

theorem isNm_big {s : ByteArray} (h : 16 < s.size) : isNm s = false := by unfold isNm; simp; omega
theorem isNm_zero {s : ByteArray} (h : s.size = 0) : isNm s = false := by unfold isNm; simp; omega
theorem emp0 {s : ByteArray} (h : s.size = 0) : s.toList.isEmpty = true := by
  rw [ByteArray.toList_eq]
  have : s.data.toList.length = 0 := by simpa using h
  rw [List.length_eq_zero_iff.1 this]
  rfl
theorem emp1 {s : ByteArray} (h : 0 < s.size) : s.toList.isEmpty = false := by
  rw [ByteArray.toList_eq]
  have : 0 < s.data.toList.length := by simpa using h
  cases hh : s.data.toList with
  | nil => rw [hh] at this; simp at this
  | cons x l => rfl
theorem ltr_ok {i b : Nat} (h : ltrB (b : Int) = true) : okB i b = true := by
  unfold ltrB at h
  unfold okB
  simp at h ⊢
  omega
theorem dig_ok {i b : Nat} (hi : 0 < i) (h : digB (b : Int) = true) : okB i b = true := by
  unfold digB at h
  unfold okB
  simp at h ⊢
  omega
theorem first_bad {b : Nat} (h : ltrB (b : Int) = false) : okB 0 b = false := by
  unfold ltrB at h
  unfold okB
  simp at h ⊢
  omega
theorem both_bad {i b : Nat} (h : ltrB (b : Int) = false) (h2 : digB (b : Int) = false) : okB i b = false := by
  unfold ltrB at h
  unfold digB at h2
  unfold okB
  simp at h h2 ⊢
  omega

set_option maxHeartbeats 1000000 in
set_option maxRecDepth 100000 in
theorem sname_any (s : ByteArray) (w : World) (hg : Glob w) : Calls Tryd.prog 10 #[.string s] w (RetB w (isNm s)) := by
  obtain ⟨W, c, hcv, hB, hcell, hsz⟩ := bytes_of_string (P := Tryd.prog) w 9 47 5 s Tryd.underlying9 Tryd.underlying47 Tryd.underlying5
  have HB := Lib.hid hB
  have HG := Lib.hid (hg.below hB)
  have HCV := Lib.hid hcv
  clear hB hsz hg hcv
  go_enter Tryd.func10, Tryd.ntmps10
  by_cases h0 : 0 < s.size
  · have e0 := emp1 h0
    by_cases h1 : s.size ≤ 16
    · have t1 : ¬ (16 : Int) < (s.size : Int) := by omega
      go_wp2_with fail
      refine (letter_any _ _).mono ?_
      rintro e w1 ⟨rfl, rfl⟩
      cases hl : ltrB s[0].toNat with
      | false =>
        have HR := Lib.hid (nm_bad h0 (first_bad hl))
        clear hl
        go_wp2_with fail
        go_ret
        exact retB HR.out.symm (Below.refl _ _)
      | true =>
        have HL := Lib.hid (ltr_ok (i := 0) hl)
        clear hl
        have hcv := HCV.out
        go_wp2_with fail
        clear hcv HCV
        go_loop [4, 21] (fun _ i_ => ∃ k : Nat, k ≤ s.size ∧ i_ = .int .i64 k ∧ NmOK s k) (fun _ i_ => s.size - (intOf i_).toNat)
        case atStart => exact ⟨0, Nat.zero_le _, rfl, fun j _ hj => by omega⟩
        case round =>
          obtain ⟨k, hk, rfl, hN⟩ := hrel
          have HN := Lib.hid hN
          clear hN
          by_cases hlt : k < s.size
          · have hc := hcell k hlt
            have hki : (k : Int) < (s.size : Int) := by omega
            clear hcell
            go_wp2_with fail
            refine (letter_any _ _).mono ?_
            rintro e w1 ⟨rfl, rfl⟩
            cases hl : ltrB s[k].toNat with
            | true =>
              have HF := Lib.hid (HN.out.succ hlt (ltr_ok hl))
              clear hl
              go_wp2_with fail
              go_round
              case rel => exact ⟨k + 1, by omega, by go_num, HF.out⟩
              case measure => simp [intOf]; omega
            | false =>
              have HLF := Lib.hid hl
              clear hl
              go_wp2_with fail
              refine (digit_any _ _).mono ?_
              rintro e w1 ⟨rfl, rfl⟩
              cases hd : digB s[k].toNat with
              | true =>
                have HF := Lib.hid (HN.out.succ hlt (by
                  rcases Nat.eq_zero_or_pos k with rfl | hk0
                  · exact HL.out
                  · exact dig_ok hk0 hd))
                clear hd
                go_wp2_with fail
                go_round
                case rel => exact ⟨k + 1, by omega, by go_num, HF.out⟩
                case measure => simp [intOf]; omega
              | false =>
                have HR := Lib.hid (nm_bad hlt (both_bad HLF.out hd))
                clear hd
                go_wp2_with fail
                go_ret
                exact retB HR.out.symm HB.out
          · obtain rfl : k = s.size := by omega
            have HA := Lib.hid (nm_all HN.out)
            have HZ : Hid (isNm s = !isRes s) := Lib.hid (by rw [HA.out]; simp [h0, h1])
            clear hcell
            go_wp2_with fail
            refine (sreserved_any s _ HG.out).mono ?_
            rintro e w2 ⟨rfl, hb⟩
            go_wp2
            go_ret
            exact retB (by rw [HZ.out]) (HB.out.then_' hb)
    · have t1 : (16 : Int) < (s.size : Int) := by omega
      have HR := Lib.hid (isNm_big (show 16 < s.size by omega))
      go_wp2_with fail
      go_ret
      exact retB HR.out.symm (Below.refl _ _)
  · have hz : s.size = 0 := by omega
    have e0 := emp0 hz
    have HR := Lib.hid (isNm_zero hz)
    clear hz
    go_wp2_with fail
    go_ret
    exact retB HR.out.symm (Below.refl _ _)
end Go.Proofs.YtilholgbepfopaaDoor
