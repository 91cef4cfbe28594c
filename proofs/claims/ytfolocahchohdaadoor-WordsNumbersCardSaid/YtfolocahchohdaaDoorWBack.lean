/- The laws WordsBack and WordsLimits: what each call does. -/
import Derived.Test.YtfolocahchohdaaDoorWLaws
namespace Go.Proofs.YtfolocahchohdaaDoor
open Go.RowKit WMath

theorem digits_val (N : Nat) : foldD 0 (Lib.decDigits N) = N := by
  induction N using Nat.strongRecOn with
  | _ N ih =>
    by_cases h : N < 10
    · rw [dig_last N h, foldD_cons, foldD_nil]
      unfold stepD
      rw [UInt8.toNat_ofNat']
      omega
    · rw [dig_step N h, foldD_snoc, ih (N / 10) (by omega)]
      unfold stepD
      rw [UInt8.toNat_ofNat']
      omega
theorem digits_all (N : Nat) : (Lib.decDigits N).all digB = true := by
  induction N using Nat.strongRecOn with
  | _ N ih =>
    have hd : ∀ r, r < 10 → digB (UInt8.ofNat (48 + r)) = true := by
      intro r hr
      rw [digB_iff, UInt8.toNat_ofNat']
      omega
    by_cases h : N < 10
    · rw [dig_last N h, List.all_cons, List.all_nil, hd N h]
      rfl
    · rw [dig_step N h, List.all_append, ih (N / 10) (by omega), List.all_cons, List.all_nil, hd (N % 10) (by omega)]
      rfl
theorem digits_head (N : Nat) (hN : 0 < N) : ∃ c r, Lib.decDigits N = c :: r ∧ c ≠ 48 := by
  induction N using Nat.strongRecOn with
  | _ N ih =>
    by_cases h : N < 10
    · refine ⟨_, [], dig_last N h, ?_⟩
      intro e
      have := congrArg UInt8.toNat e
      rw [UInt8.toNat_ofNat'] at this
      have h48 : (48 : UInt8).toNat = 48 := rfl
      omega
    · obtain ⟨c, r, h1, h2⟩ := ih (N / 10) (by omega) (by omega)
      exact ⟨c, _, by rw [dig_step N h, h1]; rfl, h2⟩
theorem isNum_digits (N : Nat) (neg : Bool) (h : neg = true → 0 < N) : isNumB (if neg then 45 :: Lib.decDigits N else Lib.decDigits N) = true ∧ numD (if neg then 45 :: Lib.decDigits N else Lib.decDigits N) = Lib.decDigits N := by
  have hall := digits_all N
  have hfirst : ∀ c r, Lib.decDigits N = c :: r → digB c = true := by
    intro c r e
    rw [e, List.all_cons, Bool.and_eq_true] at hall
    exact hall.1
  cases neg with
  | true =>
    simp only [if_true]
    have hd : numD (45 :: Lib.decDigits N) = Lib.decDigits N := rfl
    refine ⟨?_, hd⟩
    obtain ⟨c, r, h1, h2⟩ := digits_head N (h rfl)
    unfold isNumB
    rw [hd, if_neg (by rw [h1]; simpa using h2), hall, h1]
    rfl
  | false =>
    simp only [Bool.false_eq_true, if_false]
    by_cases h0 : N = 0
    · subst h0
      have : Lib.decDigits 0 = [48] := by rw [dig_last 0 (by omega)]; rfl
      rw [this]
      decide
    · obtain ⟨c, r, h1, h2⟩ := digits_head N (by omega)
      have hc := (digB_iff c).1 (hfirst c r h1)
      have hd : numD (Lib.decDigits N) = Lib.decDigits N := by
        unfold numD
        rw [if_neg]
        rw [h1]
        simp only [List.head?_cons, Option.some.injEq]
        rintro rfl
        revert hc
        decide
      refine ⟨?_, hd⟩
      unfold isNumB
      rw [hd, if_neg (by rw [h1]; simpa using h2), hall, h1]
      rfl
theorem num_itoa (n : Int) (h0 : -9223372036854775808 ≤ n) (h1 : n ≤ 9223372036854775807) : numR (Lib.itoa n) = (n, 0) := by
  have hv : valD (Lib.decDigits n.natAbs) = n.natAbs := digits_val _
  by_cases hn : n < 0
  · have hi : Lib.itoa n = 45 :: Lib.decDigits n.natAbs := by unfold Lib.itoa; rw [if_pos hn]
    obtain ⟨h2, h3⟩ := isNum_digits n.natAbs true (fun _ => by omega)
    simp only [if_true] at h2 h3
    rw [hi, numR_neg _ h2, hv, if_pos (by unfold big63; omega)]
    congr 1
    omega
  · have hi : Lib.itoa n = Lib.decDigits n.natAbs := by unfold Lib.itoa; rw [if_neg hn]; congr 1; omega
    obtain ⟨h2, h3⟩ := isNum_digits n.natAbs false (fun h => by cases h)
    simp only [Bool.false_eq_true, if_false] at h2 h3
    rw [hi]
    unfold numR
    rw [if_pos h2, h3, hv]
    have hne : (Lib.decDigits n.natAbs).head? ≠ some 45 := by
      intro e
      have hall := digits_all n.natAbs
      cases hl : Lib.decDigits n.natAbs with
      | nil => rw [hl] at e; cases e
      | cons c r =>
        rw [hl, List.all_cons, Bool.and_eq_true] at hall
        rw [hl] at e
        simp only [List.head?_cons, Option.some.injEq] at e
        subst e
        revert hall
        rintro ⟨hall, _⟩
        revert hall
        decide
    rw [if_neg hne, if_pos (by unfold big63; omega)]
    congr 1
    omega
theorem itoa_len (n : Int) (h0 : -9223372036854775808 ≤ n) (h1 : n ≤ 9223372036854775807) : (Lib.itoa n).length ≤ 20 := by
  have := dig_len 18 n.natAbs (by omega)
  have h2 := dig_len 18 n.toNat (by omega)
  unfold Lib.itoa
  split
  · simp; omega
  · omega

theorem keptB_join (L : List ByteArray) : (joinR (L.map bl)).1.length ≤ 4096 := by
  unfold joinR
  split
  · simp
  · rename_i h
    simp only [not_or] at h
    simp only
    omega
theorem joinR_code (L : List (List UInt8)) : (joinR L).2 = 0 ∨ joinR L = ([], 3) := by
  unfold joinR
  split
  · right; rfl
  · left; rfl
theorem joinR_fst (L : List (List UInt8)) (h : (joinR L).2 = 0) : (joinR L).1 = joinL L ∧ L.length ≤ 256 := by
  unfold joinR at h ⊢
  split at h
  · cases h
  · rename_i hc
    rw [if_neg hc]
    exact ⟨rfl, by omega⟩
theorem map_bs_bl (L : List ByteArray) : (L.map bl).map bs = L := by
  rw [List.map_map]
  conv => rhs; rw [← List.map_id L]
  exact List.map_congr_left (fun x _ => bs_bl x)

set_option maxHeartbeats 2000000 in
set_option maxRecDepth 100000 in
theorem wordsBack_walk (v : Value) (L : List ByteArray) (n : Int) (w : World) (hg : Glob w) (hv : StrsAt w v L) (hm : L.length ≤ maxLen) (h0 : -9223372036854775808 ≤ n) (h1 : n ≤ 9223372036854775807) :
    Calls Tryd.prog 6 #[v, .int .i64 n] w (RetBool w true) := by
  have HV := Lib.hid hv
  have HG := Lib.hid hg
  have HM := Lib.hid hm
  have HNI := Lib.hid (num_itoa n h0 h1)
  have hil := itoa_len n h0 h1
  obtain ⟨f, hf⟩ : ∃ f, bs (Lib.itoa n) = f := ⟨_, rfl⟩
  have hfs : f.size ≤ 20 := by rw [← hf, bs_size]; exact hil
  have HFN : Hid (numR (bl f) = (n, 0)) := Lib.hid (by rw [← hf, bl_bs]; exact HNI.out)
  have HF := Lib.hid hf
  clear hv hg hm hf
  cases hk : keptB L with
  | false =>
    have HK := Lib.hid hk
    clear hk
    go_enter Tryd.func6, Tryd.ntmps6
    go_wp2_with (first | (go_at_call 9; refine (sane_any w HG.out).mono ?_; rintro e w1 ⟨rfl, hb1⟩; have HB1 := Lib.hid hb1; clear hb1) | (go_at_call 15; refine (kept_any v L w1 (HV.out.below HB1.out) HM.out).mono ?_; rintro e w2 ⟨rfl, rfl⟩; rw [HK.out]))
    go_ret
    exact ⟨rfl, HB1.out⟩
  | true =>
    obtain ⟨hn, hw⟩ := keptB_spec hk
    have HK := Lib.hid hk
    have HW := Lib.hid hw
    have hjl := keptB_join L
    clear hk hw
    rcases joinR_code (L.map bl) with hc | hc
    · have hsp := split_join (L.map bl) hc
      obtain ⟨hfst, hLn⟩ := joinR_fst (L.map bl) hc
      obtain ⟨p, hr⟩ : ∃ p, joinR (L.map bl) = (p, 0) := ⟨_, by rw [← hc]⟩
      rw [hr] at hsp hjl hfst
      simp only at hsp hjl hfst
      have HR := Lib.hid hr
      have HS := Lib.hid hsp
      have hp2 := lines_join2 (L.map bl)
      rw [← hfst] at hp2
      have HP2 := Lib.hid hp2
      clear hr hsp hc hfst hp2
      obtain ⟨m, hm⟩ := HG.out.m
      have Hm := Lib.hid hm
      have hb0 := World.block_lt_of_cell? w _ hm
      simp only at hb0
      have hps := bs_size p
      have hpb := bl_bs p
      obtain ⟨q, hq⟩ : ∃ q, bs p = q := ⟨_, rfl⟩
      rw [hq] at hps hpb
      have Hq := Lib.hid hq
      have HPB := Lib.hid hpb
      have hqs : q.size ≤ 4096 := by omega
      have h10 : (⟨#[10]⟩ : ByteArray).size = 1 := rfl
      have H10 := Lib.hid h10
      have HLN : Hid (bl (q ++ ⟨#[10]⟩ ++ q ++ ⟨#[10]⟩) = p ++ 10 :: (p ++ [10])) := Lib.hid (by rw [bl_append, bl_append, bl_append, hpb]; simp [bl])
      clear hm hps hpb hq h10
      go_enter Tryd.func6, Tryd.ntmps6
      go_wp2_with fail
      refine (sane_any w HG.out).mono ?_
      rintro e w1 ⟨rfl, hb1⟩
      have HB1 := Lib.hid hb1
      have hz1 := hb1.size
      clear hb1
      go_wp2_with fail
      refine (kept_any v L w1 (HV.out.below HB1.out) HM.out).mono ?_
      rw [HK.out]
      rintro e w1' ⟨rfl, rfl⟩
      go_wp2_with fail
      refine (join_any v L w1 (HV.out.below HB1.out) hn HW.out).mono ?_
      rw [HR.out]
      rintro e w2 ⟨he, hb2⟩
      rw [Hq.out] at he
      subst he
      have HB2 := Lib.hid (HB1.out.trans (hb2.mono hz1))
      have hz2 := HB2.out.size
      clear hb2
      go_wp2_with fail
      refine (split_any q w2 (by unfold maxLen; omega)).mono ?_
      rw [HPB.out, HS.out]
      rintro e w3 ⟨v3, rfl, ho3, hb3⟩
      have HO3 := Lib.hid ho3
      have HB3 := Lib.hid (HB2.out.trans (hb3.mono hz2))
      have hz3 := HB3.out.size
      clear ho3 hb3
      go_wp2_with fail
      refine (same_any v3 v ((L.map bl).map bs) L w3 (OwnS_at HO3.out) (HV.out.below HB3.out) (by simp; unfold maxLen; omega) HM.out).mono ?_
      rw [map_bs_bl, sameB_self]
      rintro e w4 ⟨rfl, hb4⟩
      have HB4 := Lib.hid (HB3.out.trans (hb4.mono hz3))
      have hz4 := HB4.out.size
      clear hb4
      go_wp2_with fail
      refine (lines_any _ w4 m ((HB4.out.cell (p := ⟨0, 0, none⟩) (by simpa using hb0)).trans Hm.out) (by simp only [ByteArray.size_append, H10.out]; omega)).mono ?_
      rw [HLN.out, HP2.out]
      rintro e w5 ⟨v5, rfl, ho5, hb5⟩
      obtain ⟨g5, c5, rfl, hgl5, _, hc5⟩ := OwnS_cells ho5 (by simp)
      have hHB5 := HB4.out.trans (hb5.mono hz4)
      have HB5 := Lib.hid hHB5
      have hz5 := hHB5.size
      have hc50 : w5.cell? ⟨g5, 0, none⟩ = some (.string q) := by rw [← Hq.out]; exact hc5 0 (by simp)
      have hc51 : w5.cell? ⟨g5, 1, none⟩ = some (.string q) := by rw [← Hq.out]; exact hc5 1 (by simp)
      clear ho5 hb5 hc5 hHB5
      go_wp2_with fail
      refine (format_any n w5 h0 h1 (HG.out.below HB5.out)).mono ?_
      rintro e w6 ⟨he, hb6⟩
      rw [HF.out] at he
      subst he
      have HB6 := Lib.hid (HB5.out.trans (hb6.mono hz5))
      have hz6 := HB6.out.size
      clear hb6
      go_wp2_with fail
      refine (number_any f w6 (by omega) (HG.out.below HB6.out)).mono ?_
      rw [HFN.out]
      rintro e w7 ⟨rfl, hb7⟩
      have HB7 := Lib.hid (HB6.out.trans (hb7.mono hz6))
      clear hb7
      go_wp2_with fail
      go_ret
      exact ⟨rfl, HB7.out⟩
    · have HR := Lib.hid hc
      clear hc
      go_enter Tryd.func6, Tryd.ntmps6
      go_wp2_with fail
      refine (sane_any w HG.out).mono ?_
      rintro e w1 ⟨rfl, hb1⟩
      have HB1 := Lib.hid hb1
      have hz1 := hb1.size
      clear hb1
      go_wp2_with fail
      refine (kept_any v L w1 (HV.out.below HB1.out) HM.out).mono ?_
      rw [HK.out]
      rintro e w1' ⟨rfl, rfl⟩
      go_wp2_with fail
      refine (join_any v L w1 (HV.out.below HB1.out) hn HW.out).mono ?_
      rw [HR.out]
      rintro e w2 ⟨rfl, hb2⟩
      have HB2 := Lib.hid (HB1.out.trans (hb2.mono hz1))
      have hz2 := HB2.out.size
      clear hb2
      go_wp2_with fail
      refine (format_any n w2 h0 h1 (HG.out.below HB2.out)).mono ?_
      rintro e w6 ⟨he, hb6⟩
      rw [HF.out] at he
      subst he
      have HB6 := Lib.hid (HB2.out.trans (hb6.mono hz2))
      have hz6 := HB6.out.size
      clear hb6
      go_wp2_with fail
      refine (number_any f w6 (by omega) (HG.out.below HB6.out)).mono ?_
      rw [HFN.out]
      rintro e w7 ⟨rfl, hb7⟩
      have HB7 := Lib.hid (HB6.out.trans (hb7.mono hz6))
      clear hb7
      go_wp2_with fail
      go_ret
      exact ⟨rfl, HB7.out⟩
end Go.Proofs.YtfolocahchohdaaDoor
