/- Number, of the reference. -/
import Derived.Test.YtfolocahchohdaaDoorWFmt
namespace Go.Proofs.YtfolocahchohdaaDoor
open Go.RowKit WMath

/-- what the reference refuses before it looks at the digits -/
def earlyB (s d : ByteArray) : Bool := decide (d.size = 0 ∨ (1 < d.size ∧ (bl d).head? = some 48) ∨ (mB s = true ∧ bl d = [48]))
theorem early_no (s d : ByteArray) (hd : bl d = numD (bl s)) (h : earlyB s d = true) : isNumB (bl s) = false := by
  have h := of_decide_eq_true h
  rcases h with h | ⟨h1, h2⟩ | ⟨h1, h2⟩
  · exact isNumB_nil s (by rw [← hd]; exact (bl_empty d).2 h)
  · unfold isNumB
    rw [← hd, if_pos h2]
    have : bl s ≠ [48] := by
      intro e
      have hn : numD (bl s) = [48] := by rw [e]; rfl
      have hl := congrArg List.length (hd.trans hn)
      rw [bl_len] at hl
      simp at hl
      omega
    simp [this]
  · unfold isNumB
    rw [← hd, h2]
    have : bl s ≠ [48] := by
      intro e
      unfold mB at h1
      rw [e] at h1
      cases h1
    simp [this]
theorem early_ok (s d : ByteArray) (hd : bl d = numD (bl s)) (h : earlyB s d = false) : isNumB (bl s) = (bl d).all digB := by
  have h := of_decide_eq_false h
  simp only [not_or, not_and] at h
  obtain ⟨h0, h1, h2⟩ := h
  have hne : bl d ≠ [] := fun e => h0 ((bl_empty d).1 e)
  unfold isNumB
  rw [← hd]
  have he : (bl d).isEmpty = false := by cases hb : bl d with | nil => exact absurd hb hne | cons a t => rfl
  rw [he]
  by_cases hh : (bl d).head? = some 48
  · rw [if_pos hh]
    have hs1 : ¬ 1 < d.size := fun hlt => h1 hlt hh
    have hl : (bl d).length = 1 := by rw [bl_len]; omega
    have h48 : bl d = [48] := by
      match hb : bl d, hl with
      | [a], _ => rw [hb] at hh; simpa using hh
    have hm : mB s = false := by
      cases hm : mB s with
      | false => rfl
      | true => exact absurd h48 (h2 hm)
    have hs : bl s = [48] := by rw [numD_plain' s hm, ← hd, h48]
    rw [hs, h48]
    rfl
  · rw [if_neg hh]
    rfl
theorem head0 (d : ByteArray) (h : 0 < d.size) (c : UInt8) : (bl d).head? = some c ↔ d[0] = c := by rw [head_get d h]; simp
theorem ne48_long (d : ByteArray) (h : 1 < d.size) : bl d ≠ [48] := by
  intro e
  have := congrArg List.length e
  rw [bl_len] at this
  simp at this
  omega
theorem is48 (d : ByteArray) (h : d.size = 1) (h2 : 0 < d.size) : bl d = [48] ↔ d[0] = 48 := by
  rw [← head0 d h2]
  have hl : (bl d).length = 1 := by rw [bl_len]; exact h
  match hb : bl d, hl with
  | [a], _ => simp

/-- the number so far: exact while it is not over, and over else -/
def NRel (V : Nat) (b : Bool) (U : Int) : Prop := if b then big63 < V else (U = (V : Int) ∧ V ≤ big63)
theorem NRel.start {l : List UInt8} : NRel (foldD 0 (l.take 0)) false 0 := ⟨by rw [List.take_zero, foldD_nil]; rfl, by rw [List.take_zero, foldD_nil]; exact Nat.zero_le _⟩
theorem NRel.over {V : Nat} {U X : Int} {c : UInt8} (h : NRel V true U) : NRel (stepD V c) true X := by
  have h : big63 < V := h
  have : V ≤ stepD V c := by unfold stepD; omega
  exact (by omega : big63 < stepD V c)
theorem NRel.nat {V : Nat} {U : Int} (h : NRel V false U) : ∃ n : Nat, U = (n : Int) ∧ n ≤ 9223372036854775808 ∧ n = V := by
  obtain ⟨h1, h2⟩ : U = (V : Int) ∧ V ≤ big63 := h
  exact ⟨V, h1, h2, rfl⟩

theorem u64_wrap (n : Int) : IntKind.u64.wrap n = n % 18446744073709551616 := by unfold IntKind.wrap; simp [IntKind.bits, IntKind.signed]
theorem NRel.step {V : Nat} {c : UInt8} (h1 : (48 : Int) ≤ (c.toNat : Int)) (h2 : (c.toNat : Int) ≤ 57) (hV : V ≤ 9223372036854775808) :
    NRel (stepD V c) (decide ((9223372036854775808 - ((c.toNat : Int) - 48)) / 10 < (V : Int))) (IntKind.u64.wrap (IntKind.u64.wrap ((V : Int) * 10) + ((c.toNat : Int) - 48))) := by
  by_cases h : (9223372036854775808 - ((c.toNat : Int) - 48)) / 10 < (V : Int)
  · rw [decide_eq_true h]
    exact (by unfold stepD big63; omega : big63 < stepD V c)
  · rw [decide_eq_false h]
    refine (⟨?_, ?_⟩ : _ = ((stepD V c : Nat) : Int) ∧ stepD V c ≤ big63)
    · rw [u64_wrap, u64_wrap]
      unfold stepD
      omega
    · unfold stepD big63
      omega
theorem numR_over (l : List UInt8) (h : isNumB l = true) (hv : big63 < valD (numD l)) : numR l = (0, 2) := by
  unfold numR
  rw [if_pos h]
  split
  · rw [if_neg (by omega)]
  · rw [if_neg (by omega)]
theorem numR_minus (s : ByteArray) (h : isNumB (bl s) = true) (hm : mB s = true) (hv : valD (numD (bl s)) ≤ big63) : numR (bl s) = (-(valD (numD (bl s)) : Int), 0) := by
  unfold numR
  rw [if_pos h, if_pos (of_decide_eq_true hm), if_pos hv]
theorem numR_top (s : ByteArray) (h : isNumB (bl s) = true) (hm : mB s = false) (hv : valD (numD (bl s)) = big63) : numR (bl s) = (0, 2) := by
  unfold numR
  rw [if_pos h, if_neg (of_decide_eq_false hm), if_neg (by omega)]
theorem numR_plus (s : ByteArray) (h : isNumB (bl s) = true) (hm : mB s = false) (hv : valD (numD (bl s)) < 9223372036854775808) : numR (bl s) = ((valD (numD (bl s)) : Int), 0) := by
  have hv : valD (numD (bl s)) < big63 := hv
  unfold numR
  rw [if_pos h, if_neg (of_decide_eq_false hm), if_pos hv]
theorem neg_wrap {V : Nat} (h : V ≤ 9223372036854775808) : IntKind.i64.wrap (-IntKind.i64.wrap (V : Int)) = -(V : Int) := by
  by_cases h1 : V = 9223372036854775808
  · subst h1; decide
  · rw [IntWalk.i64_in (V : Int) (by omega), IntWalk.i64_in _ (by omega)]
theorem neg_wrap64 {V : Nat} (h : V ≤ 9223372036854775808) : wrap64 (-wrap64 (V : Int)) = -(V : Int) := by
  rw [← IntWalk.i64_left, ← IntWalk.i64_left]
  exact neg_wrap h
theorem ret_int2 {a b : Int} (h : a = b) : Ending.returned (.tuple #[.int .i64 a, .int .i64 0]) = .returned (.tuple #[.int .i64 b, .int .i64 ((0 : Nat) : Int)]) := by rw [h]; rfl

set_option maxHeartbeats 1000000 in
set_option maxRecDepth 100000 in
theorem refNumber_any (s : ByteArray) (w : World) (hs : s.size ≤ 1000) :
    Calls Tryd.prog 19 #[.string s] w (RetIN w (numR (bl s))) := by
  go_enter Tryd.func19, Tryd.ntmps19
  go_upto_region 2 with (fail)
  go_cut [17] (fun b wx => b = .bool (mB s) ∧ wx = w)
  case first =>
    by_cases h0 : s.size = 0
    · have hse : s = ⟨#[]⟩ := bl_inj ((bl_empty s).2 h0)
      have HM : Hid (mB s = false) := Lib.hid (by rw [hse]; rfl)
      have hne : s.toList.isEmpty = true := by rw [bl_toList, (bl_empty s).2 h0]; rfl
      clear h0 hse
      go_wp2
      go_meet
      exact ⟨by rw [HM.out], rfl⟩
    · have hne := ne_toList h0
      have hpos : 0 < s.size := by omega
      by_cases h45 : s[0] = 45
      · have t1 : ((s[0].toNat : Int) == 45) = true := u8_t (c := 45) h45
        have HM : Hid (mB s = true) := Lib.hid (by unfold mB; rw [head_get s hpos, h45]; rfl)
        clear h45 h0
        go_wp2
        go_meet
        exact ⟨by rw [HM.out], rfl⟩
      · have t1 : ((s[0].toNat : Int) == 45) = false := u8_f (c := 45) h45
        have HM : Hid (mB s = false) := Lib.hid (by unfold mB; rw [head_get s hpos]; simpa using h45)
        clear h45 h0
        go_wp2
        go_meet
        exact ⟨by rw [HM.out], rfl⟩
  case rest =>
    obtain ⟨rfl, rfl⟩ := hcut
    go_upto_if 17 with (fail)
    go_cut [4, 5] (fun d b wx => ∃ d' : ByteArray, d = .string d' ∧ b = .bool (mB s) ∧ bl d' = numD (bl s) ∧ d'.size ≤ 1000 ∧ wx = wc)
    case first =>
      cases hm : mB s with
      | true =>
        have HD := Lib.hid (numD_minus' s hm)
        have hpos := mB_pos s hm
        have HM := Lib.hid hm
        clear hm
        go_wp2
        go_meet
        exact ⟨_, rfl, by rw [HM.out], HD.out, by simp; omega, rfl⟩
      | false =>
        have HD := Lib.hid (numD_plain' s hm)
        have HM := Lib.hid hm
        clear hm
        go_wp2
        go_meet
        exact ⟨_, rfl, by rw [HM.out], HD.out, hs, rfl⟩
    case rest =>
      obtain ⟨d, rfl, rfl, hd, hds, rfl⟩ := hcut
      have HD := Lib.hid hd
      clear hd
      go_upto_region 4 with (fail)
      go_cut [5, 38] (fun n b wx => n = .bool (mB s) ∧ b = .bool (earlyB s d) ∧ wx = wc)
      case first =>
        by_cases h0 : d.size = 0
        · have hne : d.toList.isEmpty = true := by rw [bl_toList, (bl_empty d).2 h0]; rfl
          have HE : Hid (earlyB s d = true) := Lib.hid (decide_eq_true (.inl h0))
          clear h0
          go_wp2
          go_meet
          exact ⟨rfl, by rw [HE.out], rfl⟩
        · have hne := ne_toList h0
          have hpos : 0 < d.size := by omega
          by_cases h1 : 1 < d.size
          · have e48 : (d.toList == [48]) = false := by rw [eq0_iff]; exact decide_eq_false (ne48_long d h1)
            by_cases h48 : d[0] = 48
            · have t1 : ((d[0].toNat : Int) == 48) = true := u8_t (c := 48) h48
              have HE : Hid (earlyB s d = true) := Lib.hid (decide_eq_true (.inr (.inl ⟨h1, (head0 d hpos 48).2 h48⟩)))
              clear h48 h0
              go_wp2
              go_meet
              exact ⟨rfl, by rw [HE.out], rfl⟩
            · have t1 : ((d[0].toNat : Int) == 48) = false := u8_f (c := 48) h48
              have HE : Hid (earlyB s d = false) := Lib.hid (decide_eq_false (by
                rintro (h | ⟨_, h⟩ | ⟨_, h⟩)
                · exact h0 h
                · exact h48 ((head0 d hpos 48).1 h)
                · exact ne48_long d h1 h))
              clear h48 h0
              cases hm : mB s with
              | true =>
                have HM := Lib.hid hm
                clear hm
                go_wp2
                go_meet
                exact ⟨by rw [HM.out], by rw [HE.out], rfl⟩
              | false =>
                have HM := Lib.hid hm
                clear hm
                go_wp2
                go_meet
                exact ⟨by rw [HM.out], by rw [HE.out], rfl⟩
          · have h11 : d.size = 1 := by omega
            cases hm : mB s with
            | false =>
              have HE : Hid (earlyB s d = false) := Lib.hid (decide_eq_false (by
                rintro (h | ⟨h, _⟩ | ⟨h, _⟩)
                · exact h0 h
                · exact h1 h
                · rw [hm] at h; cases h))
              have HM := Lib.hid hm
              clear hm h11 h0
              go_wp2
              go_meet
              exact ⟨by rw [HM.out], by rw [HE.out], rfl⟩
            | true =>
              by_cases h48 : d[0] = 48
              · have e48 : (d.toList == [48]) = true := by rw [eq0_iff]; exact decide_eq_true ((is48 d h11 hpos).2 h48)
                have HE : Hid (earlyB s d = true) := Lib.hid (decide_eq_true (.inr (.inr ⟨hm, (is48 d h11 hpos).2 h48⟩)))
                have HM := Lib.hid hm
                clear hm h11 h0 h48
                go_wp2
                go_meet
                exact ⟨by rw [HM.out], by rw [HE.out], rfl⟩
              · have e48 : (d.toList == [48]) = false := by rw [eq0_iff]; exact decide_eq_false (fun h => h48 ((is48 d h11 hpos).1 h))
                have HE : Hid (earlyB s d = false) := Lib.hid (decide_eq_false (by
                  rintro (h | ⟨h, _⟩ | ⟨_, h⟩)
                  · exact h0 h
                  · exact h1 h
                  · exact h48 ((is48 d h11 hpos).1 h)))
                have HM := Lib.hid hm
                clear hm h11 h0 h48
                go_wp2
                go_meet
                exact ⟨by rw [HM.out], by rw [HE.out], rfl⟩
      case rest =>
        obtain ⟨rfl, rfl, rfl⟩ := hcut
        cases he : earlyB s d with
        | true =>
          have HN := Lib.hid (numR_no _ (early_no s d HD.out he))
          clear he
          go_wp2
          go_ret2
          exact ⟨by rw [HN.out]; rfl, Below.refl _ _⟩
        | false =>
          have HA := Lib.hid (early_ok s d HD.out he)
          clear he
          go_wp2
          go_loop [6, 7, 8, 9] (fun u o i _ => ∃ k : Nat, ∃ b : Bool, ∃ U : Int, k ≤ d.size ∧ i = .int .i64 k ∧ o = .bool b ∧ u = .int .u64 U ∧ ((bl d).take k).all digB = true ∧ NRel (foldD 0 ((bl d).take k)) b U) (fun _ _ i _ => d.size - (intOf i).toNat)
          case atStart => exact ⟨0, false, 0, Nat.zero_le _, rfl, rfl, rfl, rfl, NRel.start⟩
          case round =>
            obtain ⟨k, b, U, hk, rfl, rfl, rfl, hall, hN⟩ := hrel
            have Hall := Lib.hid hall
            have HNR := Lib.hid hN
            clear hall hN
            by_cases hlt : k < d.size
            · by_cases hdg : digB d[k] = true
              · have hd2 := (digB_iff d[k]).1 hdg
                have hda : (48 : Int) ≤ (d[k].toNat : Int) := by omega
                have hdb : (d[k].toNat : Int) ≤ 57 := by omega
                have HSN := Lib.hid (digs_snoc d k hlt Hall.out hdg)
                have HF : Hid (foldD 0 ((bl d).take (k + 1)) = stepD (foldD 0 ((bl d).take k)) d[k]) := Lib.hid (by rw [bl_take d k hlt, foldD_snoc])
                clear hdg hd2
                cases b with
                | true =>
                  go_wp2
                  go_round
                  case rel => exact ⟨k + 1, true, _, by omega, by go_num, rfl, rfl, HSN.out, by rw [HF.out]; exact HNR.out.over⟩
                  case measure => simp [intOf]; omega
                | false =>
                  obtain ⟨V, rfl, hVb, hVe⟩ := HNR.out.nat
                  have HVE := Lib.hid hVe
                  clear hVe
                  go_wp2
                  go_round
                  case rel => exact ⟨k + 1, _, _, by omega, by go_num, rfl, rfl, HSN.out, by rw [HF.out, ← HVE.out]; exact NRel.step hda hdb hVb⟩
                  case measure => simp [intOf]; omega
              · have HN : Hid (numR (bl s) = (0, 4)) := Lib.hid (numR_no _ (by rw [HA.out, List.all_eq_false.2 ⟨_, List.mem_of_getElem? (bl_get d k hlt), by simpa using hdg⟩]))
                have hno : (d[k].toNat : Int) < 48 ∨ 57 < (d[k].toNat : Int) := by
                  by_cases h1 : (d[k].toNat : Int) < 48
                  · exact .inl h1
                  · right
                    by_cases h2 : 57 < (d[k].toNat : Int)
                    · exact h2
                    · exact absurd ((digB_iff _).2 (by omega)) hdg
                clear hdg
                rcases hno with hno | hno
                · go_wp2
                  go_ret2
                  exact ⟨by rw [HN.out]; rfl, Below.refl _ _⟩
                · have hno2 : ¬ (d[k].toNat : Int) < 48 := by omega
                  go_wp2
                  go_ret2
                  exact ⟨by rw [HN.out]; rfl, Below.refl _ _⟩
            · obtain rfl : k = d.size := by omega
              have HI : Hid (isNumB (bl s) = true) := Lib.hid (by rw [HA.out]; have := Hall.out; rwa [bl_take_all d _ (Nat.le_refl _)] at this)
              have HV : Hid (foldD 0 ((bl d).take d.size) = valD (numD (bl s))) := Lib.hid (by rw [bl_take_all d _ (Nat.le_refl _), HD.out]; rfl)
              cases b with
              | true =>
                have HR : Hid (numR (bl s) = (0, 2)) := Lib.hid (numR_over _ HI.out (by rw [← HV.out]; exact HNR.out))
                go_wp2
                go_ret2
                exact ⟨by rw [HR.out]; rfl, Below.refl _ _⟩
              | false =>
                obtain ⟨V, rfl, hVb, hVe⟩ := HNR.out.nat
                have HVE : Hid (V = valD (numD (bl s))) := Lib.hid (by rw [hVe, HV.out])
                clear hVe
                cases hm : mB s with
                | true =>
                  have HR : Hid (numR (bl s) = (-(V : Int), 0)) := Lib.hid (by rw [HVE.out]; exact numR_minus s HI.out hm (by rw [← HVE.out]; exact hVb))
                  clear hm
                  go_wp2
                  go_ret2
                  exact ⟨by rw [HR.out]; exact ret_int2 (neg_wrap64 hVb), Below.refl _ _⟩
                | false =>
                  by_cases hb : V = 9223372036854775808
                  · have HR : Hid (numR (bl s) = (0, 2)) := Lib.hid (numR_top s HI.out hm (by rw [← HVE.out]; exact hb))
                    have t1 : ((V : Int) == 9223372036854775808) = true := by rw [hb]; rfl
                    clear hm hb
                    go_wp2
                    go_ret2
                    exact ⟨by rw [HR.out]; rfl, Below.refl _ _⟩
                  · have hlt2 : (V : Int) ≤ 9223372036854775807 := by omega
                    have HR : Hid (numR (bl s) = ((V : Int), 0)) := Lib.hid (by rw [HVE.out]; exact numR_plus s HI.out hm (by rw [← HVE.out]; omega))
                    have t1 : ((V : Int) == 9223372036854775808) = false := by rw [beq_eq_false_iff_ne]; omega
                    clear hm hb
                    go_wp2
                    go_ret2
                    exact ⟨by rw [HR.out]; rfl, Below.refl _ _⟩
end Go.Proofs.YtfolocahchohdaaDoor
