/- The laws on words: what each call does. -/
import Derived.Test.YtfolocahchohdaaDoorWSane
namespace Go.Proofs.YtfolocahchohdaaDoor
open Go.RowKit WMath

theorem sameB_self (l : List ByteArray) : sameB l l = true := decide_eq_true rfl
theorem splitL_len (l : List UInt8) : (splitL l).1.length ≤ 256 := by
  unfold splitL
  split
  · simp
  · split
    · simp
    · split
      · simp
      · simp only; omega
theorem linesAux_len (t cur : List UInt8) : (linesAux t cur).length ≤ t.length + 1 := by
  induction t generalizing cur with
  | nil => unfold linesAux; split <;> simp
  | cons c r ih =>
    unfold linesAux
    split
    · have := ih []
      simp only [List.length_cons]
      omega
    · have := ih (cur ++ [c])
      simp only [List.length_cons]
      omega
theorem linesL_len (t : List UInt8) : (linesL t).length ≤ t.length + 1 := linesAux_len t []
theorem unlines_append (a b : List (List UInt8)) : unlines (a ++ b) = unlines a ++ unlines b := by simp [unlines]
theorem unlines_snoc (l : List (List UInt8)) (k : Nat) (h : k < l.length) : unlines (l.take (k + 1)) = unlines (l.take k) ++ (l[k] ++ [10]) := by
  rw [List.take_succ_eq_append_getElem h, unlines_append]
  simp [unlines]
theorem unlines_le (l : List (List UInt8)) (k : Nat) : (unlines (l.take k)).length ≤ (unlines l).length := by
  have h : unlines l = unlines (l.take k) ++ unlines (l.drop k) := by rw [← unlines_append, List.take_append_drop]
  rw [h, List.length_append]
  omega
theorem unlines_len (t : List UInt8) : (unlines (linesL t)).length ≤ t.length + 1 := by
  rcases unlines_lines t with h | ⟨h, _, _⟩
  · rw [h]; omega
  · rw [h]; simp
theorem unlines_take (l : List (List UInt8)) (k : Nat) : (unlines (l.take k)).length ≤ (unlines l).length := unlines_le l k
theorem line_len (l : List (List UInt8)) (k : Nat) (h : k < l.length) : l[k].length ≤ (unlines l).length := by
  have h1 := unlines_le l (k + 1)
  rw [unlines_snoc l k h, List.length_append, List.length_append] at h1
  omega
theorem beq_self_str (s : ByteArray) : (s.toList == s.toList) = true := by simp

set_option maxHeartbeats 1000000 in
set_option maxRecDepth 100000 in
theorem wordsJoin_walk (v : Value) (L : List ByteArray) (w : World) (hg : Glob w) (hv : StrsAt w v L) (hm : L.length ≤ maxLen) :
    Calls Tryd.prog 4 #[v] w (RetBool w true) := by
  have HV := Lib.hid hv
  have HG := Lib.hid hg
  have HM := Lib.hid hm
  clear hv hg hm
  cases hk : keptB L with
  | false =>
    have HK := Lib.hid hk
    clear hk
    go_enter Tryd.func4, Tryd.ntmps4
    go_wp2_with (first | (go_at_call 9; refine (sane_any w HG.out).mono ?_; rintro e w1 ⟨rfl, hb1⟩; have HB1 := Lib.hid hb1; clear hb1) | (go_at_call 15; refine (kept_any v L w1 (HV.out.below HB1.out) HM.out).mono ?_; rintro e w2 ⟨rfl, rfl⟩; rw [HK.out]))
    go_ret
    exact ⟨rfl, HB1.out⟩
  | true =>
    obtain ⟨hn, hw⟩ := keptB_spec hk
    have HK := Lib.hid hk
    have HW := Lib.hid hw
    clear hk hw
    obtain ⟨p, c, hr⟩ : ∃ p c, joinR (L.map bl) = (p, c) := ⟨_, _, rfl⟩
    have HR := Lib.hid hr
    clear hr
    go_enter Tryd.func4, Tryd.ntmps4
    go_wp2_with (first | (go_at_call 9; refine (sane_any w HG.out).mono ?_; rintro e w1 ⟨rfl, hb1⟩; have HB1 := Lib.hid hb1; clear hb1) | (go_at_call 15; refine (kept_any v L w1 (HV.out.below HB1.out) HM.out).mono ?_; rintro e w2 ⟨rfl, rfl⟩; rw [HK.out]) | (go_at_call 16; refine (join_any v L w1 (HV.out.below HB1.out) hn HW.out).mono ?_; rw [HR.out]; rintro e w3 ⟨rfl, hb3⟩; have HB3 := Lib.hid (HB1.out.trans (hb3.mono HB1.out.size)); clear hb3) | (go_at_call 17; refine (refJoin_any v L w3 (HV.out.below HB3.out) hn HW.out).mono ?_; rw [HR.out]; rintro e w4 ⟨rfl, hb4⟩; have HB4 := Lib.hid (HB3.out.trans (hb4.mono HB3.out.size)); clear hb4))
    go_ret
    exact ⟨rfl, HB4.out⟩

set_option maxHeartbeats 1000000 in
set_option maxRecDepth 100000 in
theorem wordsNumbers_walk (s : ByteArray) (n : Int) (w : World) (hg : Glob w) (hs : s.size ≤ maxLen) (h0 : -9223372036854775808 ≤ n) (h1 : n ≤ 9223372036854775807) :
    Calls Tryd.prog 5 #[.string s, .int .i64 n] w (RetBool w true) := by
  unfold maxLen at hs
  have HG := Lib.hid hg
  clear hg
  by_cases hlong : 200 < s.size
  · go_enter Tryd.func5, Tryd.ntmps5
    go_wp2_with (first | (go_at_call 9; refine (sane_any w HG.out).mono ?_; rintro e w1 ⟨rfl, hb1⟩; have HB1 := Lib.hid hb1; clear hb1))
    go_ret
    exact ⟨rfl, HB1.out⟩
  · obtain ⟨p, c, hr⟩ : ∃ p c, numR (bl s) = (p, c) := ⟨_, _, rfl⟩
    have HR := Lib.hid hr
    clear hr
    go_enter Tryd.func5, Tryd.ntmps5
    go_wp2_with (first | (go_at_call 9; refine (sane_any w HG.out).mono ?_; rintro e w1 ⟨rfl, hb1⟩; have HB1 := Lib.hid hb1; clear hb1) | (go_at_call 18; refine (number_any s w1 (by omega) (HG.out.below HB1.out)).mono ?_; rw [HR.out]; rintro e w3 ⟨rfl, hb3⟩; have HB3 := Lib.hid (HB1.out.trans (hb3.mono HB1.out.size)); clear hb3) | (go_at_call 19; refine (refNumber_any s w3 (by omega)).mono ?_; rw [HR.out]; rintro e w4 ⟨rfl, hb4⟩; have HB4 := Lib.hid (HB3.out.trans (hb4.mono HB3.out.size)); clear hb4) | (go_at_call 20; refine (format_any n w4 h0 h1 (HG.out.below HB4.out)).mono ?_; rintro e w5 ⟨rfl, hb5⟩; have HB5 := Lib.hid (HB4.out.trans (hb5.mono HB4.out.size)); clear hb5) | (go_at_call 21; refine (refFormat_any n w5 h0 h1).mono ?_; rintro e w6 ⟨rfl, hb6⟩; have HB6 := Lib.hid (HB5.out.trans (hb6.mono HB5.out.size)); clear hb6))
    go_ret
    exact ⟨rfl, HB6.out⟩

set_option maxHeartbeats 1000000 in
set_option maxRecDepth 100000 in
theorem wordsSplit_walk (s : ByteArray) (w : World) (hg : Glob w) (hs : s.size ≤ 1048576) :
    Calls Tryd.prog 3 #[.string s] w (RetBool w true) := by
  have HG := Lib.hid hg
  clear hg
  by_cases hmid : 1500 < s.size ∧ s.size ≤ 4096
  · obtain ⟨hm1, hm2⟩ := hmid
    go_enter Tryd.func3, Tryd.ntmps3
    go_wp2_with (first | (go_at_call 9; refine (sane_any w HG.out).mono ?_; rintro e w1 ⟨rfl, hb1⟩; have HB1 := Lib.hid hb1; clear hb1))
    go_ret
    exact ⟨rfl, HB1.out⟩
  · have hcase : s.size ≤ 1500 ∨ 4096 < s.size := by omega
    clear hmid
    have hml : s.size ≤ maxLen := by unfold maxLen; omega
    have HML := Lib.hid hml
    obtain ⟨ws, c, hr⟩ : ∃ ws c, splitL (bl s) = (ws, c) := ⟨_, _, rfl⟩
    have hwl := splitL_len (bl s)
    rw [hr] at hwl
    simp only at hwl
    have hll := linesL_len (bl s)
    rw [bl_len] at hll
    have HR := Lib.hid hr
    obtain ⟨m, hm⟩ := HG.out.m
    have Hm := Lib.hid hm
    have h0 := World.block_lt_of_cell? w _ hm
    simp only at h0
    clear hr hml hm
    rcases hcase with hcs | hcs
    all_goals
      go_enter Tryd.func3, Tryd.ntmps3
      go_wp2_with fail
      refine (sane_any w HG.out).mono ?_
      rintro e w1 ⟨rfl, hb1⟩
      have HB1 := Lib.hid hb1
      have hz1 := hb1.size
      clear hb1
      go_wp2_with fail
      refine (split_any s w1 HML.out).mono ?_
      rw [HR.out]
      rintro e w2 ⟨v1, rfl, ho1, hb2⟩
      have HO1 := Lib.hid ho1
      have HB2 := Lib.hid (HB1.out.trans (hb2.mono hz1))
      have hz2 := HB2.out.size
      clear ho1 hb2
      go_wp2_with fail
      refine (refSplit_any s w2 HML.out).mono ?_
      rw [HR.out]
      rintro e w3 ⟨v2, rfl, ho2, hb3⟩
      have HO2 := Lib.hid ho2
      have HO1b := Lib.hid (ownsRow_below HO1.out hb3)
      have HB3 := Lib.hid (HB2.out.trans (hb3.mono hz2))
      have hz3 := HB3.out.size
      clear ho2 hb3
      go_wp2_with fail
      refine (same_any v1 v2 (ws.map bs) (ws.map bs) w3 (OwnS_at HO1b.out) (OwnS_at HO2.out) (by simp; unfold maxLen; omega) (by simp; unfold maxLen; omega)).mono ?_
      rw [sameB_self]
      rintro e w4 ⟨rfl, hb4⟩
      have HB4 := Lib.hid (HB3.out.trans (hb4.mono hz3))
      have hz4 := HB4.out.size
      clear hb4
      go_wp2_with fail
      refine (lines_any s w4 m ((HB4.out.cell (p := ⟨0, 0, none⟩) (by simpa using h0)).trans Hm.out) hs).mono ?_
      rintro e w5 ⟨v3, rfl, ho3, hb5⟩
      have HO3 := Lib.hid ho3
      have HB5 := Lib.hid (HB4.out.trans (hb5.mono hz4))
      have hz5 := HB5.out.size
      clear ho3 hb5
      go_wp2_with fail
      refine (refLines_any s w5 hs).mono ?_
      rintro e w6 ⟨v4, rfl, ho4, hb6⟩
      have HO4 := Lib.hid ho4
      have HO3b := Lib.hid (ownsRow_below HO3.out hb6)
      have HB6 := Lib.hid (HB5.out.trans (hb6.mono hz5))
      have hz6 := HB6.out.size
      clear ho4 hb6
      go_wp2_with fail
      refine (same_any v3 v4 ((linesL (bl s)).map bs) ((linesL (bl s)).map bs) w6 (OwnS_at HO3b.out) (OwnS_at HO4.out) (by simp; unfold maxLen; omega) (by simp; unfold maxLen; omega)).mono ?_
      rw [sameB_self]
      rintro e w7 ⟨rfl, hb7⟩
      have HB7 := Lib.hid (HB6.out.trans (hb7.mono hz6))
      clear hb7
      go_wp2_with fail
      go_ret
      exact ⟨rfl, HB7.out⟩

set_option maxHeartbeats 1000000 in
set_option maxRecDepth 100000 in
theorem wordsLines_walk (s : ByteArray) (w : World) (hg : Glob w) (hs : s.size ≤ maxLen) :
    Calls Tryd.prog 8 #[.string s] w (RetBool w true) := by
  unfold maxLen at hs
  have HG := Lib.hid hg
  clear hg
  by_cases hlong : 500 < s.size
  · go_enter Tryd.func8, Tryd.ntmps8
    go_wp2_with (first | (go_at_call 9; refine (sane_any w HG.out).mono ?_; rintro e w1 ⟨rfl, hb1⟩; have HB1 := Lib.hid hb1; clear hb1))
    go_ret
    exact ⟨rfl, HB1.out⟩
  · obtain ⟨m, hm⟩ := HG.out.m
    have Hm := Lib.hid hm
    have h0 := World.block_lt_of_cell? w _ hm
    simp only at h0
    clear hm
    have HU := Lib.hid (unlines_lines (bl s))
    have hull := unlines_len (bl s)
    rw [bl_len] at hull
    have hll := linesL_len (bl s)
    rw [bl_len] at hll
    have HTL := Lib.hid (unlines_take (linesL (bl s)))
    obtain ⟨n, hnn⟩ : ∃ n, n = (linesL (bl s)).length := ⟨_, rfl⟩
    have Hn := Lib.hid hnn
    have hn6 : n ≤ 501 := by omega
    go_enter Tryd.func8, Tryd.ntmps8
    go_wp2_with fail
    refine (sane_any w HG.out).mono ?_
    rintro e w1 ⟨rfl, hb1⟩
    have HB1 := Lib.hid hb1
    have hz1 := hb1.size
    clear hb1
    go_wp2_with fail
    refine (lines_any s w1 m ((HB1.out.cell (p := ⟨0, 0, none⟩) (by simpa using h0)).trans Hm.out) (by omega)).mono ?_
    rintro e w2 ⟨v, rfl, ho, hb2⟩
    have HB2 := Lib.hid (HB1.out.trans (hb2.mono hz1))
    have hsa := OwnS_at ho
    clear ho hb2 hnn
    have hsa2 : (n = 0 ∧ ∃ a c, v = .slice a 0 c) ∨ ∃ b o c, v = .slice (some ⟨b, o, none⟩) n c ∧ ∀ i (h : i < (linesL (bl s)).length), w2.cell? ⟨b, o + i, none⟩ = some (.string (bs (linesL (bl s))[i])) := by
      rcases hsa with ⟨h1, a, c, h2⟩ | ⟨b, o, c, h1, h2⟩
      · exact .inl ⟨by rw [Hn.out]; simpa using congrArg List.length h1, a, c, h2⟩
      · refine .inr ⟨b, o, c, by rw [Hn.out]; simpa using h1, fun i hi => ?_⟩
        have := h2 i (by simpa using hi)
        simpa using this
    clear hsa
    rcases hsa2 with ⟨hn0, a, c, rfl⟩ | ⟨b, o, c, rfl, hcell⟩
    · have HL0 : Hid (bl s = []) := Lib.hid (by
        have h1 : linesL (bl s) = [] := List.eq_nil_of_length_eq_zero (by rw [← Hn.out]; exact hn0)
        rcases HU.out with h | ⟨h, hne, _⟩
        · rw [h1] at h; exact h.symm
        · rw [h1] at h
          exact absurd h.symm (by simp [unlines]))
      have hse : s = ⟨#[]⟩ := bl_inj (by rw [HL0.out]; rfl)
      have hemp : (s.toList.isEmpty) = true := by rw [bl_toList, HL0.out]; rfl
      have HSE := Lib.hid hse
      clear hse hn0
      go_wp2
      go_loopw [3, 5, 14] (fun x _ i wr => x = .string ⟨#[]⟩ ∧ i = .int .i64 0 ∧ wr = w2) (fun _ _ _ _ => 0)
      case atStart => exact ⟨rfl, rfl, rfl⟩
      case round =>
        obtain ⟨rfl, rfl, rfl⟩ := hrel
        obtain rfl := HSE.out
        go_wp2
        go_ret
        exact ⟨rfl, HB2.out⟩
    · have HC := Lib.hid hcell
      clear hcell
      go_wp2
      go_loopw [3, 5, 14] (fun x _ i wr => ∃ k : Nat, ∃ t : ByteArray, k ≤ n ∧ i = .int .i64 k ∧ x = .string t ∧ bl t = unlines ((linesL (bl s)).take k) ∧ wr = w2) (fun _ _ i _ => n - (intOf i).toNat)
      case atStart => exact ⟨0, ⟨#[]⟩, Nat.zero_le _, rfl, rfl, by simp [unlines, bl], rfl⟩
      case round =>
        obtain ⟨k, t, hk, rfl, rfl, ht, rfl⟩ := hrel
        have HT := Lib.hid ht
        have htl := HTL.out k
        rw [← ht, bl_len] at htl
        clear ht
        by_cases hlt : k < n
        · have hkL : k < (linesL (bl s)).length := by rw [← Hn.out]; exact hlt
          have hc := HC.out k hkL
          have HS := Lib.hid (unlines_snoc (linesL (bl s)) k hkL)
          have hlk := line_len (linesL (bl s)) k hkL
          obtain ⟨q, hq⟩ : ∃ q, q = bs (linesL (bl s))[k] := ⟨_, rfl⟩
          rw [← hq] at hc
          have hqs : q.size = (linesL (bl s))[k].length := by rw [hq, bs_size]
          have hqb : q.size ≤ 600 := by omega
          have HQ : Hid (bl q = (linesL (bl s))[k]) := Lib.hid (by rw [hq, bl_bs])
          clear hq hqs hlk
          have h10 : (⟨#[10]⟩ : ByteArray).size = 1 := rfl
          have H10 := Lib.hid h10
          clear h10
          go_wp2
          go_roundw
          case rel => exact ⟨k + 1, _, by omega, by go_num, rfl, by rw [bl_append, bl_append, HT.out, HQ.out, HS.out]; rfl, by simp⟩
          case measure => simp [intOf]; omega
        · obtain rfl : k = n := by omega
          have HTF : Hid (bl t = unlines (linesL (bl s))) := Lib.hid (by rw [HT.out, Hn.out, List.take_length])
          have hcase := HU.out
          rw [← HTF.out] at hcase
          rcases hcase with heq | ⟨heq, hne, hlast⟩
          · have t1 : (t.toList == s.toList) = true := by rw [bl_toList, bl_toList, heq]; simp
            clear heq
            go_wp2
            go_ret
            exact ⟨rfl, HB2.out⟩
          · have hpos : 0 < s.size := by
              by_cases h : s.size = 0
              · exact absurd ((bl_empty s).2 h) hne
              · omega
            have t1 : (t.toList == s.toList) = false := by
              rw [bl_toList, bl_toList, heq, beq_eq_false_iff_ne]
              intro e
              have := congrArg List.length e
              simp at this
            have t2 : (t.toList == (s ++ ⟨#[10]⟩).toList) = true := by rw [bl_toList, bl_toList, heq, bl_append]; simp [bl]
            have hidx : s.size - 1 < s.size := by omega
            have t3 : ((s[s.size - 1].toNat : Int) != 10) = true := by
              rw [bne_iff_ne]
              intro e
              have e2 : s[s.size - 1] = 10 := UInt8.toNat_inj.1 (by simpa using (by omega : s[s.size - 1].toNat = 10))
              apply hlast
              rw [List.getLast?_eq_getElem?, bl_len, bl_get s _ hidx, e2]
            clear heq hne hlast
            go_wp2
            go_ret
            exact ⟨rfl, HB2.out⟩
end Go.Proofs.YtfolocahchohdaaDoor
