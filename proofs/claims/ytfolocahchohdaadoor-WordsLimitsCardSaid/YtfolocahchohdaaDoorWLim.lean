/- The law WordsLimits: what the call does. -/
import Derived.Test.YtfolocahchohdaaDoorWBack
namespace Go.Proofs.YtfolocahchohdaaDoor
open Go.RowKit WMath

/-- a word of so many letters a -/
def aW (w : Nat) : List UInt8 := List.replicate w 97
def aL (m w : Nat) : List (List UInt8) := List.replicate m (aW w)
theorem aW_snoc (w : Nat) : aW (w + 1) = aW w ++ [97] := by unfold aW; rw [List.replicate_succ']
theorem aL_snoc (m w : Nat) : aL (m + 1) w = aL m w ++ [aW w] := by unfold aL; rw [List.replicate_succ']
theorem aW_len (w : Nat) : (aW w).length = w := by simp [aW]
theorem aL_len (m w : Nat) : (aL m w).length = m := by simp [aL]
theorem aW_wtn (w : Nat) (h : 0 < w) : wtn (aW w) = aW w := by
  have : isPlainL (aW w) = true := by
    unfold isPlainL
    rw [Bool.and_eq_true]
    constructor
    · rw [List.all_eq_true]
      intro x hx
      have := List.eq_of_mem_replicate hx
      subst this
      decide
    · cases w with
      | zero => omega
      | succ w => rfl
  unfold wtn
  rw [if_pos this]
theorem join_aL (m w : Nat) (h : 0 < w) : (joinL (aL (m + 1) w)).length + 1 = (m + 1) * (w + 1) := by
  induction m with
  | zero =>
    have : aL 1 w = [aW w] := rfl
    rw [this]
    simp only [joinL]
    rw [aW_wtn w h, aW_len]
    omega
  | succ m ih =>
    rw [aL_snoc, joinL_snoc, if_neg (by unfold aL; rw [List.replicate_succ]; simp), aW_wtn w h, List.length_append, List.length_cons, aW_len, Nat.succ_mul]
    omega
theorem join_aL' (m w : Nat) (hm : 0 < m) (h : 0 < w) : (joinL (aL m w)).length + 1 = m * (w + 1) := by
  obtain ⟨m, rfl⟩ : ∃ k, m = k + 1 := ⟨m - 1, by omega⟩
  exact join_aL m w h
theorem joinR_big (m w P : Nat) (hm : 0 < m) (hw : 0 < w) (hP : P = m * (w + 1)) (h : 256 < m ∨ 4096 < P - 1) : joinR (aL m w) = ([], 3) := by
  have := join_aL' m w hm hw
  unfold joinR
  rw [if_pos]
  rw [aL_len]
  omega
theorem joinR_fit (m w P : Nat) (hm : 0 < m) (hw : 0 < w) (hP : P = m * (w + 1)) (h : m ≤ 256) (h2 : P ≤ 4097) : joinR (aL m w) = (joinL (aL m w), 0) ∧ (joinL (aL m w)).length + 1 = P ∧ splitL (joinL (aL m w)) = (aL m w, 0) := by
  have hj := join_aL' m w hm hw
  have hr : joinR (aL m w) = (joinL (aL m w), 0) := by
    unfold joinR
    rw [if_neg]
    rw [aL_len]
    omega
  refine ⟨hr, by omega, ?_⟩
  have := split_join (aL m w) (by rw [hr])
  rwa [hr] at this
theorem prod_le (M W : Nat) (h1 : M ≤ 270) (h2 : W ≤ 80) : M * (W + 1) ≤ 21870 := by
  have := Nat.mul_le_mul h1 (show W + 1 ≤ 81 by omega)
  omega
theorem map_bl_bs (l : List (List UInt8)) : (l.map bs).map bl = l := by
  rw [List.map_map]
  conv => rhs; rw [← List.map_id l]
  exact List.map_congr_left (fun x _ => bl_bs x)

set_option maxHeartbeats 2000000 in
set_option maxRecDepth 100000 in
theorem wordsLimits_walk (n k : Int) (w : World) (hg : Glob w) (hn0 : 0 ≤ n) (hn1 : n ≤ 65535) (hk0 : 0 ≤ k) (hk1 : k ≤ 65535) :
    Calls Tryd.prog 7 #[.int .u16 n, .int .u16 k] w (RetBool w true) := by
  have HG := Lib.hid hg
  clear hg
  obtain ⟨N, rfl⟩ := Int.eq_ofNat_of_zero_le hn0
  obtain ⟨K, rfl⟩ := Int.eq_ofNat_of_zero_le hk0
  go_enter Tryd.func7, Tryd.ntmps7
  go_wp2_with fail
  refine (sane_any w HG.out).mono ?_
  rintro e w1 ⟨rfl, hb1⟩
  have HB1 := Lib.hid hb1
  have hz1 := hb1.size
  clear hb1
  go_wp2_with fail
  obtain ⟨M, hM, hM1, hM2⟩ : ∃ M : Nat, 1 + (N : Int) % 270 = (M : Int) ∧ 1 ≤ M ∧ M ≤ 270 := ⟨1 + N % 270, by omega, by omega, by omega⟩
  obtain ⟨V, hV, hV1, hV2⟩ : ∃ V : Nat, 1 + (K : Int) % 80 = (V : Int) ∧ 1 ≤ V ∧ V ≤ 80 := ⟨1 + K % 80, by omega, by omega, by omega⟩
  rw [hM, hV]
  clear hM hV
  have h97 : (⟨#[97]⟩ : ByteArray).size = 1 := rfl
  have H97 := Lib.hid h97
  clear h97
  go_loopw [8, 9] (fun x i wr => ∃ j : Nat, ∃ t : ByteArray, j ≤ V ∧ i = .int .i64 j ∧ x = .string t ∧ bl t = aW j ∧ t.size ≤ j ∧ wr = w1) (fun _ i _ => V - (intOf i).toNat)
  case atStart => exact ⟨0, ⟨#[]⟩, Nat.zero_le _, rfl, rfl, rfl, by decide, rfl⟩
  case round =>
    obtain ⟨j, t, hj, rfl, rfl, ht, hts, rfl⟩ := hrel
    have HT := Lib.hid ht
    clear ht
    by_cases hlt : j < V
    · go_wp2
      go_roundw
      case rel => exact ⟨j + 1, _, by omega, by go_num, rfl, by rw [bl_append, HT.out, aW_snoc]; rfl, by rw [ByteArray.size_append, H97.out]; omega, by simp⟩
      case measure => simp [intOf]; omega
    · obtain rfl : j = V := by omega
      go_wp2
      go_loopw [7, 10] (fun v i w2 => ∃ q : Nat, q ≤ M ∧ i = .int .i64 q ∧ OwnS w2 w.heap.size v (aL q j) ∧ Below w.heap.size w w2) (fun _ i _ => M - (intOf i).toNat)
      case atStart => exact ⟨0, Nat.zero_le _, rfl, OwnS_nil _ _, HB1.out⟩
      case round =>
        obtain ⟨q, hq, rfl, hown, hb2⟩ := hrel
        have HO := Lib.hid hown
        have HB := Lib.hid hb2
        have hz := hb2.size
        have hal := aL_len q j
        clear hown hb2
        by_cases hlq : q < M
        · go_wp2_with (at_builtin; refine appS1 rfl _ _ rfl w.heap.size u7 _ t rfl HO.out rfl (by omega) hz ?_; intro v3 w3 ho3 hg3 hl3)
          have HO3 : Hid (OwnS w3 w.heap.size v3 (aL (q + 1) j)) := Lib.hid (by rw [aL_snoc, ← HT.out]; exact ho3)
          have HB3 := Lib.hid (HB.out.grown hg3 hz (fun g hg => (World.ownsRow.lt HO.out g hg).1))
          clear ho3 hg3 hl3
          go_roundw
          case rel => exact ⟨q + 1, by omega, by go_num, HO3.out, HB3.out⟩
          case measure => simp [intOf]; omega
        · obtain rfl : q = M := by omega
          clear hal
          have hpl := prod_le q j hM2 hV2
          obtain ⟨P, hP⟩ : ∃ P, P = q * (j + 1) := ⟨_, rfl⟩
          have HP := Lib.hid hP
          have hPi : (q : Int) * ((j : Int) + 1) = (P : Int) := by rw [hP]; simp
          have hpl2 : P ≤ 21870 := by omega
          have hP1 : 2 ≤ P := by have := Nat.mul_le_mul hM1 (show 2 ≤ j + 1 by omega); omega
          have hp0 : 0 ≤ (q : Int) * ((j : Int) + 1) := by omega
          have hp1 : (q : Int) * ((j : Int) + 1) ≤ 21870 := by omega
          have HPi := Lib.hid hPi
          clear hpl hP hPi
          have HSA := Lib.hid (OwnS_at HO.out)
          have HSZ : Hid (∀ x ∈ (aL q j).map bs, x.size ≤ 200) := Lib.hid (by
            intro x hx
            obtain ⟨y, hy, rfl⟩ := List.mem_map.1 hx
            have := List.eq_of_mem_replicate hy
            subst this
            rw [bs_size, aW_len]
            omega)
          have hll : ((aL q j).map bs).length ≤ 270 := by rw [List.length_map, aL_len]; exact hM2
          have HMB := Lib.hid (map_bl_bs (aL q j))
          by_cases hfit : q ≤ 256 ∧ P ≤ 4097
          · obtain ⟨hf1, hf2⟩ := hfit
            obtain ⟨hr, hjl, hsp⟩ := joinR_fit q j P hM1 hV1 HP.out hf1 hf2
            obtain ⟨p, hp⟩ : ∃ p, p = joinL (aL q j) := ⟨_, rfl⟩
            rw [← hp] at hr hjl hsp
            have hps := bs_size p
            have hpb := bl_bs p
            obtain ⟨f, hf⟩ : ∃ f, bs p = f := ⟨_, rfl⟩
            rw [hf] at hps hpb
            have HR := Lib.hid hr
            have HS : Hid (splitL (bl f) = (aL q j, 0)) := Lib.hid (by rw [hpb]; exact hsp)
            have Hf := Lib.hid hf
            have hfs : (f.size : Int) = (P : Int) - 1 := by omega
            have t1 : ((f.size : Int) == (q : Int) * ((j : Int) + 1) - 1) = true := by rw [HPi.out, hfs]; simp
            have hfs2 : f.size ≤ 4096 := by omega
            have hp2 : (q : Int) * ((j : Int) + 1) ≤ 4097 := by rw [HPi.out]; omega
            clear hr hjl hsp hp hps hpb hf hfs
            go_wp2_with fail
            refine (join_any u7 ((aL q j).map bs) wr HSA.out hll HSZ.out).mono ?_
            rw [HMB.out, HR.out]
            rintro e w3 ⟨he, hb3⟩
            rw [Hf.out] at he
            subst he
            have HB3 := Lib.hid (HB.out.trans (hb3.mono hz))
            have HSA3 := Lib.hid (HSA.out.below hb3)
            have hz3 := HB3.out.size
            clear hb3
            go_wp2_with fail
            refine (split_any f w3 (by unfold maxLen; omega)).mono ?_
            rw [HS.out]
            rintro e w4 ⟨v4, rfl, ho4, hb4⟩
            have HO4 := Lib.hid ho4
            have HB4 := Lib.hid (HB3.out.trans (hb4.mono hz3))
            have HSA4 := Lib.hid (HSA3.out.below hb4)
            have hz4 := HB4.out.size
            clear ho4 hb4
            go_wp2_with fail
            refine (same_any v4 u7 ((aL q j).map bs) ((aL q j).map bs) w4 (OwnS_at HO4.out) HSA4.out (by unfold maxLen; omega) (by unfold maxLen; omega)).mono ?_
            rw [sameB_self]
            rintro e w5 ⟨rfl, hb5⟩
            have HB5 := Lib.hid (HB4.out.trans (hb5.mono hz4))
            clear hb5
            go_wp2_with fail
            go_ret
            exact ⟨rfl, HB5.out⟩
          · have HR := Lib.hid (joinR_big q j P hM1 hV1 HP.out (by omega))
            have hbig : 256 < q ∨ (q ≤ 256 ∧ 4097 < (q : Int) * ((j : Int) + 1)) := by rw [HPi.out]; omega
            have hemp : (⟨#[]⟩ : ByteArray).toList.isEmpty = true := by rw [bl_toList]; rfl
            have HE : Hid (bs [] = ⟨#[]⟩) := Lib.hid rfl
            clear hfit
            rcases hbig with hbg | ⟨hbg, hbg2⟩
            all_goals
              go_wp2_with fail
              refine (join_any u7 ((aL q j).map bs) wr HSA.out hll HSZ.out).mono ?_
              rw [HMB.out, HR.out]
              rintro e w3 ⟨he, hb3⟩
              rw [HE.out] at he
              subst he
              have HB3 := Lib.hid (HB.out.trans (hb3.mono hz))
              clear hb3
              go_wp2_with fail
              go_ret
              exact ⟨rfl, HB3.out⟩
end Go.Proofs.YtfolocahchohdaaDoor
