/- Split, of the reference. -/
import Derived.Test.YtfolocahchohdaaDoorWWord
namespace Go.Proofs.YtfolocahchohdaaDoor
open Go.RowKit WMath

/-- what the loop of the reference's Split knows: the words so far, and that the machine goes on at byte k -/
def SRel (s : ByteArray) (k : Nat) (L : List (List UInt8)) : Prop := readL (bl s) = endsR (runR ((bl s).drop k) (0, [], L))
theorem SRel.start (s : ByteArray) (h : s.size ≠ 0) : SRel s 0 [] := by
  unfold SRel readL
  rw [if_neg (fun e => h ((bl_empty s).1 e))]
  rfl
theorem SRel.none {s : ByteArray} {k : Nat} {L : List (List UInt8)} (h : SRel s k L) (hw : refWordL ((bl s).drop k) = none) : readL (bl s) = none := by
  rw [h]
  have := refWord_run ((bl s).drop k) L
  rw [hw] at this
  exact this
theorem SRel.word {s : ByteArray} {k m : Nat} {L : List (List UInt8)} {wd : List UInt8} (h : SRel s k L) (hk : k ≤ s.size) (hw : refWordL ((bl s).drop k) = some (wd, m)) :
    0 < m ∧ k + m ≤ s.size ∧ (k + m = s.size → readL (bl s) = some (L ++ [wd])) ∧ (∀ hlt : k + m < s.size, s[k + m] ≠ 32 → readL (bl s) = Option.none) ∧ (∀ hlt : k + m < s.size, s[k + m] = 32 → SRel s (k + m + 1) (L ++ [wd])) := by
  obtain ⟨h0, h1, h2, h3, h4⟩ := after_word ((bl s).drop k) L wd m hw
  rw [List.length_drop, bl_len] at h1 h2
  refine ⟨h0, by omega, fun e => ?_, fun hlt hc => ?_, fun hlt hc => ?_⟩
  · rw [h]; exact h2 (by omega)
  · rw [h]
    refine h3 s[k + m] ((bl s).drop (k + m + 1)) ?_ hc
    rw [List.drop_drop, bl_drop s (k + m) hlt]
  · unfold SRel
    rw [h, h4 ((bl s).drop (k + m + 1)) (by rw [List.drop_drop, bl_drop s (k + m) hlt, hc])]

set_option maxHeartbeats 2000000 in
set_option maxRecDepth 100000 in
theorem refSplit_any (s : ByteArray) (w : World) (hs : s.size ≤ maxLen) :
    Calls Tryd.prog 11 #[.string s] w (RetSN w (splitL (bl s))) := by
  unfold maxLen at hs
  by_cases hlong : 4096 < s.size
  · rw [splitL_long _ (by rw [bl_len]; exact hlong)]
    go_enter Tryd.func11, Tryd.ntmps11
    go_wp2
    go_ret2
    exact ⟨_, rfl, OwnS_nil _ _, Below.refl _ _⟩
  · have hb : (bl s).length ≤ 4096 := by rw [bl_len]; omega
    by_cases h0 : s.size = 0
    · have hse : s = ⟨#[]⟩ := bl_inj ((bl_empty s).2 h0)
      subst hse
      go_enter Tryd.func11, Tryd.ntmps11
      go_wp2
      go_ret2
      exact ⟨_, rfl, OwnS_nil _ _, Below.refl _ _⟩
    · have hne : s.toList.isEmpty = false := by rw [bl_toList]; cases h : bl s with | nil => exact absurd ((bl_empty s).1 h) h0 | cons a t => rfl
      have H0 := Lib.hid (SRel.start s h0)
      have Hno := Lib.hid (splitL_none (bl s) hb)
      have Hmany := Lib.hid (fun ws => splitL_many (bl s) ws hb)
      have Hok := Lib.hid (fun ws => splitL_ok (bl s) ws hb)
      clear h0 hb
      go_enter Tryd.func11, Tryd.ntmps11
      go_wp2
      go_loopw [4, 5, 6, 7, 8] (fun v i _ _ _ wr => ∃ k : Nat, ∃ L : List (List UInt8), k ≤ s.size ∧ L.length ≤ k ∧ i = .int .i64 k ∧ SRel s k L ∧ OwnS wr w.heap.size v L ∧ Below w.heap.size w wr) (fun _ i _ _ _ _ => s.size - (intOf i).toNat)
      case atStart => exact ⟨0, [], Nat.zero_le _, Nat.zero_le _, rfl, H0.out, OwnS_nil _ _, Below.refl _ _⟩
      case round =>
        obtain ⟨k, L, hk, hLk, rfl, hsr, hown, hb⟩ := hrel
        have HS := Lib.hid hsr
        have HO := Lib.hid hown
        have HB := Lib.hid hb
        have hz := hb.size
        clear hsr hown hb
        cases hw : refWordL ((bl s).drop k) with
        | none =>
          have Hw := Lib.hid hw
          have HN := Lib.hid (HS.out.none hw)
          clear hw
          go_wp2_with (go_at_call 23; refine (word_any s k wr (by omega) hk).mono ?_; rw [Hw.out]; rintro e w1 ⟨x, i, b, rfl, hb1, rfl, _⟩)
          go_ret2
          rw [Hno.out HN.out]
          exact ⟨_, rfl, OwnS_nil _ _, HB.out.trans (hb1.mono hz)⟩
        | some p =>
          obtain ⟨wd, m⟩ := p
          have Hw := Lib.hid hw
          obtain ⟨hm0, hkm, h1, h2, h3⟩ := HS.out.word hk hw
          have HE := Lib.hid h1
          have HX := Lib.hid h2
          have HY := Lib.hid h3
          clear hw h1 h2 h3
          by_cases he : k + m = s.size
          · have te : (((k + m : Nat) : Int) == (s.size : Int)) = true := by rw [beq_iff_eq]; omega
            have HR := Lib.hid (HE.out he)
            clear he
            by_cases hmany : 256 < L.length + 1
            · go_wp2_with (first | (go_at_call 23; refine (word_any s k wr (by omega) hk).mono ?_; rw [Hw.out]; rintro e w1 ⟨x, i, b, rfl, hb1, rfl, hsp⟩; obtain ⟨hx, rfl⟩ := hsp wd m rfl; have HB1 := Lib.hid hb1; have hz1 := hb1.size; have HO1 : Hid (OwnS w1 w.heap.size u4 L) := Lib.hid (ownsRow_below HO.out hb1); have Hx := Lib.hid hx; clear hb1 hsp hx) | (at_builtin; refine appS1 rfl _ _ rfl w.heap.size u4 L x rfl HO1.out rfl (by omega) (by omega) ?_; intro v3 w3 ho3 hg3 hl3; obtain ⟨a3, n3, c3, rfl, hn3⟩ := OwnS_shape ho3; have hn : 256 < n3 := (by have h3 := hn3.out; simp only [List.length_append, List.length_cons, List.length_nil] at h3; omega)))
              go_ret2
              rw [Hmany.out _ HR.out (by simp; omega)]
              exact ⟨_, rfl, OwnS_nil _ _, (HB.out.trans (HB1.out.mono hz)).grown hg3 (by omega) (fun g hg => (World.ownsRow.lt HO1.out g hg).1)⟩
            · go_wp2_with (first | (go_at_call 23; refine (word_any s k wr (by omega) hk).mono ?_; rw [Hw.out]; rintro e w1 ⟨x, i, b, rfl, hb1, rfl, hsp⟩; obtain ⟨hx, rfl⟩ := hsp wd m rfl; have HB1 := Lib.hid hb1; have hz1 := hb1.size; have HO1 : Hid (OwnS w1 w.heap.size u4 L) := Lib.hid (ownsRow_below HO.out hb1); have Hx := Lib.hid hx; clear hb1 hsp hx) | (at_builtin; refine appS1 rfl _ _ rfl w.heap.size u4 L x rfl HO1.out rfl (by omega) (by omega) ?_; intro v3 w3 ho3 hg3 hl3; obtain ⟨a3, n3, c3, rfl, hn3⟩ := OwnS_shape ho3; have hn : n3 ≤ 256 := (by have h3 := hn3.out; simp only [List.length_append, List.length_cons, List.length_nil] at h3; omega)))
              go_ret2
              rw [Hok.out _ HR.out (by simp; omega)]
              exact ⟨_, rfl, by rw [← Hx.out]; exact ho3, (HB.out.trans (HB1.out.mono hz)).grown hg3 (by omega) (fun g hg => (World.ownsRow.lt HO1.out g hg).1)⟩
          · have te : (((k + m : Nat) : Int) == (s.size : Int)) = false := by rw [beq_eq_false_iff_ne]; omega
            have hlt : k + m < s.size := by omega
            clear he
            by_cases hsp : s[k + m] = 32
            · have t1 : ((s[k + m].toNat : Int) != 32) = false := by rw [hsp]; rfl
              have HR := Lib.hid (HY.out hlt hsp)
              clear hsp
              go_wp2_with (first | (go_at_call 23; refine (word_any s k wr (by omega) hk).mono ?_; rw [Hw.out]; rintro e w1 ⟨x, i, b, rfl, hb1, rfl, hsp⟩; obtain ⟨hx, rfl⟩ := hsp wd m rfl; have HB1 := Lib.hid hb1; have hz1 := hb1.size; have HO1 : Hid (OwnS w1 w.heap.size u4 L) := Lib.hid (ownsRow_below HO.out hb1); have Hx := Lib.hid hx; clear hb1 hsp hx) | (at_builtin; refine appS1 rfl _ _ rfl w.heap.size u4 L x rfl HO1.out rfl (by omega) (by omega) ?_; intro v3 w3 ho3 hg3 hl3))
              have HO3 := Lib.hid ho3
              have HB3 : Hid (Below w.heap.size w w3) := Lib.hid ((HB.out.trans (HB1.out.mono hz)).grown hg3 (by omega) (fun g hg => (World.ownsRow.lt HO1.out g hg).1))
              clear ho3 hg3 hl3
              go_roundw
              case rel => exact ⟨k + m + 1, L ++ [wd], by omega, by simp; omega, by go_num, HR.out, by rw [← Hx.out]; exact HO3.out, HB3.out⟩
              case measure => simp [intOf]; omega
            · have t1 : ((s[k + m].toNat : Int) != 32) = true := by
                rw [bne_iff_ne]
                intro e
                exact hsp (UInt8.toNat_inj.1 (by simpa using (by omega : s[k + m].toNat = 32)))
              have HN := Lib.hid (HX.out hlt hsp)
              clear hsp
              go_wp2_with (first | (go_at_call 23; refine (word_any s k wr (by omega) hk).mono ?_; rw [Hw.out]; rintro e w1 ⟨x, i, b, rfl, hb1, rfl, hsp⟩; obtain ⟨hx, rfl⟩ := hsp wd m rfl; have HB1 := Lib.hid hb1; have hz1 := hb1.size; have HO1 : Hid (OwnS w1 w.heap.size u4 L) := Lib.hid (ownsRow_below HO.out hb1); have Hx := Lib.hid hx; clear hb1 hsp hx) | (at_builtin; refine appS1 rfl _ _ rfl w.heap.size u4 L x rfl HO1.out rfl (by omega) (by omega) ?_; intro v3 w3 ho3 hg3 hl3))
              go_ret2
              rw [Hno.out HN.out]
              exact ⟨_, rfl, OwnS_nil _ _, (HB.out.trans (HB1.out.mono hz)).grown hg3 (by omega) (fun g hg => (World.ownsRow.lt HO1.out g hg).1)⟩
end Go.Proofs.YtfolocahchohdaaDoor
