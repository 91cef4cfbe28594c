/- written, of the reference: a word as it is written. -/
import Derived.Test.YtfolocahchohdaaDoorWApp
namespace Go.Proofs.YtfolocahchohdaaDoor
open Go.RowKit WMath

theorem esc5 (c : UInt8) : (c = 34 ∧ esc c = [92, 34]) ∨ (c = 92 ∧ esc c = [92, 92]) ∨ (c = 10 ∧ esc c = [92, 110]) ∨ (c = 13 ∧ esc c = [92, 114]) ∨ (c ≠ 34 ∧ c ≠ 92 ∧ c ≠ 10 ∧ c ≠ 13 ∧ esc c = [c]) := by
  unfold esc escB
  by_cases h1 : c = 34
  · subst h1; simp
  · by_cases h2 : c = 92
    · subst h2; simp
    · by_cases h3 : c = 10
      · subst h3; simp
      · by_cases h4 : c = 13
        · subst h4; simp
        · simp [h1, h2, h3, h4]

/-- a string is handed back; nothing old has changed -/
def RetStr (w : World) (l : List UInt8) (e : Ending) (w' : World) : Prop := e = .returned (.string (bs l)) ∧ Below w.heap.size w w'

theorem OwnB_lit (w : World) (b : UInt8) : OwnB (w.alloc (.cells #[.int .u8 (b.toNat : Int)] 5)) w.heap.size (.slice (some ⟨w.heap.size, 0, none⟩) 1 1) [b] := by
  unfold OwnB
  have := World.ownsRow_lit (base := w.heap.size) (e := 5) (size := 1) w #[.int .u8 (b.toNat : Int)] 1 (Nat.le_refl _) (by unfold maxLen; omega) rfl
  simpa [u8v] using this

set_option maxHeartbeats 1000000 in
set_option maxRecDepth 100000 in
theorem written_any (s : ByteArray) (w : World) (hs : s.size ≤ 1000000) :
    Calls Tryd.prog 27 #[.string s] w (RetStr w (wtn (bl s))) := by
  cases hp : isPlainL (bl s) with
  | true =>
    have hw : wtn (bl s) = bl s := by unfold wtn; rw [if_pos hp]
    rw [hw]
    have Hp := Lib.hid hp
    clear hp hw
    go_enter Tryd.func27, Tryd.ntmps27
    go_wp2_with (go_at_call 39; refine (plain_any _ _ (by unfold maxLen; omega)).mono ?_; rintro e w1 ⟨rfl, rfl⟩; rw [Hp.out])
    go_ret
    exact ⟨by rw [bs_bl]; rfl, Below.refl _ _⟩
  | false =>
    have Hw := Lib.hid (wtn_quoted s hp)
    have Hp := Lib.hid hp
    clear hp
    have Hlit : Hid (OwnB (w.alloc (.cells #[.int .u8 34] 5)) w.heap.size (.slice (some ⟨w.heap.size, 0, none⟩) 1 1) (34 :: ((bl s).take 0).flatMap esc)) := Lib.hid (OwnB_lit w 34)
    have Hb0 : Hid (Below w.heap.size w (w.alloc (.cells #[.int .u8 34] 5))) := Lib.hid ((Below.refl _ _).alloc (Nat.le_refl _) _)
    go_enter Tryd.func27, Tryd.ntmps27
    go_wp2_with (go_at_call 39; refine (plain_any _ _ (by unfold maxLen; omega)).mono ?_; rintro e w1 ⟨rfl, rfl⟩; rw [Hp.out])
    go_loopw [3, 4, 5] (fun v i _ wr => ∃ k : Nat, k ≤ s.size ∧ i = .int .i64 k ∧ Below w.heap.size w wr ∧ OwnB wr w.heap.size v (34 :: ((bl s).take k).flatMap esc)) (fun _ i _ _ => s.size - (intOf i).toNat)
    case atStart => exact ⟨0, Nat.zero_le _, rfl, Hb0.out, Hlit.out⟩
    case round =>
      obtain ⟨k, hk, rfl, hb, hown⟩ := hrel
      have HB := Lib.hid hb
      have HO := Lib.hid hown
      have hz := hb.size
      have hlen := flat_take_len s k
      clear hb hown
      by_cases hlt : k < s.size
      · have Hfs := Lib.hid (flat_snoc s k hlt)
        have hL : (34 :: ((bl s).take k).flatMap esc).length ≤ 10000000 := by simp only [List.length_cons]; omega
        rcases esc5 s[k] with ⟨h34, hes⟩ | ⟨h92, hes⟩ | ⟨h10, hes⟩ | ⟨h13, hes⟩ | ⟨h34, h92, h10, h13, hes⟩
        · have Hes : Hid (esc s[k] = [92, s[k]]) := Lib.hid (by rw [hes, h34])
          clear hes
          have t1 : ((s[k].toNat : Int) == 34) = true := u8_t (c := 34) h34
          clear h34
          go_wp2_with (at_builtin; refine appB2 rfl _ _ rfl _ _ _ 92 s[k] rfl HO.out rfl (by omega) (by omega) ?_; intro v3 w3 ho3 hg3 hl3)
          have HN := Lib.hid ho3
          have HB3 := Lib.hid (HB.out.grown hg3 hz (fun g hg => (World.ownsRow.lt HO.out g hg).1))
          clear ho3 hg3 hl3
          go_roundw
          case rel => exact ⟨k + 1, by omega, by go_num, HB3.out, by rw [Hfs.out, Hes.out]; simpa using HN.out⟩
          case measure => simp [intOf]; omega
        · have Hes : Hid (esc s[k] = [92, s[k]]) := Lib.hid (by rw [hes, h92])
          clear hes
          have t1 : ((s[k].toNat : Int) == 34) = false := u8_f (c := 34) (by rw [h92]; decide)
          have t2 : ((s[k].toNat : Int) == 92) = true := u8_t (c := 92) h92
          clear h92
          go_wp2_with (at_builtin; refine appB2 rfl _ _ rfl _ _ _ 92 s[k] rfl HO.out rfl (by omega) (by omega) ?_; intro v3 w3 ho3 hg3 hl3)
          have HN := Lib.hid ho3
          have HB3 := Lib.hid (HB.out.grown hg3 hz (fun g hg => (World.ownsRow.lt HO.out g hg).1))
          clear ho3 hg3 hl3
          go_roundw
          case rel => exact ⟨k + 1, by omega, by go_num, HB3.out, by rw [Hfs.out, Hes.out]; simpa using HN.out⟩
          case measure => simp [intOf]; omega
        · have Hes := Lib.hid hes
          clear hes
          have t1 : ((s[k].toNat : Int) == 34) = false := u8_f (c := 34) (by rw [h10]; decide)
          have t2 : ((s[k].toNat : Int) == 92) = false := u8_f (c := 92) (by rw [h10]; decide)
          have t3 : ((s[k].toNat : Int) == 10) = true := u8_t (c := 10) h10
          clear h10
          go_wp2_with (at_builtin; refine appB2 rfl _ _ rfl _ _ _ 92 110 rfl HO.out rfl (by omega) (by omega) ?_; intro v3 w3 ho3 hg3 hl3)
          have HN := Lib.hid ho3
          have HB3 := Lib.hid (HB.out.grown hg3 hz (fun g hg => (World.ownsRow.lt HO.out g hg).1))
          clear ho3 hg3 hl3
          go_roundw
          case rel => exact ⟨k + 1, by omega, by go_num, HB3.out, by rw [Hfs.out, Hes.out]; simpa using HN.out⟩
          case measure => simp [intOf]; omega
        · have Hes := Lib.hid hes
          clear hes
          have t1 : ((s[k].toNat : Int) == 34) = false := u8_f (c := 34) (by rw [h13]; decide)
          have t2 : ((s[k].toNat : Int) == 92) = false := u8_f (c := 92) (by rw [h13]; decide)
          have t3 : ((s[k].toNat : Int) == 10) = false := u8_f (c := 10) (by rw [h13]; decide)
          have t4 : ((s[k].toNat : Int) == 13) = true := u8_t (c := 13) h13
          clear h13
          go_wp2_with (at_builtin; refine appB2 rfl _ _ rfl _ _ _ 92 114 rfl HO.out rfl (by omega) (by omega) ?_; intro v3 w3 ho3 hg3 hl3)
          have HN := Lib.hid ho3
          have HB3 := Lib.hid (HB.out.grown hg3 hz (fun g hg => (World.ownsRow.lt HO.out g hg).1))
          clear ho3 hg3 hl3
          go_roundw
          case rel => exact ⟨k + 1, by omega, by go_num, HB3.out, by rw [Hfs.out, Hes.out]; simpa using HN.out⟩
          case measure => simp [intOf]; omega
        · have Hes := Lib.hid hes
          clear hes
          have t1 : ((s[k].toNat : Int) == 34) = false := u8_f (c := 34) h34
          have t2 : ((s[k].toNat : Int) == 92) = false := u8_f (c := 92) h92
          have t3 : ((s[k].toNat : Int) == 10) = false := u8_f (c := 10) h10
          have t4 : ((s[k].toNat : Int) == 13) = false := u8_f (c := 13) h13
          clear h34 h92 h10 h13
          go_wp2_with (at_builtin; refine appB1 rfl _ _ rfl _ _ _ s[k] rfl HO.out rfl (by omega) (by omega) ?_; intro v3 w3 ho3 hg3 hl3)
          have HN := Lib.hid ho3
          have HB3 := Lib.hid (HB.out.grown hg3 hz (fun g hg => (World.ownsRow.lt HO.out g hg).1))
          clear ho3 hg3 hl3
          go_roundw
          case rel => exact ⟨k + 1, by omega, by go_num, HB3.out, by rw [Hfs.out, Hes.out]; simpa using HN.out⟩
          case measure => simp [intOf]; omega
      · obtain rfl : k = s.size := by omega
        have hL : (34 :: ((bl s).take s.size).flatMap esc).length ≤ 10000000 := by simp only [List.length_cons]; omega
        go_wp2_with (at_builtin; refine appB1 rfl _ _ rfl _ _ _ 34 rfl HO.out rfl (by omega) (by omega) ?_; intro v3 w3 ho3 hg3 hl3; have hcs := OwnB_string ho3)
        clear hcs
        go_ret
        refine ⟨?_, HB.out.grown hg3 hz (fun g hg => (World.ownsRow.lt HO.out g hg).1)⟩
        rw [Hw.out]
        simp
end Go.Proofs.YtfolocahchohdaaDoor
