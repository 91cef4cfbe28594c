/- appendWord and wtn: the line of one word, wtn behind what is there. -/
import Derived.Test.YtfolocahchohdaaDoorWOwn
import Derived.Test.YtfolocahchohdaaDoorWLeaf2
namespace Go.Proofs.YtfolocahchohdaaDoor
open Go.RowKit WMath

/-- from w to w' nothing old but block 'row' has changed, and v lies in that block or in a new one -/
def At (w : World) (row : Option Nat) (w' : World) (v : Value) : Prop := w.grownBy w' row ∧ (v.ownBlock = row ∨ ∃ g, v.ownBlock = some g ∧ w.heap.size ≤ g)
theorem At.refl (w : World) (v : Value) : At w v.ownBlock w v := ⟨World.grownBy.refl _ _, .inl rfl⟩
theorem At.step {w wr w' : World} {row : Option Nat} {v v' : Value} (h : At w row wr v) (hg : wr.grownBy w' v.ownBlock) (hl : v'.ownBlock = v.ownBlock ∨ ∃ g, v'.ownBlock = some g ∧ wr.heap.size ≤ g) : At w row w' v' := by
  obtain ⟨h1, h2⟩ := h
  refine ⟨⟨hg.os.trans h1.os, hg.tape.trans h1.tape, hg.output.trans h1.output, Nat.le_trans h1.size hg.size, fun k hk hne => ?_⟩, ?_⟩
  · refine (hg.block k (Nat.lt_of_lt_of_le hk h1.size) ?_).trans (h1.block k hk hne)
    intro e
    rcases h2 with h2 | ⟨g, h2, hg2⟩
    · exact hne (e.trans h2)
    · rw [h2] at e
      cases e
      omega
  · rcases hl with hl | ⟨g, hl, hgl⟩
    · rw [hl]; exact h2
    · exact .inr ⟨g, hl, Nat.le_trans h1.size hgl⟩
theorem At.below {w wr w' : World} {row : Option Nat} {v : Value} (h : At w row wr v) (hb : Below wr.heap.size wr w') : At w row w' v := by
  refine h.step (below_grown hb _) (.inl rfl)

/-- what a loop that appends to v and reads block N knows -/
structure LoopApp (w0 W : World) (row : Option Nat) (N B : Nat) (wr : World) (v : Value) (L : List UInt8) : Prop where
  own : OwnB wr B v L
  at_ : At w0 row wr v
  blk : wr.heap[N]? = W.heap[N]?
  lt : N < wr.heap.size
  ne : v.ownBlock ≠ some N
  hB : B ≤ wr.heap.size
theorem LoopApp.step {w0 W : World} {row : Option Nat} {N B : Nat} {wr w' : World} {v v' : Value} {L M : List UInt8} (h : LoopApp w0 W row N B wr v L)
    (ho : OwnB w' B v' M) (hg : wr.grownBy w' v.ownBlock) (hl : v'.ownBlock = v.ownBlock ∨ ∃ g, v'.ownBlock = some g ∧ wr.heap.size ≤ g) : LoopApp w0 W row N B w' v' M := by
  refine ⟨ho, h.at_.step hg hl, ?_, Nat.lt_of_lt_of_le h.lt hg.size, ?_, Nat.le_trans h.hB hg.size⟩
  · exact (hg.block N h.lt (fun e => h.ne e.symm)).trans h.blk
  · rcases hl with hl | ⟨g, hl, hgl⟩
    · rw [hl]; exact h.ne
    · rw [hl]
      intro e
      cases e
      have := h.lt
      omega

/-- what a function that appends to a slice hands back -/
def RetB (w : World) (B : Nat) (row : Option Nat) (l : List UInt8) (e : Ending) (w' : World) : Prop := ∃ v', e = .returned v' ∧ OwnB w' B v' l ∧ w.grownBy w' row

theorem esc_some {c d : UInt8} (h : escB c = some d) : esc c = [92, d] := by unfold esc; rw [h]
theorem esc_none {c : UInt8} (h : escB c = none) : esc c = [c] := by unfold esc; rw [h]
theorem flat_snoc (s : ByteArray) (k : Nat) (h : k < s.size) : ((bl s).take (k + 1)).flatMap esc = ((bl s).take k).flatMap esc ++ esc s[k] := by
  rw [bl_take s k h, List.flatMap_append]
  simp
theorem flat_take_len (s : ByteArray) (k : Nat) : (((bl s).take k).flatMap esc).length ≤ 2 * s.size := by
  have := (flatEsc_len ((bl s).take k)).2
  have h2 : ((bl s).take k).length ≤ s.size := by rw [List.length_take, bl_len]; omega
  omega

set_option maxHeartbeats 400000 in
set_option maxRecDepth 100000 in
theorem appendWord_plain (B : Nat) (v : Value) (l : List UInt8) (s : ByteArray) (w : World) (hown : OwnB w B v l) (hB : B ≤ w.heap.size) (hl : l.length ≤ 1000000) (hs : s.size ≤ 1000000) (hp : isPlainL (bl s) = true) :
    Calls Tryd.prog 26 #[v, .string s] w (RetB w B v.ownBlock (l ++ wtn (bl s))) := by
  have hw : wtn (bl s) = bl s := by unfold wtn; rw [if_pos hp]
  rw [hw]
  have Hp := Lib.hid hp
  have Ho := Lib.hid hown
  clear hp hown hw
  go_enter Tryd.func26, Tryd.ntmps26
  go_wp2_with fail
  refine (isPlain_any _ _ (by unfold maxLen; omega)).mono ?_
  rintro e w1 ⟨rfl, hb⟩
  rw [Hp.out]
  have Ho1 := Lib.hid (ownsRow_below Ho.out hb)
  have Hb := Lib.hid hb
  have hz := hb.size
  clear hb
  go_wp2_with (at_builtin; refine appStr rfl _ _ rfl B v l s rfl Ho1.out rfl (by omega) (by omega) ?_; intro v' w2 ho2 hg2)
  go_ret
  exact ⟨_, rfl, ho2, (below_grown Hb.out _).trans hg2⟩

theorem wtn_quoted (s : ByteArray) (hp : isPlainL (bl s) = false) : wtn (bl s) = 34 :: (((bl s).take s.size).flatMap esc ++ [34]) := by
  unfold wtn
  rw [if_neg (by simp [hp]), bl_take_all s s.size (Nat.le_refl _)]

set_option maxHeartbeats 1000000 in
set_option maxRecDepth 100000 in
theorem appendWord_quoted (B : Nat) (v : Value) (l : List UInt8) (s : ByteArray) (w : World) (hown : OwnB w B v l) (hB : B ≤ w.heap.size) (hl : l.length ≤ 1000000) (hs : s.size ≤ 1000000) (hp : isPlainL (bl s) = false) :
    Calls Tryd.prog 26 #[v, .string s] w (RetB w B v.ownBlock (l ++ wtn (bl s))) := by
  have Hw := Lib.hid (wtn_quoted s hp)
  have Hp := Lib.hid hp
  have Ho := Lib.hid hown
  clear hp hown
  go_enter Tryd.func26, Tryd.ntmps26
  go_wp2_with fail
  refine (isPlain_any _ _ (by unfold maxLen; omega)).mono ?_
  rintro e w1 ⟨rfl, hb⟩
  rw [Hp.out]
  have Ho1 := Lib.hid (ownsRow_below Ho.out hb)
  have HA1 := Lib.hid ((At.refl w v).below hb)
  have hz := hb.size
  clear hb
  go_wp2_with (at_builtin; refine appB1 rfl _ _ rfl B v l 34 rfl Ho1.out rfl (by omega) (by omega) ?_; intro v2 w2 ho2 hg2 hl2)
  have Ho2 := Lib.hid ho2
  have HA2 := Lib.hid (HA1.out.step hg2 hl2)
  have hz2 := hg2.size
  clear ho2 hg2 hl2
  obtain ⟨W, c, hcv, hB3, hcell, hsz⟩ := bytes_of_string (P := Tryd.prog) w2 9 47 5 s Tryd.underlying9 Tryd.underlying47 Tryd.underlying5
  have Hne : Hid (v2.ownBlock ≠ some w2.heap.size) := Lib.hid (by intro e; have := (World.ownsRow.lt Ho2.out _ e).2; omega)
  have HL : Hid (LoopApp w W v.ownBlock w2.heap.size B W v2 (l ++ 34 :: ((bl s).take 0).flatMap esc)) :=
    Lib.hid ⟨by have := ownsRow_below Ho2.out hB3; simpa [OwnB] using this, HA2.out.below hB3, rfl, by omega, Hne.out, by omega⟩
  have Hcell := Lib.hid hcell
  clear hB3 hcell
  rw [hcv]
  clear hcv
  go_wp2
  go_loopw [0, 6, 7, 8, 20] (fun vr _ _ _ i wr => ∃ k : Nat, k ≤ s.size ∧ i = .int .i64 k ∧ LoopApp w W v.ownBlock w2.heap.size B wr vr (l ++ 34 :: ((bl s).take k).flatMap esc)) (fun _ _ _ _ i _ => s.size - (intOf i).toNat)
  case atStart => exact ⟨0, Nat.zero_le _, rfl, HL.out⟩
  case round =>
    obtain ⟨k, hk, rfl, hLr⟩ := hrel
    have HR := Lib.hid hLr
    clear hLr
    have hlen := flat_take_len s k
    by_cases hlt : k < s.size
    · have hc := (World.cell?_of_block (w := W) (a := ⟨w2.heap.size, k, none⟩) HR.out.blk).trans (Hcell.out k hlt)
      have Hfs := Lib.hid (flat_snoc s k hlt)
      have hL : (l ++ 34 :: ((bl s).take k).flatMap esc).length ≤ 10000000 := by simp only [List.length_append, List.length_cons]; omega
      have hBr := HR.out.hB
      cases he : escB s[k] with
      | some d =>
        have He := Lib.hid he
        have Hes := Lib.hid (esc_some he)
        clear he
        go_wp2_with (first | (go_at_call 38; refine (swap_any _ _ _ _ _ _ _ _ _ _).mono ?_; rintro e wz ⟨rfl, rfl⟩; rw [swapD_escB, He.out]) | (at_builtin; refine appB2 rfl _ _ rfl B u0 _ 92 d rfl HR.out.own rfl (by omega) hBr ?_; intro v3 w3 ho3 hg3 hl3))
        clear hc
        have HN := Lib.hid (HR.out.step ho3 hg3 hl3)
        clear ho3 hg3 hl3
        go_roundw
        case rel => exact ⟨k + 1, by omega, by go_num, by rw [Hfs.out, Hes.out]; simpa using HN.out⟩
        case measure => simp [intOf]; omega
      | none =>
        have He := Lib.hid he
        have Hes := Lib.hid (esc_none he)
        clear he
        go_wp2_with (first | (go_at_call 38; refine (swap_any _ _ _ _ _ _ _ _ _ _).mono ?_; rintro e wz ⟨rfl, rfl⟩; rw [swapD_escB, He.out]) | (at_builtin; refine appB1 rfl _ _ rfl B u0 _ s[k] rfl HR.out.own rfl (by omega) hBr ?_; intro v3 w3 ho3 hg3 hl3))
        clear hc
        have HN := Lib.hid (HR.out.step ho3 hg3 hl3)
        clear ho3 hg3 hl3
        go_roundw
        case rel => exact ⟨k + 1, by omega, by go_num, by rw [Hfs.out, Hes.out]; simpa using HN.out⟩
        case measure => simp [intOf]; omega
    · obtain rfl : k = s.size := by omega
      have hL : (l ++ 34 :: ((bl s).take s.size).flatMap esc).length ≤ 10000000 := by simp only [List.length_append, List.length_cons]; omega
      have hBr := HR.out.hB
      go_wp2_with (at_builtin; refine appB1 rfl _ _ rfl B u0 _ 34 rfl HR.out.own rfl (by omega) hBr ?_; intro v3 w3 ho3 hg3 hl3)
      have HN := Lib.hid (HR.out.step ho3 hg3 hl3)
      clear ho3 hg3 hl3
      go_ret
      refine ⟨_, rfl, ?_, HN.out.at_.1⟩
      rw [Hw.out]
      simpa using HN.out.own

theorem appendWord_any (B : Nat) (v : Value) (l : List UInt8) (s : ByteArray) (w : World) (hown : OwnB w B v l) (hB : B ≤ w.heap.size) (hl : l.length ≤ 1000000) (hs : s.size ≤ 1000000) :
    Calls Tryd.prog 26 #[v, .string s] w (RetB w B v.ownBlock (l ++ wtn (bl s))) := by
  cases hp : isPlainL (bl s) with
  | true => exact appendWord_plain B v l s w hown hB hl hs hp
  | false => exact appendWord_quoted B v l s w hown hB hl hs hp
end Go.Proofs.YtfolocahchohdaaDoor
