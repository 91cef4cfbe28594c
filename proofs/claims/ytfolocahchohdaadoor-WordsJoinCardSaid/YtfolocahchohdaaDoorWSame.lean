/- Same: two lists of words are equal. -/
import Derived.Test.YtfolocahchohdaaDoorWLines2
namespace Go.Proofs.YtfolocahchohdaaDoor
open Go.RowKit WMath

/-- equal lists -/
def sameB (a b : List ByteArray) : Bool := decide (a = b)
theorem sameB_len {a b : List ByteArray} (h : a.length ≠ b.length) : sameB a b = false := decide_eq_false (fun e => h (by rw [e]))
theorem sameB_ne {a b : List ByteArray} (k : Nat) (ha : k < a.length) (hb : k < b.length) (h : a[k] ≠ b[k]) : sameB a b = false := by
  refine decide_eq_false (fun e => h ?_)
  subst e
  rfl
theorem sameB_eq {a b : List ByteArray} (hl : a.length = b.length) (h : a.take a.length = b.take a.length) : sameB a b = true := by
  refine decide_eq_true ?_
  rw [List.take_length] at h
  rw [h, hl, List.take_length]
theorem take_snoc_eq {a b : List ByteArray} (k : Nat) (ha : k < a.length) (hb : k < b.length) (h : a.take k = b.take k) (he : a[k] = b[k]) : a.take (k + 1) = b.take (k + 1) := by
  rw [List.take_succ_eq_append_getElem ha, List.take_succ_eq_append_getElem hb, h, he]

/-- a bool is handed back; nothing old has changed -/
def RetBool (w : World) (b : Bool) (e : Ending) (w' : World) : Prop := e = .returned (.bool b) ∧ Below w.heap.size w w'

theorem str_ne {s t : ByteArray} (h : s ≠ t) : (s.toList == t.toList) = false := by
  rw [beq_eq_false_iff_ne, bl_toList, bl_toList]
  exact fun e => h (bl_inj e)
theorem str_eq {s t : ByteArray} (h : s = t) : (s.toList == t.toList) = true := by subst h; simp

set_option maxHeartbeats 1000000 in
set_option maxRecDepth 100000 in
theorem same_any (va vb : Value) (A B : List ByteArray) (w : World) (ha : StrsAt w va A) (hb : StrsAt w vb B) (hm : A.length ≤ maxLen) (hmb : B.length ≤ maxLen) :
    Calls Tryd.prog 12 #[va, vb] w (RetBool w (sameB A B)) := by
  unfold maxLen at hm hmb
  by_cases hl : A.length = B.length
  · rcases ha with ⟨rfl, a, c, rfl⟩ | ⟨b, o, c, rfl, hcell⟩
    · have hB : B = [] := List.eq_nil_of_length_eq_zero (by simpa using hl.symm)
      subst hB
      obtain ⟨a', c', rfl⟩ : ∃ a' c', vb = .slice a' 0 c' := by
        rcases hb with ⟨_, a', c', rfl⟩ | ⟨b', o', c', rfl, _⟩
        · exact ⟨_, _, rfl⟩
        · exact ⟨_, _, rfl⟩
      go_enter Tryd.func12, Tryd.ntmps12
      go_wp2
      go_loop [5, 13] (fun _ i => i = .int .i64 0) (fun _ i => 0)
      case atStart => exact rfl
      case round =>
        subst hrel
        go_wp2
        go_ret
        exact ⟨rfl, Below.refl _ _⟩
    · rcases hb with ⟨rfl, a', c', rfl⟩ | ⟨b', o', c', rfl, hcell'⟩
      · have hA : A = [] := List.eq_nil_of_length_eq_zero (by simpa using hl)
        subst hA
        go_enter Tryd.func12, Tryd.ntmps12
        go_wp2
        go_loop [5, 13] (fun _ i => i = .int .i64 0) (fun _ i => 0)
        case atStart => exact rfl
        case round =>
          subst hrel
          go_wp2
          go_ret
          exact ⟨rfl, Below.refl _ _⟩
      · have HC := Lib.hid hcell
        have HC' := Lib.hid hcell'
        have Hne := Lib.hid (@sameB_ne A B)
        have Heq := Lib.hid (@sameB_eq A B hl)
        have Hsn := Lib.hid (@take_snoc_eq A B)
        rw [← hl] at hmb ⊢
        have Hl := Lib.hid hl
        obtain ⟨n, hnn⟩ : ∃ n, n = A.length := ⟨_, rfl⟩
        have Hn := Lib.hid hnn
        rw [← hnn] at hm ⊢
        clear hcell hcell' hl hmb hnn
        go_enter Tryd.func12, Tryd.ntmps12
        go_wp2
        go_loopw [5, 13] (fun _ i wr => ∃ k : Nat, k ≤ n ∧ i = .int .i64 k ∧ A.take k = B.take k ∧ Below w.heap.size w wr) (fun _ i _ => n - (intOf i).toNat)
        case atStart => exact ⟨0, Nat.zero_le _, rfl, rfl, Below.refl _ _⟩
        case round =>
          obtain ⟨k, hk, rfl, htk, hbr⟩ := hrel
          have HT := Lib.hid htk
          have HB := Lib.hid hbr
          clear htk
          by_cases hlt : k < n
          · have hkA : k < A.length := by rw [← Hn.out]; exact hlt
            have hkB : k < B.length := by rw [← Hl.out]; exact hkA
            have hc0 := HC.out k hkA
            have hc0' := HC'.out k hkB
            have hca := (hbr.cell (World.block_lt_of_cell? w _ hc0)).trans hc0
            have hcb := (hbr.cell (World.block_lt_of_cell? w _ hc0')).trans hc0'
            have HNE := Lib.hid (Hne.out k hkA hkB)
            have HSN := Lib.hid (Hsn.out k hkA hkB HT.out)
            clear hc0 hc0' hbr
            generalize A[k] = s at *
            generalize B[k] = t at *
            clear hkA hkB
            by_cases hst : s = t
            · have ht := str_eq hst
              have HST := Lib.hid hst
              clear hst
              go_wp2
              go_quiet (fail)
              go_wp2
              go_roundw
              case rel => exact ⟨k + 1, by omega, by go_num, HSN.out HST.out, below_drewN HB.out _⟩
              case measure => simp [intOf]; omega
            · have ht := str_ne hst
              have HST := Lib.hid hst
              clear hst
              go_wp2
              go_quiet (fail)
              go_wp2
              go_ret
              exact ⟨by rw [HNE.out HST.out]; rfl, below_drewN HB.out _⟩
          · obtain rfl : k = n := by omega
            clear hbr
            go_wp2
            go_ret
            exact ⟨by rw [Heq.out (by rw [← Hn.out]; exact HT.out)]; rfl, HB.out⟩
  · rw [sameB_len hl]
    obtain ⟨a, n, c, rfl, hn⟩ : ∃ a n c, va = .slice a n c ∧ A.length = n := by
      rcases ha with ⟨rfl, a, c, rfl⟩ | ⟨b, o, c, rfl, _⟩
      · exact ⟨_, _, _, rfl, rfl⟩
      · exact ⟨_, _, _, rfl, rfl⟩
    obtain ⟨a', n', c', rfl, hn'⟩ : ∃ a n c, vb = .slice a n c ∧ B.length = n := by
      rcases hb with ⟨rfl, a, c, rfl⟩ | ⟨b, o, c, rfl, _⟩
      · exact ⟨_, _, _, rfl, rfl⟩
      · exact ⟨_, _, _, rfl, rfl⟩
    rw [hn, hn'] at hl
    rw [hn] at hm
    rw [hn'] at hmb
    have ht : ((n : Int) != (n' : Int)) = true := by rw [bne_iff_ne]; omega
    clear hn hn' ha hb
    go_enter Tryd.func12, Tryd.ntmps12
    go_wp2
    go_ret
    exact ⟨rfl, Below.refl _ _⟩
end Go.Proofs.YtfolocahchohdaaDoor
