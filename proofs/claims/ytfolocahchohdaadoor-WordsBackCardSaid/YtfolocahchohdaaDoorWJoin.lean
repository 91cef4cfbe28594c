/- Join, of the program and of the reference. -/
import Derived.Test.YtfolocahchohdaaDoorWWrt
namespace Go.Proofs.YtfolocahchohdaaDoor
open Go.RowKit WMath

/-- a string and an error's number are handed back; nothing old has changed -/
def RetSE (w : World) (r : List UInt8 × Nat) (e : Ending) (w' : World) : Prop := e = .returned (.tuple #[.string (bs r.1), .int .i64 (r.2 : Int)]) ∧ Below w.heap.size w w'

theorem joinR_many (L : List (List UInt8)) (h : 256 < L.length) : joinR L = ([], 3) := by unfold joinR; rw [if_pos (.inl h)]
theorem joinR_long (L : List (List UInt8)) (k : Nat) (h : 4096 < (joinL (L.take k)).length) : joinR L = ([], 3) := by
  have := joinL_take_full L k
  unfold joinR
  rw [if_pos (.inr (by omega))]
theorem joinR_ok (L : List (List UInt8)) (h : L.length ≤ 256) (h2 : (joinL (L.take L.length)).length ≤ 4096) : joinR L = (joinL (L.take L.length), 0) := by
  rw [List.take_length] at h2 ⊢
  unfold joinR
  rw [if_neg (by omega)]

theorem wtn_le (L : List ByteArray) (hw : ∀ x ∈ L, x.size ≤ 200) (k : Nat) (h : k < L.length) : (wtn (bl L[k])).length ≤ 402 := by
  have h1 := (wtn_len (bl L[k])).2
  have h2 := hw L[k] (List.getElem_mem h)
  rw [bl_len] at h1
  omega

theorem join_first (L : List ByteArray) (k : Nat) (h : k < L.length) (h0 : k ≤ 0) : joinL ((L.map bl).take (k + 1)) = joinL ((L.map bl).take k) ++ wtn (bl L[k]) := by
  have : k = 0 := by omega
  subst this
  rw [joinL_take_succ _ _ (by simpa using h)]
  simp [joinL]
theorem join_next (L : List ByteArray) (k : Nat) (h : k < L.length) (h0 : 0 < k) : joinL ((L.map bl).take (k + 1)) = (joinL ((L.map bl).take k) ++ [32]) ++ wtn (bl L[k]) := by
  rw [joinL_take_succ _ _ (by simpa using h), if_neg (by omega)]
  simp

set_option maxHeartbeats 1000000 in
set_option maxRecDepth 100000 in
theorem join_any (v : Value) (L : List ByteArray) (w : World) (hv : StrsAt w v L) (hn : L.length ≤ 270) (hw : ∀ x ∈ L, x.size ≤ 200) :
    Calls Tryd.prog 16 #[v] w (RetSE w (joinR (L.map bl))) := by
  by_cases hmany : 256 < L.length
  · rw [joinR_many _ (by simpa using hmany)]
    rcases hv with ⟨rfl, _⟩ | ⟨b, o, c, rfl, _⟩
    · simp at hmany
    · obtain ⟨n, hnn⟩ : ∃ n, n = L.length := ⟨_, rfl⟩
      rw [← hnn] at hmany hn ⊢
      clear hnn hw
      go_enter Tryd.func16, Tryd.ntmps16
      go_wp2
      go_ret2
      exact ⟨rfl, Below.refl _ _⟩
  · rcases hv with ⟨rfl, a, c, rfl⟩ | ⟨b, o, c, rfl, hcell⟩
    · go_enter Tryd.func16, Tryd.ntmps16
      go_wp2
      go_loopw [4, 5, 6, 12] (fun vl _ _ i wr => i = .int .i64 0 ∧ wr = w ∧ vl = .slice none 0 0) (fun _ _ _ i _ => 0)
      case atStart => exact ⟨rfl, rfl, rfl⟩
      case round =>
        obtain ⟨rfl, rfl, rfl⟩ := hrel
        have hcs := OwnB_string (OwnB_nil wr 0)
        go_wp2
        go_ret2
        exact ⟨rfl, Below.refl _ _⟩
    · go_enter Tryd.func16, Tryd.ntmps16
      have hL : L.length ≤ 256 := by omega
      have HC := Lib.hid hcell
      have Hjl := Lib.hid (joinR_long (L.map bl))
      have Hjo := Lib.hid (joinR_ok (L.map bl) (by simpa using hL))
      obtain ⟨n, hnn⟩ : ∃ n, n = L.length := ⟨_, rfl⟩
      have Hn := Lib.hid hnn
      rw [← hnn] at hL hmany hn ⊢
      clear hcell hnn
      go_wp2
      go_loopw [4, 5, 6, 12] (fun vl _ _ i wr => ∃ k : Nat, k ≤ n ∧ i = .int .i64 k ∧ Below w.heap.size w wr ∧ OwnB wr w.heap.size vl (joinL ((L.map bl).take k)) ∧ (joinL ((L.map bl).take k)).length ≤ 4096) (fun _ _ _ i _ => n - (intOf i).toNat)
      case atStart => exact ⟨0, Nat.zero_le _, rfl, Below.refl _ _, OwnB_nil _ _, by simp [joinL]⟩
      case round =>
        obtain ⟨k, hk, rfl, hb, hown, hle⟩ := hrel
        have HB := Lib.hid hb
        have HO := Lib.hid hown
        have hz := hb.size
        clear hown
        by_cases hlt : k < n
        · have hkL : k < L.length := by rw [← Hn.out]; exact hlt
          have hc0 := HC.out k hkL
          have hcb : wr.cell? ⟨b, o + k, none⟩ = some (.string L[k]) := (hb.cell (World.block_lt_of_cell? w _ hc0)).trans hc0
          have hsz : L[k].size ≤ 200 := hw _ (List.getElem_mem hkL)
          have hwl := wtn_le L hw k hkL
          have HF := Lib.hid (join_first L k hkL)
          have HX := Lib.hid (join_next L k hkL)
          clear hc0 hb hw
          generalize hs : L[k] = s at *
          clear hs
          by_cases hk0 : k ≤ 0
          · have HFX := Lib.hid (HF.out hk0)
            go_wp2_with (go_at_call 26; refine (appendWord_any w.heap.size u4 _ s wr HO.out hz (by omega) (by omega)).mono ?_; rintro e w3 ⟨v3, rfl, ho3, hg3⟩; obtain ⟨a3, n3, c3, rfl, hn3⟩ := OwnB_shape ho3; have HB3 := Lib.hid (HB.out.grown hg3 hz (fun g hg => (World.ownsRow.lt HO.out g hg).1)); have HO3 := Lib.hid ho3; clear ho3 hg3)
            · have hbig : 4096 < n3 := by omega
              go_ret2
              refine ⟨?_, HB3.out⟩
              rw [Hjl.out (k + 1) (by rw [HFX.out, ← hn3.out]; exact hbig)]
              rfl
            · have hsm : n3 ≤ 4096 := by omega
              go_roundw
              case rel => exact ⟨k + 1, by omega, by go_num, HB3.out, by rw [HFX.out]; exact HO3.out, by rw [HFX.out, ← hn3.out]; exact hsm⟩
              case measure => simp [intOf]; omega
          · have HFX := Lib.hid (HX.out (by omega))
            go_wp2_with (first | (at_builtin; refine appB1 rfl _ _ rfl w.heap.size u4 _ 32 rfl HO.out rfl (by omega) hz ?_; intro v2 w2 ho2 hg2 hl2; have HO2 := Lib.hid ho2; have hz2 := hg2.size; have hlen2 : (joinL ((L.map bl).take k) ++ [(32 : UInt8)]).length ≤ 1000000 := (by simp only [List.length_append, List.length_cons, List.length_nil]; omega); have HB2 := Lib.hid (HB.out.grown hg2 hz (fun g hg => (World.ownsRow.lt HO.out g hg).1)); clear ho2 hg2 hl2) | (go_at_call 26; refine (appendWord_any w.heap.size v2 _ s w2 HO2.out (by omega) hlen2 (by omega)).mono ?_; rintro e w3 ⟨v3, rfl, ho3, hg3⟩; obtain ⟨a3, n3, c3, rfl, hn3⟩ := OwnB_shape ho3; have HB3 := Lib.hid (HB2.out.grown hg3 (by omega) (fun g hg => (World.ownsRow.lt HO2.out g hg).1)); have HO3 := Lib.hid ho3; clear ho3 hg3))
            · have hbig : 4096 < n3 := by omega
              go_ret2
              refine ⟨?_, HB3.out⟩
              rw [Hjl.out (k + 1) (by rw [HFX.out, ← hn3.out]; exact hbig)]
              rfl
            · have hsm : n3 ≤ 4096 := by omega
              go_roundw
              case rel => exact ⟨k + 1, by omega, by go_num, HB3.out, by rw [HFX.out]; exact HO3.out, by rw [HFX.out, ← hn3.out]; exact hsm⟩
              case measure => simp [intOf]; omega
        · obtain rfl : k = n := by omega
          have Hjo' := Lib.hid (Hjo.out (by rw [List.length_map, ← Hn.out]; exact hle))
          have hcs := OwnB_string HO.out
          clear hb
          go_wp2
          go_ret2
          refine ⟨?_, HB.out⟩
          rw [Hjo'.out, List.length_map, ← Hn.out]
          rfl

theorem bl_append (x y : ByteArray) : bl (x ++ y) = bl x ++ bl y := by simp [bl]

set_option maxHeartbeats 1000000 in
set_option maxRecDepth 100000 in
theorem refJoin_any (v : Value) (L : List ByteArray) (w : World) (hv : StrsAt w v L) (hn : L.length ≤ 270) (hw : ∀ x ∈ L, x.size ≤ 200) :
    Calls Tryd.prog 17 #[v] w (RetSE w (joinR (L.map bl))) := by
  by_cases hmany : 256 < L.length
  · rw [joinR_many _ (by simpa using hmany)]
    rcases hv with ⟨rfl, _⟩ | ⟨b, o, c, rfl, _⟩
    · simp at hmany
    · obtain ⟨n, hnn⟩ : ∃ n, n = L.length := ⟨_, rfl⟩
      rw [← hnn] at hmany hn ⊢
      clear hnn hw
      go_enter Tryd.func17, Tryd.ntmps17
      go_wp2
      go_ret2
      exact ⟨rfl, Below.refl _ _⟩
  · rcases hv with ⟨rfl, a, c, rfl⟩ | ⟨b, o, c, rfl, hcell⟩
    · go_enter Tryd.func17, Tryd.ntmps17
      go_wp2
      go_loopw [4, 5, 6, 12] (fun vl _ _ i wr => i = .int .i64 0 ∧ wr = w ∧ vl = .string ⟨#[]⟩) (fun _ _ _ i _ => 0)
      case atStart => exact ⟨rfl, rfl, rfl⟩
      case round =>
        obtain ⟨rfl, rfl, rfl⟩ := hrel
        go_wp2
        go_ret2
        exact ⟨rfl, Below.refl _ _⟩
    · go_enter Tryd.func17, Tryd.ntmps17
      have hL : L.length ≤ 256 := by omega
      have HC := Lib.hid hcell
      have Hjl := Lib.hid (joinR_long (L.map bl))
      have Hjo := Lib.hid (joinR_ok (L.map bl) (by simpa using hL))
      obtain ⟨n, hnn⟩ : ∃ n, n = L.length := ⟨_, rfl⟩
      have Hn := Lib.hid hnn
      rw [← hnn] at hL hmany hn ⊢
      clear hcell hnn
      go_wp2
      go_loopw [4, 5, 6, 12] (fun vl _ _ i wr => ∃ k : Nat, ∃ x : ByteArray, k ≤ n ∧ i = .int .i64 k ∧ Below w.heap.size w wr ∧ vl = .string x ∧ bl x = joinL ((L.map bl).take k) ∧ x.size ≤ 4096) (fun _ _ _ i _ => n - (intOf i).toNat)
      case atStart => exact ⟨0, ⟨#[]⟩, Nat.zero_le _, rfl, Below.refl _ _, rfl, by simp [joinL, bl], by decide⟩
      case round =>
        obtain ⟨k, x, hk, rfl, hb, rfl, hx, hle⟩ := hrel
        have HB := Lib.hid hb
        have HX0 := Lib.hid hx
        have hz := hb.size
        clear hx
        by_cases hlt : k < n
        · have hkL : k < L.length := by rw [← Hn.out]; exact hlt
          have hc0 := HC.out k hkL
          have hcb : wr.cell? ⟨b, o + k, none⟩ = some (.string L[k]) := (hb.cell (World.block_lt_of_cell? w _ hc0)).trans hc0
          have hsz : L[k].size ≤ 200 := hw _ (List.getElem_mem hkL)
          have hwl := wtn_le L hw k hkL
          have HF := Lib.hid (join_first L k hkL)
          have HX := Lib.hid (join_next L k hkL)
          clear hc0 hb hw
          generalize hs : L[k] = s at *
          clear hs
          by_cases hk0 : k ≤ 0
          · have HFX := Lib.hid (HF.out hk0)
            have HT : Hid (joinL (List.take (k + 1) (List.map bl L)) = bl (x ++ bs (wtn (bl s)))) := Lib.hid (by rw [HFX.out, bl_append, HX0.out, bl_bs])
            have hts := bs_size (wtn (bl s))
            obtain ⟨t, htt⟩ : ∃ t, bs (wtn (bl s)) = t := ⟨_, rfl⟩
            rw [htt] at hts HT
            have Ht := Lib.hid htt
            have hts' : t.size ≤ 402 := by omega
            clear hts htt
            go_wp2_with (go_at_call 27; refine (written_any s wr (by omega)).mono ?_; rintro e w3 ⟨he, hb3⟩; rw [Ht.out] at he; subst he; have HB3 := Lib.hid (HB.out.trans (hb3.mono hz)); clear hb3)
            · have hbig : 4096 < (x ++ t).size := by simp only [ByteArray.size_append]; omega
              go_ret2
              refine ⟨?_, HB3.out⟩
              rw [Hjl.out (k + 1) (by rw [HT.out, bl_len]; exact hbig)]
              rfl
            · have hsm : (x ++ t).size ≤ 4096 := by simp only [ByteArray.size_append]; omega
              go_roundw
              case rel => exact ⟨k + 1, _, by omega, by go_num, HB3.out, rfl, HT.out.symm, hsm⟩
              case measure => simp [intOf]; omega
          · have HFX := Lib.hid (HX.out (by omega))
            have HT : Hid (joinL (List.take (k + 1) (List.map bl L)) = bl (x ++ ⟨#[32]⟩ ++ bs (wtn (bl s)))) := Lib.hid (by rw [HFX.out, bl_append, bl_append, HX0.out, bl_bs]; rfl)
            have hts := bs_size (wtn (bl s))
            obtain ⟨t, htt⟩ : ∃ t, bs (wtn (bl s)) = t := ⟨_, rfl⟩
            rw [htt] at hts HT
            have Ht := Lib.hid htt
            have hts' : t.size ≤ 402 := by omega
            clear hts htt
            have h32 : (⟨#[32]⟩ : ByteArray).size = 1 := rfl
            have H32 := Lib.hid h32
            clear h32
            go_wp2_with (go_at_call 27; refine (written_any s wr (by omega)).mono ?_; rintro e w3 ⟨he, hb3⟩; rw [Ht.out] at he; subst he; have HB3 := Lib.hid (HB.out.trans (hb3.mono hz)); clear hb3)
            · have hbig : 4096 < (x ++ ⟨#[32]⟩ ++ t).size := by simp only [ByteArray.size_append, H32.out]; omega
              go_ret2
              refine ⟨?_, HB3.out⟩
              rw [Hjl.out (k + 1) (by rw [HT.out, bl_len]; exact hbig)]
              rfl
            · have hsm : (x ++ ⟨#[32]⟩ ++ t).size ≤ 4096 := by simp only [ByteArray.size_append, H32.out]; omega
              go_roundw
              case rel => exact ⟨k + 1, _, by omega, by go_num, HB3.out, rfl, HT.out.symm, hsm⟩
              case measure => simp [intOf]; omega
        · obtain rfl : k = n := by omega
          have Hjo' := Lib.hid (Hjo.out (by rw [List.length_map, ← Hn.out, ← HX0.out, bl_len]; exact hle))
          clear hb
          go_wp2
          go_ret2
          refine ⟨?_, HB.out⟩
          rw [Hjo'.out, List.length_map, ← Hn.out, ← HX0.out, bs_bl]
          rfl
end Go.Proofs.YtfolocahchohdaaDoor
