/- Lines, of the reference; the tests Same and kept. -/
import Derived.Test.YtfolocahchohdaaDoorWLines
namespace Go.Proofs.YtfolocahchohdaaDoor
open Go.RowKit WMath

theorem bl_extract (s : ByteArray) (a b : Nat) : bl (s.extract a b) = ((bl s).drop a).take (b - a) := Lib.extract_data s a b

/-- what the loop of the reference's Lines knows: out, and the line from 'f' to 'k' that is being read -/
def LinesRel (s : ByteArray) (L : List (List UInt8)) (f k : Nat) : Prop := linesL (bl s) = L ++ linesAux ((bl s).drop k) (bl (s.extract f k))
theorem LinesRel.start (s : ByteArray) : LinesRel s [] 0 0 := by
  unfold LinesRel
  rw [bl_extract]
  simp [linesL]
theorem LinesRel.hit {s : ByteArray} {L : List (List UInt8)} {f k : Nat} (h : LinesRel s L f k) (hk : k < s.size) (hc : s[k] = 10) : LinesRel s (L ++ [bl (s.extract f k)]) (k + 1) (k + 1) := by
  unfold LinesRel at h ⊢
  rw [h, bl_drop s k hk, hc]
  simp only [linesAux, if_true]
  rw [bl_extract s (k + 1) (k + 1)]
  simp
theorem LinesRel.miss {s : ByteArray} {L : List (List UInt8)} {f k : Nat} (h : LinesRel s L f k) (hk : k < s.size) (hf : f ≤ k) (hc : s[k] ≠ 10) : LinesRel s L f (k + 1) := by
  unfold LinesRel at h ⊢
  rw [h, bl_drop s k hk]
  simp only [linesAux]
  rw [if_neg hc, bl_extract, bl_extract]
  have h1 : k + 1 - f = (k - f) + 1 := by omega
  have h2 : ((bl s).drop f).take (k - f + 1) = ((bl s).drop f).take (k - f) ++ [s[k]] := by
    have hl : k - f < ((bl s).drop f).length := by rw [List.length_drop, bl_len]; omega
    rw [List.take_succ_eq_append_getElem hl]
    congr 2
    have h3 : ((bl s).drop f)[k - f]? = some s[k] := by
      rw [List.getElem?_drop, show f + (k - f) = k by omega]
      exact bl_get s k hk
    rw [List.getElem?_eq_getElem hl] at h3
    simpa using h3
  rw [h1, h2]
theorem LinesRel.stop {s : ByteArray} {L : List (List UInt8)} {f : Nat} (h : LinesRel s L f s.size) (hf : f < s.size) : linesL (bl s) = L ++ [bl (s.extract f s.size)] := by
  unfold LinesRel at h
  rw [h, List.drop_of_length_le (by rw [bl_len]; omega)]
  have : bl (s.extract f s.size) ≠ [] := by
    intro e
    have hl := congrArg List.length e
    rw [bl_extract, List.length_take, List.length_drop, bl_len] at hl
    simp at hl
    omega
  simp [linesAux, this]
theorem LinesRel.stop0 {s : ByteArray} {L : List (List UInt8)} {f : Nat} (h : LinesRel s L f s.size) (hf : s.size ≤ f) : linesL (bl s) = L := by
  unfold LinesRel at h
  rw [h, List.drop_of_length_le (by rw [bl_len]; omega), bl_extract]
  have : s.size - f = 0 := by omega
  rw [this]
  simp [linesAux]

set_option maxHeartbeats 1000000 in
set_option maxRecDepth 100000 in
theorem refLines_any (s : ByteArray) (w : World) (hs : s.size ≤ 1048576) :
    Calls Tryd.prog 14 #[.string s] w (RetS w (linesL (bl s))) := by
  have H0 := Lib.hid (LinesRel.start s)
  go_enter Tryd.func14, Tryd.ntmps14
  go_wp2
  go_loopw [3, 4, 5] (fun v f i wr => ∃ fn k : Nat, ∃ L : List (List UInt8), f = .int .i64 fn ∧ i = .int .i64 k ∧ fn ≤ k ∧ k ≤ s.size ∧ L.length ≤ fn ∧ LinesRel s L fn k ∧ OwnS wr w.heap.size v L ∧ Below w.heap.size w wr) (fun _ _ i _ => s.size - (intOf i).toNat)
  case atStart => exact ⟨0, 0, [], rfl, rfl, Nat.le_refl _, Nat.zero_le _, Nat.le_refl _, H0.out, OwnS_nil _ _, Below.refl _ _⟩
  case round =>
    obtain ⟨f, k, L, rfl, rfl, hfk, hk, hLf, hrel, hown, hb⟩ := hrel
    have HR := Lib.hid hrel
    have HO := Lib.hid hown
    have HB := Lib.hid hb
    have hz := hb.size
    clear hrel hown hb
    by_cases hlt : k < s.size
    · by_cases hc : s[k] = 10
      · have t1 : ((s[k].toNat : Int) == 10) = true := u8_t (c := 10) hc
        have HN := Lib.hid (HR.out.hit hlt hc)
        clear hc
        go_wp2_with (at_builtin; refine appS1 rfl _ _ rfl w.heap.size u3 L (s.extract f k) rfl HO.out rfl (by omega) (by omega) ?_; intro v3 w3 ho3 hg3 hl3)
        have HO3 := Lib.hid ho3
        have HB3 : Hid (Below w.heap.size w w3) := Lib.hid (HB.out.grown hg3 (by omega) (fun g hg => (World.ownsRow.lt HO.out g hg).1))
        clear ho3 hg3 hl3
        go_roundw
        case rel => exact ⟨k + 1, k + 1, L ++ [bl (s.extract f k)], by go_num, by go_num, by omega, by omega, by simp; omega, HN.out, HO3.out, HB3.out⟩
        case measure => simp [intOf]; omega
      · have t1 : ((s[k].toNat : Int) == 10) = false := u8_f (c := 10) hc
        have HN := Lib.hid (HR.out.miss hlt hfk hc)
        clear hc
        go_wp2
        go_roundw
        case rel => exact ⟨f, k + 1, L, rfl, by go_num, by omega, by omega, hLf, HN.out, HO.out, HB.out⟩
        case measure => simp [intOf]; omega
    · obtain rfl : k = s.size := by omega
      by_cases hf : f < s.size
      · have HN := Lib.hid (HR.out.stop hf)
        go_wp2_with (at_builtin; refine appS1 rfl _ _ rfl w.heap.size u3 L (s.extract f s.size) rfl HO.out rfl (by omega) (by omega) ?_; intro v3 w3 ho3 hg3 hl3)
        go_ret
        refine ⟨_, rfl, by rw [HN.out]; exact ho3, HB.out.grown hg3 (by omega) (fun g hg => (World.ownsRow.lt HO.out g hg).1)⟩
      · have HN := Lib.hid (HR.out.stop0 (by omega))
        go_wp2
        go_ret
        refine ⟨_, rfl, by rw [HN.out]; exact HO.out, HB.out⟩

/-- the strings of a list are few and short -/
def keptB (L : List ByteArray) : Bool := decide (L.length ≤ 270) && L.all (fun x => decide (x.size ≤ 200))
theorem keptB_many (L : List ByteArray) (h : 270 < L.length) : keptB L = false := by unfold keptB; rw [decide_eq_false (by omega)]; rfl
theorem keptB_long (L : List ByteArray) (k : Nat) (h : k < L.length) (h2 : 200 < L[k].size) : keptB L = false := by
  unfold keptB
  rw [List.all_eq_false.2 ⟨_, List.getElem_mem h, by simp; omega⟩]
  simp
theorem keptB_ok (L : List ByteArray) (h : L.length ≤ 270) (h2 : (L.take L.length).all (fun x => decide (x.size ≤ 200)) = true) : keptB L = true := by
  rw [List.take_length] at h2
  unfold keptB
  rw [h2, decide_eq_true h]
  rfl
theorem kept_snoc (L : List ByteArray) (k : Nat) (h : k < L.length) (h1 : (L.take k).all (fun x => decide (x.size ≤ 200)) = true) (h2 : L[k].size ≤ 200) : (L.take (k + 1)).all (fun x => decide (x.size ≤ 200)) = true := by
  rw [List.take_succ_eq_append_getElem h, List.all_append, h1]
  simp [h2]
theorem keptB_spec {L : List ByteArray} (h : keptB L = true) : L.length ≤ 270 ∧ ∀ x ∈ L, x.size ≤ 200 := by
  unfold keptB at h
  simpa using h

set_option maxHeartbeats 1000000 in
set_option maxRecDepth 100000 in
theorem kept_any (v : Value) (L : List ByteArray) (w : World) (hv : StrsAt w v L) (hm : L.length ≤ maxLen) :
    Calls Tryd.prog 15 #[v] w fun e w' => e = .returned (.bool (keptB L)) ∧ w = w' := by
  unfold maxLen at hm
  by_cases hmany : 270 < L.length
  · rw [keptB_many L hmany]
    rcases hv with ⟨rfl, _⟩ | ⟨b, o, c, rfl, _⟩
    · simp at hmany
    · obtain ⟨n, hnn⟩ : ∃ n, n = L.length := ⟨_, rfl⟩
      rw [← hnn] at hmany hm ⊢
      clear hnn
      go_enter Tryd.func15, Tryd.ntmps15
      go_wp2
      go_ret
      exact ⟨rfl, rfl⟩
  · rcases hv with ⟨rfl, a, c, rfl⟩ | ⟨b, o, c, rfl, hcell⟩
    · go_enter Tryd.func15, Tryd.ntmps15
      go_wp2
      go_loop [4, 10] (fun _ i => i = .int .i64 0) (fun _ i => 0)
      case atStart => exact rfl
      case round =>
        subst hrel
        go_wp2
        go_ret
        exact ⟨rfl, rfl⟩
    · have HC := Lib.hid hcell
      have Hlong := Lib.hid (keptB_long L)
      have Hok := Lib.hid (keptB_ok L (by omega))
      have Hsn := Lib.hid (kept_snoc L)
      obtain ⟨n, hnn⟩ : ∃ n, n = L.length := ⟨_, rfl⟩
      have Hn := Lib.hid hnn
      rw [← hnn] at hmany hm ⊢
      clear hcell hnn
      go_enter Tryd.func15, Tryd.ntmps15
      go_wp2
      go_loop [4, 10] (fun _ i => ∃ k : Nat, k ≤ n ∧ i = .int .i64 k ∧ (L.take k).all (fun x => decide (x.size ≤ 200)) = true) (fun _ i => n - (intOf i).toNat)
      case atStart => exact ⟨0, Nat.zero_le _, rfl, rfl⟩
      case round =>
        obtain ⟨k, hk, rfl, hall⟩ := hrel
        have Hall := Lib.hid hall
        clear hall
        by_cases hlt : k < n
        · have hkL : k < L.length := by rw [← Hn.out]; exact hlt
          have hc0 := HC.out k hkL
          have HL := Lib.hid (Hlong.out k hkL)
          have HS := Lib.hid (Hsn.out k hkL Hall.out)
          generalize L[k] = s at *
          go_wp2
          · have hbig : 200 < s.size := by omega
            go_ret
            exact ⟨by rw [HL.out hbig]; rfl, rfl⟩
          · have hsm : s.size ≤ 200 := by omega
            go_round
            case rel => exact ⟨k + 1, by omega, by go_num, HS.out hsm⟩
            case measure => simp [intOf]; omega
        · obtain rfl : k = n := by omega
          go_wp2
          go_ret
          exact ⟨by rw [Hok.out (by rw [← Hn.out]; exact Hall.out)]; rfl, rfl⟩
end Go.Proofs.YtfolocahchohdaaDoor
