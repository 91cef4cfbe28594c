/- read and Split, of the program. -/
import Derived.Test.YtfolocahchohdaaDoorWNext
namespace Go.Proofs.YtfolocahchohdaaDoor
open Go.RowKit WMath

theorem stepR_len (σ : RS) (c : UInt8) : (stepR σ c).2.1.length ≤ σ.2.1.length + 1 ∧ (stepR σ c).2.2.length ≤ σ.2.2.length + 1 := by
  obtain ⟨st, w, ws⟩ := σ
  unfold stepR plainStep
  match st with
  | 0 => simp only; split <;> (try split) <;> simp
  | 1 => simp only; split <;> (try split) <;> simp
  | 2 => simp only; repeat' split
         all_goals simp
  | 3 => simp only; cases unesc c <;> simp
  | 4 => simp only; split <;> simp
  | n + 5 => simp
theorem runR_len (l : List UInt8) (σ : RS) : (runR l σ).2.1.length ≤ σ.2.1.length + l.length ∧ (runR l σ).2.2.length ≤ σ.2.2.length + l.length := by
  induction l generalizing σ with
  | nil => simp [runR]
  | cons c l ih =>
    rw [runR_cons]
    have h1 := ih (stepR σ c)
    have h2 := stepR_len σ c
    simp only [List.length_cons]
    omega
theorem stepR_le (σ : RS) (c : UInt8) : (stepR σ c).1 ≤ 5 := by
  obtain ⟨st, w, ws⟩ := σ
  unfold stepR plainStep
  match st with
  | 0 => simp only; split <;> (try split) <;> simp
  | 1 => simp only; split <;> (try split) <;> simp
  | 2 => simp only; repeat' split
         all_goals simp
  | 3 => simp only; cases unesc c <;> simp
  | 4 => simp only; split <;> simp
  | n + 5 => simp
theorem others_below {B r : Nat} {w wr w3 : World} (hb : Below w.heap.size w wr) (ho : Others B r wr w3) (h1 : w.heap.size ≤ B) (h2 : w.heap.size ≤ r) : Below w.heap.size w w3 :=
  hb.trans ⟨ho.os, ho.tape, ho.output, ho.size, fun k hk => ho.block k (by omega) (by omega)⟩
theorem Rd.set {w : World} {B r st : Nat} {v1 v2 : Value} {wd : List UInt8} {ws : List (List UInt8)} (h : Rd w B r st v1 v2 wd ws) (k : Nat) : Rd (w.setCell ⟨r, 0, none⟩ (.int .i64 (k : Int))) B r k v1 v2 wd ws :=
  ⟨set0 h.blk k, ownsRow_setCell h.own1 h.lt _ _, ownsRow_setCell h.own2 h.lt _ _, h.lt, by have := h.hB; simp [World.setCell]; omega⟩
theorem run_snoc (s : ByteArray) (k : Nat) (h : k < s.size) : runR ((bl s).take (k + 1)) (0, [], []) = stepR (runR ((bl s).take k) (0, [], [])) s[k] := by
  rw [bl_take s k h, runR_append]
  rfl
theorem read_bad (s : ByteArray) (k : Nat) (hs : s.size ≠ 0) (h : 5 ≤ (runR ((bl s).take k) (0, [], [])).1) : readL (bl s) = none := by
  unfold readL
  rw [if_neg (fun e => hs ((bl_empty s).1 e))]
  have h1 : bl s = (bl s).take k ++ (bl s).drop k := (List.take_append_drop k (bl s)).symm
  rw [h1, runR_append]
  exact endsR_bad _ _ h
theorem read_done (s : ByteArray) (hs : s.size ≠ 0) : readL (bl s) = endsR (runR ((bl s).take s.size) (0, [], [])) := by
  unfold readL
  rw [if_neg (fun e => hs ((bl_empty s).1 e)), bl_take_all s _ (Nat.le_refl _)]

/-- words and whether there are any are handed back -/
def RetSO (w : World) (o : Option (List (List UInt8))) (e : Ending) (w' : World) : Prop := ∃ v, e = .returned (.tuple #[v, .bool o.isSome]) ∧ OwnS w' w.heap.size v (o.getD []) ∧ Below w.heap.size w w'

set_option maxHeartbeats 1000000 in
set_option maxRecDepth 100000 in
theorem read_any (s : ByteArray) (w : World) (hs : s.size ≤ 1000000) :
    Calls Tryd.prog 22 #[.string s] w (RetSO w (readL (bl s))) := by
  by_cases h0 : s.size = 0
  · have hse : s = ⟨#[]⟩ := bl_inj ((bl_empty s).2 h0)
    subst hse
    go_enter Tryd.func22, Tryd.ntmps22
    go_wp2
    go_ret2
    exact ⟨_, rfl, OwnS_nil _ _, Below.refl _ _⟩
  · have hne : s.toList.isEmpty = false := by rw [bl_toList]; cases h : bl s with | nil => exact absurd ((bl_empty s).1 h) h0 | cons a t => rfl
    have Hbad := Lib.hid (fun k => read_bad s k h0)
    have Hdone := Lib.hid (read_done s h0)
    clear h0
    go_enter Tryd.func22, Tryd.ntmps22
    go_wp2
    obtain ⟨w1, hw1⟩ : ∃ x, x = w.alloc (Obj.cells #[Value.int IntKind.i64 0, Value.slice none 0 0, Value.slice none 0 0] 57) := ⟨_, rfl⟩
    rw [← hw1]
    have hz1 : w1.heap.size = w.heap.size + 1 := by rw [hw1]; simp
    have hblk : w1.heap[w.heap.size]? = some (.cells #[.int .i64 ((0 : Nat) : Int), .slice none 0 0, .slice none 0 0] 57 (0, 0)) := by rw [hw1]; exact heap_alloc_new w _
    have hb1 : Below w.heap.size w w1 := by rw [hw1]; exact (Below.refl _ _).alloc (Nat.le_refl _) _
    clear hw1
    obtain ⟨W, c, hcv, hBW, hcell, hzW⟩ := bytes_of_string (P := Tryd.prog) w1 9 47 5 s Tryd.underlying9 Tryd.underlying47 Tryd.underlying5
    rw [hcv]
    clear hcv
    have HRd : Hid (Rd W (w.heap.size + 2) w.heap.size 0 (.slice none 0 0) (.slice none 0 0) [] []) := Lib.hid ⟨(hBW.block _ (by omega)).trans hblk, OwnB_nil _ _, OwnS_nil _ _, by omega, by omega⟩
    have HbW := Lib.hid (hb1.trans (hBW.mono (by omega)))
    have Hcell := Lib.hid hcell
    obtain ⟨N, hN⟩ : ∃ N, N = w1.heap.size := ⟨_, rfl⟩
    have HN : Hid (N = w.heap.size + 1) := Lib.hid (by rw [hN, hz1])
    rw [← hN] at Hcell ⊢
    clear hBW hcell hzW hb1 hblk hz1 hN
    go_wp2
    go_loopw [6, 13] (fun _ i wr => ∃ k : Nat, ∃ st : Nat, ∃ v1 v2 : Value, ∃ wd : List UInt8, ∃ ws : List (List UInt8), k ≤ s.size ∧ i = .int .i64 k ∧ st < 5 ∧ runR ((bl s).take k) (0, [], []) = (st, wd, ws) ∧ Rd wr (w.heap.size + 2) w.heap.size st v1 v2 wd ws ∧ Below w.heap.size w wr ∧ wr.heap[N]? = W.heap[N]?) (fun _ i _ => s.size - (intOf i).toNat)
    case atStart => exact ⟨0, 0, _, _, [], [], Nat.zero_le _, rfl, by omega, by simp [runR], HRd.out, HbW.out, rfl⟩
    case round =>
      obtain ⟨k, st, v1, v2, wd, ws, hk, rfl, hst, hrun, hrd, hbr, hNr⟩ := hrel
      have HR := Lib.hid hrd
      have HB := Lib.hid hbr
      have Hrun := Lib.hid hrun
      have HNr := Lib.hid hNr
      have hlen := runR_len ((bl s).take k) (0, [], [])
      rw [hrun] at hlen
      simp only [List.length_nil, List.length_take, bl_len] at hlen
      have hl1 : wd.length ≤ 1048576 := by omega
      have hl2 : ws.length ≤ 1048576 := by omega
      have hc0 := hrd.c0
      have hf0 := hrd.f 0
      clear hlen hrun hrd hbr hNr
      by_cases hlt : k < s.size
      · have hc := (World.cell?_of_block (w := W) (a := ⟨N, k, none⟩) HNr.out).trans (Hcell.out k hlt)
        have Hsn := Lib.hid (run_snoc s k hlt)
        have Hst : Hid (runR ((bl s).take (k + 1)) (0, [], []) = stepR (st, wd, ws) s[k]) := Lib.hid (by rw [Hsn.out, Hrun.out])
        generalize hσ : stepR (st, wd, ws) s[k] = σ at *
        obtain ⟨st', wd', ws'⟩ := σ
        have Hσ := Lib.hid hσ
        have hle : st' ≤ 5 := by have := stepR_le (st, wd, ws) s[k]; rw [hσ] at this; exact this
        clear hσ
        go_wp2_with (go_at_call 31; refine (next_any (w.heap.size + 2) w.heap.size st v1 v2 wd ws s[k] wr HR.out hst hl1 hl2).mono ?_; rw [Hσ.out]; rintro e w3 ⟨rfl, v1', v2', hrd', hoth⟩; have hc0' := hrd'.c0; have hf0' := hrd'.f 0; have HR3 := Lib.hid hrd'; have HO3 := Lib.hid hoth; clear hrd' hoth)
        · have h5 := eq_of_beq (show ((st' : Int) == 5) = true by assumption)
          go_ret2
          have hn := Hbad.out (k + 1) (by rw [Hst.out]; simp only; omega)
          exact ⟨_, by rw [hn]; rfl, by rw [hn]; exact OwnS_nil _ _, others_below HB.out (HO3.out.trans (Others.setCell 0 _)) (by omega) (Nat.le_refl _)⟩
        · have h5 : st' < 5 := by have := ne_of_beq_false (show ((st' : Int) == 5) = false by assumption); omega
          have HO4 := Lib.hid (HO3.out.trans (Others.setCell 0 (.int .i64 (st' : Int))))
          go_roundw
          case rel => exact ⟨k + 1, st', v1', v2', wd', ws', by omega, by go_num, h5, Hst.out, HR3.out.set st', others_below HB.out HO4.out (by omega) (Nat.le_refl _), (HO4.out.block N (by have := HN.out; omega) (by have := HN.out; omega)).trans HNr.out⟩
          case measure => simp [intOf]; omega
      · obtain rfl : k = s.size := by omega
        have Hfin : Hid (readL (bl s) = endsR (st, wd, ws)) := Lib.hid (by rw [Hdone.out, Hrun.out])
        by_cases he : st = 1 ∨ st = 4
        · have Hres : Hid (readL (bl s) = some (ws ++ [wd])) := Lib.hid (by rw [Hfin.out]; unfold endsR; rw [if_pos he])
          by_cases he1 : st = 1
          · have t1 : ((st : Int) != 1) = false := by rw [he1]; rfl
            clear he he1
            go_wp2_with (go_at_call 32; refine (rend_any (w.heap.size + 2) w.heap.size st v1 v2 wd ws wr HR.out hl2).mono ?_; rintro e w3 ⟨rfl, v1', v2', hrd', hoth⟩; have hc2 := hrd'.c2)
            go_ret2
            exact ⟨_, by rw [Hres.out]; rfl, by rw [Hres.out]; exact ownsRow_mono hrd'.own2 (by omega), others_below HB.out hoth (by omega) (Nat.le_refl _)⟩
          · have t1 : ((st : Int) != 1) = true := by rw [bne_iff_ne]; omega
            have t2 : ((st : Int) != 4) = false := by have : st = 4 := by omega
                                                      rw [this]; rfl
            clear he he1
            go_wp2_with (go_at_call 32; refine (rend_any (w.heap.size + 2) w.heap.size st v1 v2 wd ws wr HR.out hl2).mono ?_; rintro e w3 ⟨rfl, v1', v2', hrd', hoth⟩; have hc2 := hrd'.c2)
            go_ret2
            exact ⟨_, by rw [Hres.out]; rfl, by rw [Hres.out]; exact ownsRow_mono hrd'.own2 (by omega), others_below HB.out hoth (by omega) (Nat.le_refl _)⟩
        · have Hres : Hid (readL (bl s) = none) := Lib.hid (by rw [Hfin.out]; unfold endsR; rw [if_neg he])
          have t1 : ((st : Int) != 1) = true := by rw [bne_iff_ne]; omega
          have t2 : ((st : Int) != 4) = true := by rw [bne_iff_ne]; omega
          clear he
          go_wp2
          go_ret2
          exact ⟨_, by rw [Hres.out]; rfl, by rw [Hres.out]; exact OwnS_nil _ _, HB.out⟩

/-- words and an error's number are handed back -/
def RetSN (w : World) (r : List (List UInt8) × Nat) (e : Ending) (w' : World) : Prop := ∃ v, e = .returned (.tuple #[v, .int .i64 (r.2 : Int)]) ∧ OwnS w' w.heap.size v r.1 ∧ Below w.heap.size w w'

theorem splitL_long (l : List UInt8) (h : 4096 < l.length) : splitL l = ([], 3) := by unfold splitL; rw [if_pos h]
theorem splitL_none (l : List UInt8) (h : l.length ≤ 4096) (h2 : readL l = none) : splitL l = ([], 4) := by unfold splitL; rw [if_neg (by omega), h2]
theorem splitL_many (l : List UInt8) (ws : List (List UInt8)) (h : l.length ≤ 4096) (h2 : readL l = some ws) (h3 : 256 < ws.length) : splitL l = ([], 3) := by unfold splitL; rw [if_neg (by omega), h2]; simp only; rw [if_pos h3]
theorem splitL_ok (l : List UInt8) (ws : List (List UInt8)) (h : l.length ≤ 4096) (h2 : readL l = some ws) (h3 : ws.length ≤ 256) : splitL l = (ws, 0) := by unfold splitL; rw [if_neg (by omega), h2]; simp only; rw [if_neg (by omega)]

set_option maxHeartbeats 1000000 in
set_option maxRecDepth 100000 in
theorem split_any (s : ByteArray) (w : World) (hs : s.size ≤ maxLen) :
    Calls Tryd.prog 10 #[.string s] w (RetSN w (splitL (bl s))) := by
  unfold maxLen at hs
  by_cases hlong : 4096 < s.size
  · rw [splitL_long _ (by rw [bl_len]; exact hlong)]
    go_enter Tryd.func10, Tryd.ntmps10
    go_wp2
    go_ret2
    exact ⟨_, rfl, OwnS_nil _ _, Below.refl _ _⟩
  · have hb : (bl s).length ≤ 4096 := by rw [bl_len]; omega
    cases hr : readL (bl s) with
    | none =>
      rw [splitL_none _ hb hr]
      have Hr := Lib.hid hr
      clear hr hb
      go_enter Tryd.func10, Tryd.ntmps10
      go_wp2_with (go_at_call 22; refine (read_any s w (by omega)).mono ?_; rw [Hr.out]; rintro e w1 ⟨v, rfl, ho, hb⟩)
      go_ret2
      exact ⟨_, rfl, OwnS_nil _ _, hb⟩
    | some ws =>
      by_cases hmany : 256 < ws.length
      · rw [splitL_many _ _ hb hr hmany]
        have Hr := Lib.hid hr
        clear hr hb
        go_enter Tryd.func10, Tryd.ntmps10
        go_wp2_with (go_at_call 22; refine (read_any s w (by omega)).mono ?_; rw [Hr.out]; rintro e w1 ⟨v, rfl, ho, hb⟩; obtain ⟨a3, n3, c3, rfl, hn3⟩ := OwnS_shape ho; have hn : 256 < n3 := (by rw [hn3.out]; exact hmany))
        go_ret2
        exact ⟨_, rfl, OwnS_nil _ _, hb⟩
      · rw [splitL_ok _ _ hb hr (by omega)]
        have Hr := Lib.hid hr
        clear hr hb
        go_enter Tryd.func10, Tryd.ntmps10
        go_wp2_with (go_at_call 22; refine (read_any s w (by omega)).mono ?_; rw [Hr.out]; rintro e w1 ⟨v, rfl, ho, hb⟩; obtain ⟨a3, n3, c3, rfl, hn3⟩ := OwnS_shape ho; have hn : n3 ≤ 256 := (by have h3 := hn3.out; simp only [Option.getD_some] at h3; omega))
        go_ret2
        exact ⟨_, rfl, ho, hb⟩
end Go.Proofs.YtfolocahchohdaaDoor
