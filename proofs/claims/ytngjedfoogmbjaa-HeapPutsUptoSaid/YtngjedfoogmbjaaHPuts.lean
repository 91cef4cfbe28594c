/- HeapPuts, walked. -/
import Derived.Test.YtngjedfoogmbjaaHLab
import Derived.Deep.DeepCutAuto
namespace Go.Proofs.Ytngjedfoogmbjaa
open Go.RowKit

theorem OAt.firsts {w : World} {a : Option Addr} {n c k : Nat} {O : List Ob} (h : OAt w (.slice a n c) O) (hk : k ≤ n) : OAt w (.slice a k c) (O.take k) := by
  obtain ⟨L, h, rfl⟩ := h
  have hn : n = L.length := by
    obtain ⟨a', n', c', hv, hn⟩ := h.shape
    obtain ⟨_, e, _⟩ := Value.slice.inj hv
    rw [e]; exact hn.out
  refine ⟨L.take k, ⟨?_, fun x hx => h.2 x (List.mem_of_mem_take hx)⟩, by unfold obs; rw [List.map_take]⟩
  rw [List.length_take, ← hn, Nat.min_eq_left hk]
  exact h.take_ hn hk
theorem short_take {O : List Ob} (h : ShortO O) (k : Nat) : ShortO (O.take k) := ⟨by rw [List.length_take]; have := h.1; omega, fun x hx => h.2 x (List.mem_of_mem_take hx)⟩
theorem totalO_take (O : List Ob) (k : Nat) : totalO (O.take k) ≤ totalO O := by
  induction O generalizing k with
  | nil => simp [totalO]
  | cons y L ih =>
    cases k with
    | zero => simp [totalO]
    | succ k => simp only [List.take_succ_cons, totalO]; have := ih k; omega
theorem short_mem' {O : List Ob} {L : List Lob} (h : ShortO O) (hob : obs L = O) {k : Nat} {x : Lob} (hk : L[k]? = some x) : x.vals.length ≤ 1000000 := by
  have h1 := obs_at hk
  rw [hob] at h1
  exact h.2 _ (List.mem_of_getElem? h1)
theorem rem_nat (k t n : Nat) : ((k : Int) + (t : Int)).tmod (n : Int) = (((k + t) % n : Nat) : Int) := by
  rw [Int.tmod_eq_emod_of_nonneg (by omega), Int.natCast_emod, Int.natCast_add]
theorem two_heaps (w : World) (t : TypeId) : ∃ W, (w.alloc (.cells #[.slice none 0 0] t)).alloc (.cells #[.slice none 0 0] t) = W ∧ Below w.heap.size w W ∧ At1 W w.heap.size (.slice none 0 0) ∧ At1 W (w.heap.size + 1) (.slice none 0 0) ∧ W.heap.size = w.heap.size + 1 + 1 :=
  ⟨_, rfl, Below.new (below1 _ _) _, (At1.new _ _ _).alloc _, by simpa using At1.new (w.alloc (.cells #[.slice none 0 0] t)) (.slice none 0 0) t, by simp⟩
theorem two_last (w : World) (p q r s : Value) (t1 t2 : TypeId) : ∃ W, (w.alloc (.cells #[p, q] t1)).alloc (.cells #[r, s] t2) = W ∧ Below w.heap.size w W ∧ At2 W w.heap.size p q ∧ At2 W (w.heap.size + 1) r s ∧ W.heap.size = w.heap.size + 1 + 1 :=
  ⟨_, rfl, Below.new (below1 _ _) _, (At2.new _ _ _ _).alloc _, by simpa using At2.new (w.alloc (.cells #[p, q] t1)) r s t2, by simp⟩
theorem vs_one {w : World} {b : Nat} {x : V} (h : At2 w b (.bool x.1) (.int .i64 x.2)) : VsAt w (.slice (some ⟨b, 0, none⟩) 1 1) [x] := by
  refine .inr ⟨_, _, rfl, Nat.le_refl _, rfl, fun j u hj => ?_⟩
  rw [addr_add, Nat.zero_add]
  match j with
  | 0 => simp [vc] at hj; subst hj; exact h.c0
  | 1 => simp [vc] at hj; subst hj; exact h.c1
  | j + 2 => simp [vc] at hj
theorem At2.put2 {w : World} {b : Nat} {u0 u1 : Value} (h : At2 w b u0 u1) (v0 v1 : Value) : At2 ((w.setCell ⟨b, 0, none⟩ v0).setCell ⟨b, 1, none⟩ v1) b v0 v1 := by
  have e1 : (w.setCell ⟨b, 0, none⟩ v0).cell? ⟨b, 1, none⟩ = some u1 := by rw [World.cell?_setCell_other (h := by simp)]; exact h.c1
  exact ⟨by rw [World.cell?_setCell_other (h := by simp)]; exact World.cell?_setCell_same' _ _ _ (by rw [h.c0]; rfl), World.cell?_setCell_same' _ _ _ (by rw [e1]; rfl), by simpa using h.f0, by simpa using h.f1, by simpa [World.setCell] using h.lt⟩
theorem keep3 {w wx : World} {p q : Nat} {u u0 u1 : Value} (hp : At1 w p u) (hq : At2 w q u0 u1) (hb : Below w.heap.size w wx) : wx.cell? ⟨p, 0, none⟩ = some u ∧ wx.cell? ⟨q, 0, none⟩ = some u0 ∧ wx.cell? ⟨q, 1, none⟩ = some u1 := ⟨(hp.below hb).c0, (hq.below hb).c0, (hq.below hb).c1⟩
theorem Below.set2 {w wx : World} (hb : Below w.heap.size w wx) {z : Nat} (hz : w.heap.size ≤ z) (a b : Value) : Below w.heap.size w ((wx.setCell ⟨z, 0, none⟩ a).setCell ⟨z, 1, none⟩ b) := (hb.setCell (p := ⟨z, 0, none⟩) hz a).setCell (p := ⟨z, 1, none⟩) hz b
theorem OwnAt.nil (w : World) (B : Nat) : OwnAt w B (.slice none 0 0) [] := ⟨[], ⟨ownO_nil w B, by intro x hx; cases hx⟩, rfl⟩
theorem OwnAt.mono {w : World} {B B' : Nat} {v : Value} {O : List Ob} (h : OwnAt w B v O) (hb : B' ≤ B) : OwnAt w B' v O := by
  obtain ⟨L, h, e⟩ := h
  exact ⟨L, h.mono hb, e⟩

set_option maxHeartbeats 4000000 in
set_option maxRecDepth 100000 in
theorem heapPuts_walk (a : Option Addr) (n0 c : Nat) (O0 : List Ob) (turn : Nat) (w : World)
    (h0 : OAt w (.slice a n0 c) O0) (hO : totalO O0 ≤ 1048576) (ht : turn ≤ 255) :
    Calls Try.prog 5 #[.slice a n0 c, .int .u8 (turn : Int)] w (RetB w true) := by
  have H0 := Lib.hid h0
  have hn0 : Hid (n0 = O0.length) := Lib.hid h0.len
  have hnO : n0 ≤ 1048576 := by rw [hn0.out]; exact Nat.le_trans (totalO_len O0) hO
  have HC0 : Hid (n0 ≤ c) := Lib.hid (by obtain ⟨L, hL, _⟩ := h0; exact SlAt.cap hL.1)
  have HO0 := Lib.hid hO
  clear h0 hO
  go_enter Try.func5, Try.ntmps5
  go_wp2_with fail
  refine (sane_any _).mono ?_
  rintro e w1 ⟨rfl, hb1⟩
  have B1 := Lib.hid hb1
  clear hb1
  go_upto_if 19 with (fail)
  go_cut [0] (fun lv wx => (∃ (n : Nat) (O : List Ob), lv = .slice a n c ∧ n ≤ 20 ∧ Hid (OAt w (.slice a n c) O) ∧ Hid (totalO O ≤ 1048576)) ∧ wx = w1)
  case first =>
    by_cases h20 : 20 < n0
    · have hc : (20 : Int) ≤ (c : Int) := by have := HC0.out; omega
      have hne : (c = 0) = False := by simp only [eq_iff_iff, iff_false]; have := HC0.out; omega
      go_wp2
      go_meet
      case rel => exact ⟨⟨20, O0.take 20, rfl, Nat.le_refl _, H0.out.firsts (by omega), Nat.le_trans (totalO_take O0 20) HO0.out⟩, rfl⟩
    · go_wp2
      go_meet
      case rel => exact ⟨⟨n0, O0, rfl, by omega, H0.out, HO0.out⟩, rfl⟩
  case rest =>
    obtain ⟨⟨n, O, rfl, hn20, H, HT⟩, rfl⟩ := hcut
    clear H0 hn0 hnO HC0 HO0
    have hn : Hid (n = O.length) := Lib.hid H.out.len
    go_wp2_with fail
    refine (big_ok (H.out.below B1.out) (Nat.le_trans HT.out (by decide))).mono ?_
    rintro e w2 ⟨rfl, hb2⟩
    have B2 := Lib.hid (B1.out.then_' hb2)
    clear hb2
    cases hbig : decide (300 < totalO O) with
    | true =>
      go_wp2
      go_ret
      exact ⟨rfl, B2.out⟩
    | false =>
      have HS := Lib.hid (shortO_of (by have := of_decide_eq_false hbig; omega) : ShortO O)
      clear hbig
      obtain ⟨W, hW, hB, hP, hQ, hz⟩ := two_heaps w2 24
      have HW := Lib.hid hW
      have B3 := Lib.hid (B2.out.then_' hB)
      have P3 := Lib.hid hP
      have Q3 := Lib.hid hQ
      have Z3 := Lib.hid hz
      clear hW hB hP hQ hz
      obtain ⟨L, hL, hob⟩ := H.out
      have HL := Lib.hid hL
      have HOB := Lib.hid hob
      clear hL hob
      go_wp2_with fail
      rw [HW.out]
      go_loopw [7, 8, 27] (fun _ _ i wr => ∃ (k : Nat) (ax : Option Addr) (nx cx : Nat), k ≤ n ∧ i = .int .i64 k ∧ Below w.heap.size w wr ∧ At1 wr w2.heap.size (.slice ax nx cx) ∧ At1 wr (w2.heap.size + 1) (.slice none 0 0) ∧ Hid (OwnAt wr (w2.heap.size + 1 + 1) (.slice ax nx cx) (putUp O 0 k)) ∧ w2.heap.size + 1 + 1 ≤ wr.heap.size) (fun _ _ i _ => n - (intOf i).toNat)
      case atStart => exact ⟨0, none, 0, 0, Nat.zero_le _, rfl, B3.out, P3.out, Q3.out, by rw [putUp_zero]; exact OwnAt.nil _ _, by rw [Z3.out]; exact Nat.le_refl _⟩
      case round =>
        obtain ⟨k, ax, nx, cx, hk, rfl, hb, hp, hq, ho, hz⟩ := hrel
        have HB := Lib.hid hb
        have HP := Lib.hid hp
        have HQ := Lib.hid hq
        clear hp hq
        by_cases hlt : k < n
        · obtain ⟨x, hx⟩ : ∃ x, L[k]? = some x := ⟨_, List.getElem?_eq_getElem (by rw [← obs_len, HOB.out, ← hn.out]; exact hlt)⟩
          obtain ⟨b, o, c', hv, hbl, hc0, hc1⟩ := (HL.out.below hb).elem hx
          obtain ⟨rfl, hv2, rfl⟩ := Value.slice.inj hv
          have hxv := (HL.out.below hb).2 x (List.mem_of_getElem? hx)
          have HX := Lib.hid hx
          obtain ⟨i, xv, l⟩ := x
          simp only at hc0 hc1 hxv
          obtain ⟨fa, fn, fc, rfl, _⟩ := hxv.shape
          have HXV := Lib.hid hxv
          clear hv hv2 hb hx hxv
          have hp0 := HP.out.c0
          have hpl := HP.out.lt
          go_wp2_with fail
          have hbo := below1 wr (.cells #[.int .i64 (1 + (k : Int)), .slice fa fn fc] 27)
          refine (put_ok (1 + (k : Int)) l (OAt.below ho.out.at_ hbo) (HXV.out.below hbo) (putUp_short 0 k HS.out) (short_mem' HS.out HOB.out HX.out)).mono ?_
          rintro e w4 ⟨a4, n4, c4, rfl, h4, hb4⟩
          have hb5 := hbo.then_' hb4
          have P5 := HP.out.below hb5
          have Q5 := HQ.out.below hb5
          have HNew : Hid (OwnAt (w4.setCell ⟨w2.heap.size, 0, none⟩ (.slice a4 n4 c4)) (w2.heap.size + 1 + 1) (.slice a4 n4 c4) (putUp O 0 (k + 1))) := Lib.hid (by
            have h6 := OwnAt.set (OwnAt.mono h4 (B' := w2.heap.size + 1 + 1) (by simp; omega)) (p := ⟨w2.heap.size, 0, none⟩) (by simp; omega) (.slice a4 n4 c4)
            have h7 := putUp_next (O := O) (turn := 0) (k := k) (by rw [← hn.out]; exact hlt) (x := (i, l)) (by rw [Nat.add_zero, Nat.mod_eq_of_lt (by rw [← hn.out]; exact hlt), ← HOB.out]; exact obs_at HX.out)
            rw [Nat.add_zero, Nat.mod_eq_of_lt (by rw [← hn.out]; exact hlt)] at h7
            rw [← h7]
            exact h6)
          have HB5 := Lib.hid ((HB.out.then_' hb5).setCell (p := ⟨w2.heap.size, 0, none⟩) B2.out.size (.slice a4 n4 c4))
          have HP5 := Lib.hid (P5.put (.slice a4 n4 c4))
          have HQ5 := Lib.hid (Q5.far (p := ⟨w2.heap.size, 0, none⟩) (by simp) (.slice a4 n4 c4))
          have hp5 := P5.c0
          have hf5 := P5.f0
          have hz5 : w2.heap.size + 1 + 1 ≤ w4.heap.size := Nat.le_trans hz hb5.size
          clear hbo h4 hb4 hb5 P5 Q5
          go_wp2_with fail
          go_roundw
          case rel => exact ⟨k + 1, a4, n4, c4, by omega, by go_num, HB5.out, HP5.out, HQ5.out, HNew.out, by rw [size_set]; exact hz5⟩
          case measure => simp [intOf]; omega
        · obtain rfl : k = n := by omega
          have HA : Hid (OwnAt wr (w2.heap.size + 1 + 1) (.slice ax nx cx) (lab 1 O)) := Lib.hid (by have := ho.out; rw [hn.out, putUp_all] at this; exact this)
          clear ho
          go_wp2_with fail
          go_loopw [9, 10, 11, 41] (fun _ _ _ i wr => ∃ (j : Nat) (ay : Option Addr) (ny cy : Nat), j ≤ k ∧ i = .int .i64 j ∧ Below w.heap.size w wr ∧ At1 wr w2.heap.size (.slice ax nx cx) ∧ Hid (OwnAt wr (w2.heap.size + 1 + 1) (.slice ax nx cx) (lab 1 O)) ∧ At1 wr (w2.heap.size + 1) (.slice ay ny cy) ∧ Hid (OwnAt wr (w2.heap.size + 1 + 1) (.slice ay ny cy) (putUp O turn j)) ∧ w2.heap.size + 1 + 1 ≤ wr.heap.size) (fun _ _ _ i _ => k - (intOf i).toNat)
          case atStart => exact ⟨0, none, 0, 0, Nat.zero_le _, rfl, hb, HP.out, HA, HQ.out, by rw [putUp_zero]; exact Lib.hid (OwnAt.nil _ _), hz⟩
          case round =>
            clear hb hz HB HP HQ HA
            obtain ⟨j, ay, ny, cy, hj, rfl, hb, hp, ha, hq, ho, hz⟩ := hrel
            have HB := Lib.hid hb
            have HP := Lib.hid hp
            have HQ := Lib.hid hq
            clear hp hq
            have hp0 := HP.out.c0
            have hq0 := HQ.out.c0
            have hpl := HP.out.lt
            have hql := HQ.out.lt
            by_cases hlt : j < k
            · obtain ⟨m, hm, hmk, hmm⟩ : ∃ m : Nat, ((j : Int) + (turn : Int)) % (k : Int) = (m : Int) ∧ m < k ∧ Hid (m = (j + turn) % k) := ⟨_, by rw [Int.natCast_emod, Int.natCast_add], Nat.mod_lt _ (by omega), Lib.hid rfl⟩
              obtain ⟨x, hx⟩ : ∃ x, L[m]? = some x := ⟨_, List.getElem?_eq_getElem (by rw [← obs_len, HOB.out, ← hn.out]; exact hmk)⟩
              obtain ⟨b, o, c', hv, hbl, hc0, hc1⟩ := (HL.out.below hb).elem hx
              obtain ⟨rfl, hv2, rfl⟩ := Value.slice.inj hv
              have hxv := (HL.out.below hb).2 x (List.mem_of_getElem? hx)
              have HX := Lib.hid hx
              obtain ⟨i, xv, l⟩ := x
              simp only at hc0 hc1 hxv
              obtain ⟨fa, fn, fc, rfl, _⟩ := hxv.shape
              have HXV := Lib.hid hxv
              clear hv hv2 hb hx hxv
              have hkz : ((k : Int) = 0) = False := by simp only [eq_iff_iff, iff_false]; omega
              go_wp2_with fail
              have hbo := below1 wr (.cells #[.int .i64 (1 + (m : Int)), .slice fa fn fc] 27)
              refine (put_ok (1 + (m : Int)) l (OAt.below ho.out.at_ hbo) (HXV.out.below hbo) (putUp_short turn j HS.out) (short_mem' HS.out HOB.out HX.out)).mono ?_
              rintro e w4 ⟨a4, n4, c4, rfl, h4, hb4⟩
              have hb5 := hbo.then_' hb4
              have P5 := HP.out.below hb5
              have Q5 := HQ.out.below hb5
              have HNew : Hid (OwnAt (w4.setCell ⟨w2.heap.size + 1, 0, none⟩ (.slice a4 n4 c4)) (w2.heap.size + 1 + 1) (.slice a4 n4 c4) (putUp O turn (j + 1))) := Lib.hid (by
                have h6 := OwnAt.set (OwnAt.mono h4 (B' := w2.heap.size + 1 + 1) (by simp; omega)) (p := ⟨w2.heap.size + 1, 0, none⟩) (by simp) (.slice a4 n4 c4)
                have h7 := putUp_next (O := O) (turn := turn) (k := j) (by rw [← hn.out]; exact hlt) (x := (i, l)) (by rw [← hn.out, ← hmm.out, ← HOB.out]; exact obs_at HX.out)
                rw [← hn.out, ← hmm.out] at h7
                rw [← h7]
                exact h6)
              have HA5 : Hid (OwnAt (w4.setCell ⟨w2.heap.size + 1, 0, none⟩ (.slice a4 n4 c4)) (w2.heap.size + 1 + 1) (.slice ax nx cx) (lab 1 O)) := Lib.hid ((ha.out.below hb5).set (by simp) _)
              have HB5 := Lib.hid ((HB.out.then_' hb5).setCell (p := ⟨w2.heap.size + 1, 0, none⟩) (Nat.le_succ_of_le B2.out.size) (.slice a4 n4 c4))
              have HQ5 := Lib.hid (Q5.put (.slice a4 n4 c4))
              have HP5 := Lib.hid (P5.far (p := ⟨w2.heap.size + 1, 0, none⟩) (by simp) (.slice a4 n4 c4))
              have hp5 := Q5.c0
              have hf5 := Q5.f0
              have hz5 : w2.heap.size + 1 + 1 ≤ w4.heap.size := Nat.le_trans hz hb5.size
              clear hbo h4 hb4 hb5 P5 Q5
              go_wp2_with fail
              go_roundw
              case rel => exact ⟨j + 1, a4, n4, c4, by omega, by go_num, HB5.out, HP5.out, HA5, HQ5.out, HNew, by rw [size_set]; exact hz5⟩
              case measure => simp [intOf]; omega
            · obtain rfl : j = k := by omega
              have HY : Hid (OwnAt wr (w2.heap.size + 1 + 1) (.slice ay ny cy) (lab 1 O)) := Lib.hid (by have := ho.out; rw [hn.out, putUp_all] at this; exact this)
              clear ho
              obtain rfl : nx = j := by rw [ha.out.at_.len, lab_len, hn.out]
              have HLS : Hid (ShortO (lab 1 O)) := Lib.hid (lab_short 1 HS.out)
              go_wp2_with fail
              refine (same_ok ha.out.at_ HY.out.at_ HLS.out HLS.out).mono ?_
              rintro e w5 ⟨rfl, hb5⟩
              rw [decide_eq_true (rfl : lab 1 O = lab 1 O)]
              have B5 := Lib.hid (HB.out.then_' hb5)
              have P5 := Lib.hid (HP.out.below hb5)
              have A5 := Lib.hid (ha.out.below hb5)
              have hz5 : w2.heap.size + 1 + 1 ≤ w5.heap.size := Nat.le_trans hz hb5.size
              clear hb hb5 HB HP HQ HY ha hp0 hq0 hpl hql hz hlt hj hk
              have hp0 := P5.out.c0
              have hpl := P5.out.lt
              go_wp2_with fail
              refine (valid_ok A5.out.at_ HLS.out).mono ?_
              rintro e w6 ⟨rfl, hb6⟩
              rw [lab_asc 1 0 O (by decide)]
              have B6 := Lib.hid (B5.out.then_' hb6)
              have P6 := Lib.hid (P5.out.below hb6)
              have A6 := Lib.hid (A5.out.below hb6)
              have hz6 : w2.heap.size + 1 + 1 ≤ w6.heap.size := Nat.le_trans hz5 hb6.size
              clear hb6 B5 P5 A5 hp0 hpl hz5
              have hp0 := P6.out.c0
              have hpl := P6.out.lt
              by_cases hnz : nx = 0
              · go_wp2_with fail
                go_ret
                exact ⟨rfl, B6.out⟩
              · have hnz' : ((nx : Int) = 0) = False := by simp only [eq_iff_iff, iff_false]; omega
                have hnz2 : ((nx : Int) == 0) = false := by rw [beq_eq_false_iff_ne]; omega
                obtain ⟨m, hm, hmk⟩ : ∃ m : Nat, (turn : Int) % (nx : Int) = (m : Int) ∧ m < nx := ⟨_, by rw [Int.natCast_emod], Nat.mod_lt _ (by omega)⟩
                go_upto_region 25 with (fail)
                obtain ⟨W7, hW, hB, hP, hQ, hz⟩ := two_last w6 (.bool false) (.int .i64 77) (.int .i64 (1 + (m : Int))) (.slice (some ⟨w6.heap.size, 0, none⟩) 1 1) 29 27
                rw [hW]
                have B7 := Lib.hid (B6.out.then_' hB)
                have P7 := Lib.hid (P6.out.below hB)
                have A7 := Lib.hid (A6.out.below hB)
                have T7 := Lib.hid hQ
                have V7 := Lib.hid (vs_one (x := (false, 77)) hP)
                have hz7 : w6.heap.size + 1 + 1 ≤ W7.heap.size := Nat.le_of_eq hz.symm
                have hz2 : w2.heap.size + 1 + 1 ≤ w6.heap.size := hz6
                clear hW hB hP hQ hz hz6 hp0 hpl B6 P6 A6
                go_cut [13, 14] (fun zv bv wx => ∃ (z : Nat) (u : Value), zv = .pointer (some ⟨z, 0, none⟩) ∧ bv = .bool true ∧ At2 wx z (.int .i64 (1 + (m : Int))) u ∧ VsAt wx u [(false, 77)] ∧ Below W7.heap.size W7 wx)
                case first =>
                  have p7 := P7.out.c0
                  have q7 := T7.out.c0
                  have r7 := T7.out.c1
                  have QB := Lib.hid (below_drew W7)
                  have HLS2 : Hid (ShortO (lab 1 (O.set m (0, [(false, 77)])))) := Lib.hid (lab_short 1 (short_set HS.out m _ (by decide)))
                  have hput : putO (lab 1 O) (1 + (m : Int), [(false, 77)]) = lab 1 (O.set m (0, [(false, 77)])) := put_lab 1 O m _ (by rw [← hn.out]; exact hmk)
                  have hget : getO (lab 1 (O.set m (0, [(false, 77)]))) (1 + (m : Int)) = (1 + (m : Int), [(false, 77)]) := get_lab 1 _ m (0, [(false, 77)]) (by rw [List.getElem?_set_self (by rw [← hn.out]; exact hmk)])
                  have hin : inO (lab 1 (O.set m (0, [(false, 77)]))) (1 + (m : Int)) = true := in_lab 1 _ m (by rw [List.length_set, ← hn.out]; exact hmk)
                  have HPut := Lib.hid hput
                  have HGet := Lib.hid hget
                  have HIn := Lib.hid hin
                  clear hput hget hin
                  go_region_held3 (fun wx => wx.cell? ⟨w2.heap.size, 0, none⟩ = some (.slice ax nx cx) ∧ wx.cell? ⟨w6.heap.size + 1, 0, none⟩ = some (.int .i64 (1 + (m : Int))) ∧ wx.cell? ⟨w6.heap.size + 1, 1, none⟩ = some (.slice (some ⟨w6.heap.size, 0, none⟩) 1 1)) (first | exact ⟨p7, q7, r7⟩ | exact keep3 P7.out T7.out QB.out | exact keep3 P7.out T7.out (Below.new QB.out _) | exact keep3 P7.out T7.out (Below.set2 QB.out hzz _ _) | fail) (first
                    | (go_at_call 15; refine (put_ok (1 + (m : Int)) [(false, 77)] (A7.out.at_.below (by first | exact QB.out | exact Below.new QB.out _)) (V7.out.below (by first | exact QB.out | exact Below.new QB.out _)) HLS.out (by decide)).mono ?_; rintro e w8 ⟨a8, n8, c8, rfl, h8, hb8⟩; have H8 := Lib.hid h8.at_; rw [HPut.out] at H8; (first | (have hzz : W7.heap.size ≤ W7.heap.size := Nat.le_refl _; have HZ : Hid (At2 w8 W7.heap.size (.int .i64 0) (.slice none 0 0)) := Lib.hid (by have hh := At2.below (At2.drew (At2.new _ _ _ _)) hb8; exact hh); have hzl8 : W7.heap.size < w8.heap.size := HZ.out.lt) | skip); have QB := Lib.hid (Below.then_' (by first | exact QB.out | exact Below.new QB.out _) hb8); clear h8 hb8)
                    | (go_at_call 9; refine (getown_ok (1 + (m : Int)) (by first | exact H8.out | exact H8.out.below (below1 _ _)) HLS2.out).mono ?_; rw [HGet.out, HIn.out]; rintro e w9 ⟨a9, n9, c9, rfl, h9, hb9⟩; have H9 := Lib.hid h9; (first | (have HZ : Hid (At2 w9 W7.heap.size (.int .i64 0) (.slice none 0 0)) := Lib.hid (At2.below HZ.out hb9)) | (have hzz : W7.heap.size ≤ w8.heap.size := QB.out.size; have HZ : Hid (At2 w9 w8.heap.size (.int .i64 0) (.slice none 0 0)) := Lib.hid (by have hh := At2.below (At2.new _ _ _ _) hb9; exact hh)) | skip); have QB := Lib.hid (Below.then_' (by first | exact QB.out | exact Below.new QB.out _) hb9); (first | (have hz0 := HZ.out.c0; have hz1 := HZ.out.c1; have hzf0 := HZ.out.f0; have hzf1 := HZ.out.f1; have hzl := HZ.out.lt) | skip); (first | (have hy0 : w9.cell? ⟨W7.drew.heap.size, 0, none⟩ = some (.int .i64 0) := hz0; have hy1 : w9.cell? ⟨W7.drew.heap.size, 1, none⟩ = some (.slice none 0 0) := hz1; have hyf0 : w9.frozen? ⟨W7.drew.heap.size, 0, none⟩ = false := hzf0; have hyf1 : w9.frozen? ⟨W7.drew.heap.size, 1, none⟩ = false := hzf1) | skip); clear h9 hb9)
                    | fail)
                  all_goals
                    go_wp2
                    go_meet
                    case rel =>
                      first
                        | exact ⟨_, _, rfl, rfl, At2.new _ _ _ _, (VsOwn.at_ H9.out).below (below1 _ _), Below.new QB.out _⟩
                        | exact ⟨_, _, rfl, rfl, HZ.out.put2 _ _, VsOwn.at_ ((H9.out.set (p := ⟨w8.heap.size, 0, none⟩) (by simp) _).set (p := ⟨w8.heap.size, 1, none⟩) (by simp) _), Below.set2 QB.out hzz _ _⟩
                        | exact ⟨_, _, rfl, rfl, HZ.out.put2 _ _, VsOwn.at_ ((H9.out.set (p := ⟨W7.heap.size, 0, none⟩) hzl8 _).set (p := ⟨W7.heap.size, 1, none⟩) hzl8 _), Below.set2 QB.out hzz _ _⟩
                case rest =>
                  obtain ⟨z, u, rfl, rfl, hz, hv, hb⟩ := hcut
                  obtain ⟨au, cu, rfl⟩ := SlAt.shape hv
                  have HZ := Lib.hid hz
                  have HV := Lib.hid hv
                  have B8 := Lib.hid (B7.out.then_' hb)
                  have P8 := Lib.hid (P7.out.below hb)
                  have A8 := Lib.hid (A7.out.below hb)
                  have T8 := Lib.hid (T7.out.below hb)
                  have V8 := Lib.hid (V7.out.below hb)
                  have hz0 := hz.c0
                  have hz1 := hz.c1
                  have hp0 := P8.out.c0
                  have ht0 := T8.out.c0
                  have ht1 := T8.out.c1
                  clear hz hv hb B7 P7 A7 T7 V7
                  go_wp2_with fail
                  refine (rsameO_ok _ _ _ _ HV.out V8.out (by decide) (by decide) true (decide_eq_true rfl)).mono ?_
                  rintro e w9 ⟨rfl, hb9⟩
                  have B9 := Lib.hid (B8.out.then_' hb9)
                  have A9 := Lib.hid (A8.out.below hb9)
                  have V9 := Lib.hid (V8.out.below hb9)
                  have hp0 := (P8.out.below hb9).c0
                  have ht0 := (T8.out.below hb9).c0
                  have ht1 := (T8.out.below hb9).c1
                  clear hb9 B8 A8 V8
                  go_wp2_with fail
                  refine (put_ok (1 + (m : Int)) [(false, 77)] A9.out.at_ V9.out HLS.out (by decide)).mono ?_
                  rintro e w10 ⟨a10, n10, c10, rfl, h10, hb10⟩
                  have B10 := Lib.hid (B9.out.then_' hb10)
                  obtain rfl : n10 = nx := by rw [h10.at_.len, put_lab 1 O m _ (by rw [← hn.out]; exact hmk), lab_len, List.length_set, hn.out]
                  clear h10 hb10
                  have hfd : ∀ w : World, (Instr.field 24 (.agg #[.slice a10 n10 c10]) 0).run Try.prog w = .ok (.slice a10 n10 c10) w := fun _ => by kernel_rfl
                  go_wp2
                  go_ret
                  exact ⟨rfl, B10.out⟩
end Go.Proofs.Ytngjedfoogmbjaa

