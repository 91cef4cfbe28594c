/- Canon, as it landed. -/
import Derived.Test.YtbnippldclpclaaNReach
namespace Go.Proofs.Ytbnippldclpclaa
open Go.RowKit

/-- the first k objects of L are those of C -/
def CopyC (C : List Ob) (L : List Lob) (k : Nat) : Prop := L.length = C.length ∧ ∀ i, i < k → L[i]?.map Lob.ob = C[i]?
theorem copyC_all {C : List Ob} {L : List Lob} (h : CopyC C L C.length) : obs L = C := by
  apply List.ext_getElem?
  intro i
  unfold obs
  rw [List.getElem?_map]
  by_cases hi : i < C.length
  · exact h.2 i hi
  · have := h.1
    rw [List.getElem?_eq_none (by omega), List.getElem?_eq_none (by omega)]
    rfl
theorem copyC_next {C : List Ob} {L : List Lob} {k : Nat} {y : Lob} (h : CopyC C L k) (hk : C[k]? = some y.ob) : CopyC C (L.set k y) (k + 1) := by
  refine ⟨by simpa using h.1, fun i hi => ?_⟩
  have hlt := (List.getElem?_eq_some_iff.1 hk).1
  by_cases hik : k = i
  · subst hik
    rw [List.getElem?_set_self (by rw [h.1]; exact hlt), hk]
    rfl
  · rw [List.getElem?_set_ne hik]
    exact h.2 i (by omega)
theorem canonL_at {f : Int → List V} {R : List Int} {k : Nat} {id : Int} (h : R[k]? = some id) : (canonL f R)[k]? = some (1 + (k : Int), (f id).map (turnV R)) := by
  unfold canonL
  rw [lab_at 1 _ k (0, (f id).map (turnV R)) (by rw [List.getElem?_map, h]; rfl)]
theorem place_of {R : List Int} {k : Nat} {id : Int} (hn : R.Nodup) (h : R[k]? = some id) : place R id = 1 + (k : Int) := by
  obtain ⟨hk, e⟩ := List.getElem?_eq_some_iff.1 h
  unfold place
  have hm := List.mem_of_getElem? h
  have hl := List.idxOf_lt_length_of_mem hm
  have he : R[R.idxOf id]'hl = R[k]'hk := by rw [List.getElem_idxOf hl, e]
  have hp := List.pairwise_iff_getElem.1 hn
  have : R.idxOf id = k := by
    rcases Nat.lt_trichotomy (R.idxOf id) k with h1 | h1 | h1
    · exact absurd he (hp _ _ hl hk h1)
    · exact h1
    · exact absurd he.symm (hp _ _ hk hl h1)
  rw [if_pos hm, this]
  omega

theorem box_box (w : World) (p q : Value) (t t' : TypeId) : ∃ W, (w.alloc (.cells #[p] t)).alloc (.cells #[q] t') = W ∧ Below w.heap.size w W ∧ At1 W w.heap.size p ∧ At1 W (w.heap.size + 1) q :=
  ⟨_, rfl, Below.new (below1 _ _) _, (At1.new _ _ _).alloc _, by simpa using At1.new (w.alloc (.cells #[p] t)) q t'⟩

set_option maxHeartbeats 2000000 in
set_option maxRecDepth 100000 in
theorem canon_all : CanonOK := by
  intro v u O l w h hu hs hl
  obtain ⟨va, vn, vc', rfl, hvn⟩ := h.shape
  obtain ⟨ua, uc, rfl⟩ := SlAt.shape hu
  obtain ⟨W, hW, hB, hP, hQ⟩ := box_box w (.slice va vn vc') (.slice none 0 0) 28 28
  have HW := Lib.hid hW
  have H := Lib.hid (h.below hB)
  have HU := Lib.hid (hu.below hB)
  have B1 := Lib.hid hB
  have Q1 := Lib.hid hQ
  have HS := Lib.hid hs
  have HL := Lib.hid hl
  have p0 := hP.c0
  clear h hu hs hl hW hB hP hQ
  go_enter Try.func10, Try.ntmps10
  go_wp2_with fail
  rw [HW.out]
  refine (explore_any _ _ O l W H.out HU.out HS.out HL.out).mono ?_
  rintro e w1 ⟨a, n, c, R, bm, rfl, hR, hO, hn, hM, hb⟩
  obtain ⟨E, hm, hk⟩ := hM
  have T2 := Lib.hid (At2.new w1 (.slice a n c) (.map (some bm)) 54)
  have b2 := hb.then_' (below1 w1 (.cells #[.slice a n c, .map (some bm)] 54))
  have B2 := Lib.hid (B1.out.then_' b2)
  have U2 := Lib.hid (HU.out.below b2)
  have Q2 := Lib.hid (Q1.out.below b2)
  have O2 := Lib.hid (hO.below (below1 w1 (.cells #[.slice a n c, .map (some bm)] 54)))
  have M2 := Lib.hid (hm.below (below1 w1 (.cells #[.slice a n c, .map (some bm)] 54)))
  have RR := Lib.hid hR
  have NN := Lib.hid hn
  have KK := Lib.hid hk
  have hnb : n ≤ 1000000000 := by have := hk.le; have := HS.out.1; omega
  have hrb : w1.heap.size < (w1.alloc (.cells #[.slice a n c, .map (some bm)] 54)).heap.size := by simp
  have r0 := T2.out.c0
  clear hb b2 hR hO hn hm hk p0 H HU Q1
  go_wp2_with fail
  generalize w1.alloc (.cells #[.slice a n c, .map (some bm)] 54) = v2 at *
  generalize hrbe : w1.heap.size = rb at *
  clear hrbe
  obtain ⟨w3, hmk, hD, hb3, hz3⟩ := make_deep v2 v2.heap.size n hnb (Nat.le_refl _)
  have D3 := Lib.hid hD
  have B3 := Lib.hid hb3
  have r3 := (T2.out.below hb3).c0
  clear hD hb3 hz3
  rw [hmk]
  go_wp2_with fail
  go_loopw [20] (fun kv wr => ∃ (k : Nat) (L' : List Lob), kv = .int .i64 k ∧ k ≤ n ∧ Deep wr v2.heap.size (.slice (some ⟨v2.heap.size, 0, none⟩) n n) L' ∧ Hid (CopyC (canonL (fldsO O) R) L' k) ∧ Below v2.heap.size v2 wr) (fun kv _ => n - (intOf kv).toNat)
  case atStart => exact ⟨0, _, rfl, Nat.zero_le _, D3.out, ⟨by rw [canonL_len, List.length_replicate, NN.out], fun i hi => by omega⟩, B3.out⟩
  case round =>
    clear D3 B3 hmk r3
    obtain ⟨k, L', rfl, hk, hd, hc, hb⟩ := hrel
    have D4 := Lib.hid hd
    have B4 := Lib.hid hb
    have T4 := Lib.hid (T2.out.below hb)
    have M4 := Lib.hid (M2.out.below hb)
    have hlt2 : v2.heap.size < wr.heap.size := (World.ownsRow.lt hd.row _ rfl).2
    clear hd
    by_cases hlt : k < n
    · obtain ⟨L, hL, hobs⟩ := O2.out.below hb
      have hnL : n = L.length := by obtain ⟨a', c', e⟩ := SlAt.shape hL.1; exact (Value.slice.inj e).2.1
      obtain ⟨x, hx⟩ : ∃ x, L[k]? = some x := ⟨_, List.getElem?_eq_getElem (by omega)⟩
      obtain ⟨id, hid⟩ : ∃ id, R[k]? = some id := ⟨_, List.getElem?_eq_getElem (by rw [← NN.out]; exact hlt)⟩
      have hxo : x.ob = getO O id := by
        have h1 : (obs L)[k]? = some x.ob := by rw [get_obs, hx]; rfl
        rw [hobs, List.getElem?_map, hid] at h1
        exact (Option.some.inj h1).symm
      have hxi : x.id = id := by
        rw [show x.id = x.ob.1 from rfl, hxo]
        exact get_id (KK.out.there _ (List.mem_of_getElem? hid))
      have hxv : x.vals = fldsO O id := by rw [← get_flds, ← hxo]; rfl
      have hfl : x.vals.length ≤ 1000000 := by rw [hxv]; exact flds_short HS.out id
      obtain ⟨b, o, c', hv, hbl, hc0, hc1⟩ := hL.elem hx
      obtain ⟨rfl, -, rfl⟩ := Value.slice.inj hv
      have hfx := hL.2 x (List.mem_of_getElem? hx)
      obtain ⟨fa, fc, hfv⟩ := SlAt.shape hfx
      rw [hfv] at hc1 hfx
      rw [hxi] at hc0
      rw [hxv] at hc1 hfx hfl
      have hd : (k : Int) < (n : Int) := by omega
      have hkL : k < L'.length := by rw [hc.out.1, canonL_len, ← NN.out]; exact hlt
      obtain ⟨z, hz⟩ : ∃ z, L'[k]? = some z := ⟨_, List.getElem?_eq_getElem hkL⟩
      have HZ := Lib.hid hz
      have HKL := Lib.hid hkL
      have HP := Lib.hid (place_of KK.out.nodup hid)
      have HC := Lib.hid (canonL_at (f := fldsO O) hid)
      have FX := Lib.hid hfx
      clear hL hobs hnL hx hid hxo hxi hxv hv hfx hfv hb hz hkL
      go_wp2_with fail
      have hp := At2.new wr (.int .i64 id) (.slice fa (fldsO O id).length fc) 43
      have hbn := below1 wr (.cells #[.int .i64 id, .slice fa (fldsO O id).length fc] 43)
      have hzn : (wr.alloc (.cells #[.int .i64 id, .slice fa (fldsO O id).length fc] 43)).heap.size = wr.heap.size + 1 := by simp
      generalize wr.alloc (.cells #[.int .i64 id, .slice fa (fldsO O id).length fc] 43) = wa at *
      have P5 := Lib.hid hp.drew
      have D5 := Lib.hid ((D4.out.below hbn).below (below_drew wa))
      have B5 := Lib.hid (B4.out.then_' hbn).drew
      have T5 := Lib.hid (T4.out.below hbn).drew
      have M5 := Lib.hid ((M4.out.below hbn).below (below_drew wa))
      have F5 := Lib.hid ((FX.out.below hbn).below (below_drew wa))
      have hlook := M5.out.look (P := Try.prog) (T := 52) Try.underlying52 Try.underlying2 (zero64 _) id
      rw [KK.out.num, HP.out] at hlook
      have q0 := hp.c0
      have q1 := hp.c1
      have q2 : wa.cell? ⟨rb, 1, none⟩ = some (.map (some bm)) := T5.out.c1
      have q2l : rb < wa.heap.size := T5.out.lt
      clear hp hbn
      go_region_held3 (fun wx => wx.cell? ⟨wr.heap.size, 0, none⟩ = some (.int .i64 id) ∧ wx.cell? ⟨wr.heap.size, 1, none⟩ = some (.slice fa (fldsO O id).length fc) ∧ wx.cell? ⟨rb, 1, none⟩ = some (.map (some bm))) (first | exact ⟨q0, q1, q2⟩ | exact ⟨e0, e1, e2⟩ | exact ⟨cell_far (cell_far e0 (by simp; omega)) (by simp; omega), cell_far (cell_far e1 (by simp; omega)) (by simp; omega), cell_far (cell_far e2 (by simp; omega)) (by simp; omega)⟩) (first | (go_at_call 20; refine (renamed_any rb bm _ _ _ O R E _ T5.out M5.out KK.out F5.out hfl).mono ?_; rintro e w6 ⟨a6, n6, c6, rfl, ho, hb6⟩; obtain ⟨e0, e1, _, _, _⟩ := P5.out.below hb6; have e2 := (T5.out.below hb6).c1; have hlook6 := (M5.out.below hb6).look (P := Try.prog) (T := 52) Try.underlying52 Try.underlying2 (zero64 _) id; rw [KK.out.num, HP.out] at hlook6; obtain ⟨s0, s1, s2, s3⟩ := (D5.out.below hb6).cells HZ.out; have O6 := Lib.hid ho; have B6 := Lib.hid hb6; clear ho hb6) | fail)
      all_goals
        have D6 := Lib.hid (Deep.put (x := ⟨1 + (k : Int), .slice a6 n6 c6, (fldsO O id).map (turnV R)⟩) (D5.out.below B6.out) HKL.out (VsOwn.mono O6.out B5.out.size) (D5.out.fresh O6.out))
        have B7 := Lib.hid (((B5.out.then_' B6.out).setCell (p := ⟨v2.heap.size, k * 2, none⟩) (Nat.le_refl _) (.int .i64 (1 + (k : Int)))).setCell (p := ⟨v2.heap.size, k * 2 + 1, none⟩) (Nat.le_refl _) (.slice a6 n6 c6))
        go_wp2_with fail
        go_roundw
        case rel => exact ⟨k + 1, _, by go_num, by omega, D6.out, copyC_next hc.out HC.out, B7.out⟩
        case measure => simp [intOf]; omega
    · obtain rfl : k = n := by omega
      have CC := Lib.hid (copyC_all (C := canonL (fldsO O) R) (L := L') (by have := hc.out; rw [canonL_len, ← NN.out]; exact this))
      have Q4 := Lib.hid (Q2.out.below hb)
      have U4 := Lib.hid (U2.out.below hb)
      clear hb hc
      go_wp2_with fail
      refine (renamed_any rb bm _ _ _ O R E _ T4.out M4.out KK.out U4.out HL.out).mono ?_
      rintro e w6 ⟨a6, n6, c6, rfl, ho, hb6⟩
      obtain ⟨q0, q1, q2⟩ := Q4.out.below hb6
      have D6 := Lib.hid (D4.out.below hb6)
      have O6 := Lib.hid ho
      have B6 := Lib.hid (B2.out.then_' (B4.out.then_' hb6))
      have hq : w.heap.size + 1 < v2.heap.size := Q2.out.lt
      have Z6 := Lib.hid B4.out.size
      clear ho hb6
      go_wp2_with fail
      refine bodyPost_ret (v := .tuple #[.agg #[.slice (some ⟨v2.heap.size, 0, none⟩) k k], .slice a6 n6 c6]) (by simp [results, Try.results10, go_sem, q0]) rfl ?_
      refine ⟨R, _, _, _, _, _, _, RR.out, rfl, ⟨L', (D6.out.far (p := ⟨w.heap.size + 1, 0, none⟩) hq _).at_, CC.out⟩, ?_, B6.out.setCell (p := ⟨w.heap.size + 1, 0, none⟩) (Nat.le_succ _) _⟩
      exact (VsOwn.set O6.out (p := ⟨w.heap.size + 1, 0, none⟩) (Nat.lt_of_lt_of_le hq Z6.out) _).at_
end Go.Proofs.Ytbnippldclpclaa
