/- Reach, as it landed. -/
import Derived.Test.YtbnippldclpclaaNName
namespace Go.Proofs.Ytbnippldclpclaa
open Go.RowKit

theorem info_I : (Try.prog.info? 2).map (fun i => (i.zero, i.size, i.bytes)) = some (some (.int .i64 0), 1, 8) := by kernel_rfl
/-- the first k numbers are there -/
def mixI (R : List Int) (n k : Nat) : List Value := ((R.take k).map fun x => Value.int .i64 x) ++ List.replicate (n - k) (.int .i64 0)
theorem mixI_next {R : List Int} {k : Nat} {x : Int} (h : R[k]? = some x) : (mixI R R.length k).set k (.int .i64 x) = mixI R R.length (k + 1) := by
  have hk := (List.getElem?_eq_some_iff.1 h).1
  unfold mixI
  rw [List.set_append_right _ _ (by simp; omega)]
  simp only [List.length_map, List.length_take, Nat.min_eq_left (Nat.le_of_lt hk), Nat.sub_self]
  rw [take_snoc h, List.map_append, List.append_assoc]
  congr 1
  rw [show R.length - k = (R.length - (k + 1)) + 1 by omega]
  rfl
theorem mixI_len (R : List Int) (k : Nat) (h : k ≤ R.length) : (mixI R R.length k).length = R.length := by unfold mixI; simp; omega
theorem mixI_all (R : List Int) : mixI R R.length R.length = R.map fun x => Value.int .i64 x := by unfold mixI; simp
theorem make_ids (w : World) (B n : Nat) (hn : n ≤ 1000000000) (hB : B ≤ w.heap.size) :
    ∃ w', (Instr.makeSlice 39 (.int .i64 (n : Int)) (.int .i64 (n : Int))).run Try.prog w = .ok (.slice (some ⟨w.heap.size, 0, none⟩) n n) w' ∧
      w'.ownsRow B 2 1 (.slice (some ⟨w.heap.size, 0, none⟩) n n) n (mixI [] n 0) ∧ Below w.heap.size w w' := by
  obtain ⟨i0, hi, hz0, hz1, hz2⟩ := info_parts info_I
  obtain ⟨w', h1, h2, h3⟩ := run_make_full (P := Try.prog) w B 39 2 i0 _ 1 Try.underlying39 hi hz0 hz1 .i64 .i64 n (by rw [hz2]; omega) (by unfold maxLen; omega) hB
  refine ⟨w', h1, ?_, Below.grewNone h3⟩
  have e : (madeCells (Value.int .i64 0).cells (n * 1)).toList = mixI [] n 0 := by
    apply List.ext_getElem?
    intro j
    unfold mixI
    by_cases hj : j < n
    · simp [madeCells, hj, Value.cells, Nat.mod_one]
    · rw [List.getElem?_eq_none (by simp [madeCells]; omega), List.getElem?_eq_none (by simp; omega)]
  rw [e] at h2
  exact h2

set_option maxHeartbeats 1000000 in
set_option maxRecDepth 100000 in
theorem reach_all : ReachOK := by
  intro v u O l w h hu hs hl
  obtain ⟨va, vn, vc', rfl, hvn⟩ := h.shape
  obtain ⟨ua, uc, rfl⟩ := SlAt.shape hu
  have B1 := Lib.hid (below1 w (.cells #[.slice va vn vc'] 28))
  have H := Lib.hid (h.below B1.out)
  have HU := Lib.hid (hu.below B1.out)
  have HS := Lib.hid hs
  have HL := Lib.hid hl
  clear h hu hs hl
  go_enter Try.func14, Try.ntmps14
  go_wp2_with fail
  refine (explore_any _ _ O l _ H.out HU.out HS.out HL.out).mono ?_
  rintro e w1 ⟨a, n, c, R, bm, rfl, hR, hO, hn, hM, hb⟩
  have B2 := Lib.hid (B1.out.then_' hb)
  have RR := Lib.hid hR
  have OO := Lib.hid hO
  have NN := Lib.hid hn
  have hnb : n ≤ 1000000000 := by obtain ⟨E, _, h2⟩ := hM; have := h2.le; have := HS.out.1; omega
  have TT : Hid (∀ x ∈ R, thereO O x = true) := Lib.hid (by obtain ⟨E, _, h2⟩ := hM; exact h2.there)
  clear hb hR hO hn H HU hM
  have hfld : ∀ w, (Instr.field 54 (.agg #[.slice a n c, .map (some bm)]) 0).run Try.prog w = .ok (.slice a n c) w := fun _ => by kernel_rfl
  obtain ⟨w2, hmk, hrow, hb2⟩ := make_ids w1 w1.heap.size n hnb (Nat.le_refl _)
  have hrow' : w2.ownsRow w1.heap.size 2 1 (.slice (some ⟨w1.heap.size, 0, none⟩) n n) n (mixI R n 0) := hrow
  have ROW := Lib.hid hrow'
  have B3 := Lib.hid hb2
  clear hrow hb2 hrow'
  go_wp2_with fail
  go_loopw [18] (fun kv wr => ∃ k : Nat, kv = .int .i64 k ∧ k ≤ n ∧ wr.ownsRow w1.heap.size 2 1 (.slice (some ⟨w1.heap.size, 0, none⟩) n n) n (mixI R n k) ∧ Below w1.heap.size w1 wr) (fun kv _ => n - (intOf kv).toNat)
  case atStart => exact ⟨0, rfl, Nat.zero_le _, ROW.out, B3.out⟩
  case round =>
    clear ROW B3 hmk
    obtain ⟨k, rfl, hk, hrow, hb⟩ := hrel
    by_cases hlt : k < n
    · obtain ⟨L, hL, hobs⟩ := OO.out.below hb
      have hnL : n = L.length := by obtain ⟨a', c', e⟩ := SlAt.shape hL.1; exact (Value.slice.inj e).2.1
      obtain ⟨x, hx⟩ : ∃ x, L[k]? = some x := ⟨_, List.getElem?_eq_getElem (by omega)⟩
      obtain ⟨id, hid⟩ : ∃ id, R[k]? = some id := ⟨_, List.getElem?_eq_getElem (by rw [← NN.out]; exact hlt)⟩
      have hxi : x.id = id := by
        have h1 : (obs L)[k]? = some x.ob := by rw [get_obs, hx]; rfl
        rw [hobs, List.getElem?_map, hid] at h1
        have := Option.some.inj h1
        rw [show x.id = x.ob.1 from rfl, ← this]
        exact get_id (TT.out _ (List.mem_of_getElem? hid))
      obtain ⟨b, o, c', hv, hbl, hc0, hc1⟩ := hL.elem hx
      obtain ⟨rfl, -, rfl⟩ := Value.slice.inj hv
      obtain ⟨fa, fc, hfv⟩ := SlAt.shape (hL.2 x (List.mem_of_getElem? hx))
      rw [hfv] at hc1
      rw [hxi] at hc0
      have hd : (k : Int) < (n : Int) := by omega
      have hs := World.ownsRow.stored hrow k (.int .i64 id)
      have hst : (mixI R n k).set k (.int .i64 id) = mixI R n (k + 1) := by rw [NN.out]; exact mixI_next hid
      rw [hst] at hs
      have ROW4 := Lib.hid (own_below hs.1 (below1 _ (.cells #[.int .i64 id, .slice fa x.vals.length fc] 43)))
      have B4 := Lib.hid ((hb.setCell (p := ⟨w1.heap.size, k, none⟩) (Nat.le_refl _) (.int .i64 id)).then_' (below1 _ (.cells #[.int .i64 id, .slice fa x.vals.length fc] 43)))
      have hb1 : w1.heap.size < wr.heap.size := (World.ownsRow.lt hrow _ rfl).2
      obtain ⟨z, hz⟩ : ∃ z, (mixI R n k)[k]? = some z := ⟨_, List.getElem?_eq_getElem (by have := hrow.1; omega)⟩
      have hq : wr.cell? ⟨w1.heap.size, k, none⟩ = some z := (hrow.cellAt k (by omega)).trans hz
      have hq2 : wr.frozen? ⟨w1.heap.size, k, none⟩ = false := hrow.frozenAt _
      clear hL hobs hnL hx hid hxi hv hfv hz hs hst hrow hb
      go_wp2_with fail
      go_roundw
      case rel => exact ⟨k + 1, by go_num, by omega, ROW4.out, B4.out⟩
      case measure => simp [intOf]; omega
    · obtain rfl : k = n := by omega
      go_wp2_with fail
      go_ret
      obtain rfl : k = R.length := NN.out
      have h1 := own_sl hrow
      rw [mixI_all] at h1
      exact ⟨R, _, _, RR.out, rfl, h1, B2.out.then_' hb⟩
end Go.Proofs.Ytbnippldclpclaa
