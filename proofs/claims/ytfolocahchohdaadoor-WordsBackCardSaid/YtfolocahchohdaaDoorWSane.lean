/- sane: the examples of the chapter. -/
import Derived.Test.YtfolocahchohdaaDoorWRNum
namespace Go.Proofs.YtfolocahchohdaaDoor
open Go.RowKit WMath

theorem sane_split : splitL (bl ⟨#[114, 117, 110, 32, 34, 97, 32, 98, 34, 32, 51]⟩) = ([[114, 117, 110], [97, 32, 98], [51]], 0) := by decide +kernel
theorem sane_join : joinR ([⟨#[97]⟩, ⟨#[]⟩].map bl) = ([97, 32, 34, 34], 0) := by decide +kernel
theorem sane_num : numR (bl ⟨#[45, 49, 55]⟩) = (-17, 0) := by decide +kernel
theorem sane_lines : linesL (bl ⟨#[97, 10, 10, 98]⟩) = [[97], [], [98]] := by decide +kernel

/-- the cells of an owned slice of strings that is not empty -/
theorem OwnS_cells {w : World} {B : Nat} {v : Value} {l : List (List UInt8)} (h : OwnS w B v l) (hl : l ≠ []) : ∃ g c, v = .slice (some ⟨g, 0, none⟩) l.length c ∧ g < w.heap.size ∧ B ≤ g ∧ ∀ i (hi : i < l.length), w.cell? ⟨g, i, none⟩ = some (.string (bs l[i])) := by
  rcases h.2 with ⟨rfl, hn⟩ | ⟨g, cap, cur, rfl, hbg, hgg, hnc, hcm, hcs, htake⟩
  · exact absurd (List.eq_nil_of_length_eq_zero hn) hl
  · refine ⟨g, cap, rfl, (Array.getElem?_eq_some_iff.1 hgg).1, hbg, fun i hi => ?_⟩
    have hc := h.cells (g := g) rfl i (strv l[i]) (by rw [List.getElem?_map, List.getElem?_eq_getElem hi]; rfl)
    have hadd : (⟨g, 0, none⟩ : Addr).add i = ⟨g, i, none⟩ := by unfold Addr.add; split <;> simp_all
    rw [hadd] at hc
    exact hc

theorem two_strs (w : World) (a b : ByteArray) : StrsAt (w.alloc (.cells #[.string a, .string b] 9)) (.slice (some ⟨w.heap.size, 0, none⟩) 2 2) [a, b] := by
  refine .inr ⟨w.heap.size, 0, 2, rfl, fun i hi => ?_⟩
  match i, hi with
  | 0, _ => simp [World.cell?_alloc_new]
  | 1, _ => simp [World.cell?_alloc_new]

set_option maxHeartbeats 2000000 in
set_option maxRecDepth 100000 in
theorem sane_any (w : World) (hg : Glob w) : Calls Tryd.prog 9 #[] w (RetBool w true) := by
  have e1 : ((bs [97, 32, 98]).toList == [97, 32, 98]) = true := by rw [bl_toList, bl_bs]; rfl
  have e2 : ((bs [97, 32, 34, 34]).toList == [97, 32, 34, 34]) = true := by rw [bl_toList, bl_bs]; rfl
  have HG := Lib.hid hg
  obtain ⟨m, hm⟩ := hg.m
  have Hm := Lib.hid hm
  have h0 := World.block_lt_of_cell? w _ hm
  simp only at h0
  clear hg hm
  go_enter Tryd.func9, Tryd.ntmps9
  go_wp2_with fail
  refine (split_any _ w (by decide)).mono ?_
  rw [sane_split]
  rintro e w1 ⟨v1, rfl, ho1, hb1⟩
  obtain ⟨g1, c1, rfl, hgl1, _, hc1⟩ := OwnS_cells ho1 (by simp)
  have hc11 : w1.cell? ⟨g1, 1, none⟩ = some (.string (bs [97, 32, 98])) := hc1 1 (by decide)
  have HB1 := Lib.hid hb1
  have hz1 := hb1.size
  clear hc1 ho1 hb1
  go_wp2_with fail
  refine (join_any _ [⟨#[97]⟩, ⟨#[]⟩] _ (two_strs w1 _ _) (by decide) (by decide)).mono ?_
  rw [sane_join]
  rintro e w2 ⟨rfl, hb2⟩
  have HB2 : Hid (Below w1.heap.size w1 w2) := Lib.hid (((Below.refl _ _).alloc (Nat.le_refl _) _).trans (hb2.mono (by simp)))
  have hc12 := (HB2.out.cell (p := ⟨g1, 1, none⟩) (by simpa using hgl1)).trans hc11
  have hz2 := HB2.out.size
  clear hb2 hc11
  go_wp2_with fail
  have HBa : Hid (Below w.heap.size w w2) := Lib.hid (HB1.out.trans (HB2.out.mono hz1))
  refine (number_any _ w2 (by decide) (HG.out.below HBa.out)).mono ?_
  rw [sane_num]
  rintro e w3 ⟨rfl, hb3⟩
  have HB3 := Lib.hid hb3
  have hc13 := (hb3.cell (p := ⟨g1, 1, none⟩) (by simp; omega)).trans hc12
  have HBb : Hid (Below w.heap.size w w3) := Lib.hid (HBa.out.trans (hb3.mono (by omega)))
  clear hb3 hc12
  go_wp2_with fail
  refine (lines_any _ w3 m ((HBb.out.cell (p := ⟨0, 0, none⟩) (by simpa using h0)).trans Hm.out) (by decide)).mono ?_
  rw [sane_lines]
  rintro e w4 ⟨v4, rfl, ho4, hb4⟩
  obtain ⟨g4, c4, rfl, _, _, _⟩ := OwnS_cells ho4 (by simp)
  have HB4 := Lib.hid hb4
  have hz3 := HBb.out.size
  clear ho4 hb4
  go_wp2_with fail
  go_ret
  exact ⟨rfl, HBb.out.trans (HB4.out.mono hz3)⟩
end Go.Proofs.YtfolocahchohdaaDoor
