/- The sanity check of the statements on layer 5. -/
import Derived.Test.YtilholgbepfopaaDoorSOne
namespace Go.Proofs.YtilholgbepfopaaDoor
open Go.RowKit

def sP : Fn := ⟨⟨#[102]⟩, [⟨#[97]⟩], [.mk 1 ⟨#[98]⟩ ⟨#[]⟩ 0 0 [.mk 3 0 ⟨#[97]⟩ 0 []] [] []]⟩
theorem sP_vars : varsO sP = [⟨#[97]⟩, ⟨#[98]⟩] := by kernel_rfl
theorem sP_shp : shp [sP] = 0 := by kernel_rfl
theorem sP_shp0 : shp [] = 3 := by kernel_rfl
theorem nm_end : isNm ⟨#[101, 110, 100]⟩ = false := by kernel_rfl
theorem nm_x1 : isNm ⟨#[120, 49]⟩ = true := by kernel_rfl
theorem sP_sz : szP [sP] ≤ 5000000 := by decide
theorem sP_szF : szF sP ≤ 5000000 := by decide
theorem sP_ne : decide ([sP] = ([] : List Fn)) = false := decide_eq_false (fun e => by cases e)
theorem sP_eq : decide ([sP] = [sP]) = true := decide_eq_true rfl
theorem sP_new (w : World) : ∃ W, (((((w.alloc (.cells #[.string ⟨#[97]⟩] 9)).alloc (.cells #[.int .i64 3, .int .i64 0, .string ⟨#[97]⟩, .int .i64 0, .slice none 0 0] 42)).alloc
      (.cells #[.int .i64 1, .string ⟨#[98]⟩, .string ⟨#[]⟩, .int .i64 0, .int .i64 0, .slice (some ⟨w.heap.size + 1, 0, none⟩) 1 1, .slice none 0 0, .slice none 0 0] 40)).alloc
      (.cells #[.string ⟨#[102]⟩, .slice (some ⟨w.heap.size, 0, none⟩) 1 1, .slice (some ⟨w.heap.size + 1 + 1, 0, none⟩) 1 1] 35)).alloc (.cells #[.slice (some ⟨w.heap.size + 1 + 1 + 1, 0, none⟩) 1 1] 26)) = W ∧
    Below w.heap.size w W ∧ NmsAt W (.slice (some ⟨w.heap.size, 0, none⟩) 1 1) sP.params ∧ StsAt W (.slice (some ⟨w.heap.size + 1 + 1, 0, none⟩) 1 1) sP.body ∧ FnsAt W (.slice (some ⟨w.heap.size + 1 + 1 + 1, 0, none⟩) 1 1) [sP] ∧
    CsT W (w.heap.size + 1 + 1 + 1 + 1) [.slice (some ⟨w.heap.size + 1 + 1 + 1, 0, none⟩) 1 1] 26 := by
  have b1 := below1 w (.cells #[.string ⟨#[97]⟩] 9)
  have h1 : NmsAt _ _ sP.params := nms_at1 w ⟨#[97]⟩
  have z1 : (w.alloc (.cells #[.string ⟨#[97]⟩] 9)).heap.size = w.heap.size + 1 := by simp
  generalize w.alloc (.cells #[.string ⟨#[97]⟩] 9) = w1 at *
  have b2 := below1 w1 (.cells #[.int .i64 3, .int .i64 0, .string ⟨#[97]⟩, .int .i64 0, .slice none 0 0] 42)
  have h2 := exs_one w1 (.mk 3 0 ⟨#[97]⟩ 0 []) (.slice none 0 0) (ExsAt.nil _)
  simp only [Ex.kind, Ex.n, Ex.name, Ex.op] at h2
  have z2 : (w1.alloc (.cells #[.int .i64 3, .int .i64 0, .string ⟨#[97]⟩, .int .i64 0, .slice none 0 0] 42)).heap.size = w1.heap.size + 1 := by simp
  generalize w1.alloc (.cells #[.int .i64 3, .int .i64 0, .string ⟨#[97]⟩, .int .i64 0, .slice none 0 0] 42) = w2 at *
  rw [z1] at h2 z2
  have b3 := below1 w2 (.cells #[.int .i64 1, .string ⟨#[98]⟩, .string ⟨#[]⟩, .int .i64 0, .int .i64 0, .slice (some ⟨w.heap.size + 1, 0, none⟩) 1 1, .slice none 0 0, .slice none 0 0] 40)
  have h3 := sts_one w2 (.mk 1 ⟨#[98]⟩ ⟨#[]⟩ 0 0 [.mk 3 0 ⟨#[97]⟩ 0 []] [] []) _ (.slice none 0 0) (.slice none 0 0) h2 (StsAt.nil _) (StsAt.nil _)
  simp only [St.kind, St.name, St.fn, St.n, St.op] at h3
  have z3 : (w2.alloc (.cells #[.int .i64 1, .string ⟨#[98]⟩, .string ⟨#[]⟩, .int .i64 0, .int .i64 0, .slice (some ⟨w.heap.size + 1, 0, none⟩) 1 1, .slice none 0 0, .slice none 0 0] 40)).heap.size = w2.heap.size + 1 := by simp
  generalize w2.alloc (.cells #[.int .i64 1, .string ⟨#[98]⟩, .string ⟨#[]⟩, .int .i64 0, .int .i64 0, .slice (some ⟨w.heap.size + 1, 0, none⟩) 1 1, .slice none 0 0, .slice none 0 0] 40) = w3 at *
  rw [z2] at h3 z3
  have b4 := below1 w3 (.cells #[.string ⟨#[102]⟩, .slice (some ⟨w.heap.size, 0, none⟩) 1 1, .slice (some ⟨w.heap.size + 1 + 1, 0, none⟩) 1 1] 35)
  have h4 := fns_one w3 sP (.slice (some ⟨w.heap.size, 0, none⟩) 1 1) (.slice (some ⟨w.heap.size + 1 + 1, 0, none⟩) 1 1) ((h1.below b2).below b3) h3
  have z4 : (w3.alloc (.cells #[.string ⟨#[102]⟩, .slice (some ⟨w.heap.size, 0, none⟩) 1 1, .slice (some ⟨w.heap.size + 1 + 1, 0, none⟩) 1 1] 35)).heap.size = w3.heap.size + 1 := by simp
  simp only [sP] at h4
  generalize w3.alloc (.cells #[.string ⟨#[102]⟩, .slice (some ⟨w.heap.size, 0, none⟩) 1 1, .slice (some ⟨w.heap.size + 1 + 1, 0, none⟩) 1 1] 35) = w4 at *
  rw [z3] at h4 z4
  have b5 := below1 w4 (.cells #[.slice (some ⟨w.heap.size + 1 + 1 + 1, 0, none⟩) 1 1] 26)
  have h5 := CsT.new w4 [.slice (some ⟨w.heap.size + 1 + 1 + 1, 0, none⟩) 1 1] 26
  rw [z4] at h5
  exact ⟨_, rfl, (((b1.then_' b2).then_' b3).then_' b4).then_' b5, (((h1.below b2).below b3).below b4).below b5, (h3.below b4).below b5, h4.below b5, h5⟩

set_option maxHeartbeats 4000000 in
set_option maxRecDepth 100000 in
theorem sane5_any (w : World) (hg : Glob w) : Calls Tryd.prog 9 #[] w (RetB w true) := by
  obtain ⟨W, hW, hB, hN, hS, hF, hP⟩ := sP_new w
  have HW := Lib.hid hW
  have B1 := Lib.hid hB
  have N1 := Lib.hid hN
  have S1 := Lib.hid hS
  have F1 := Lib.hid hF
  have P1 := Lib.hid hP
  have HG := Lib.hid (hg.below hB)
  have HSV := Lib.hid sP_vars
  have HSS := Lib.hid sP_shp
  clear hg hW hB hN hS hF hP
  go_enter Tryd.func9, Tryd.ntmps9
  go_wp2_with fail
  rw [HW.out]
  refine (svars_any sP _ _ W sP_szF N1.out S1.out).mono ?_
  rw [HSV.out]
  rintro e w2 ⟨a2, n2, c2, rfl, hown, hb⟩
  have hn2 : n2 = 2 := by obtain ⟨a', c', e1⟩ := hown.at_.shape; exact (Value.slice.inj e1).2.1
  subst hn2
  have OW := Lib.hid hown
  have B2 := Lib.hid hb
  have F2 := Lib.hid (F1.out.below hb)
  have P2 := Lib.hid (P1.out.below hb)
  have p0 := P2.out.at_.cell 0 _ rfl
  have BB2 := Lib.hid (B1.out.then_' hb)
  clear hown hb
  go_wp2_with fail
  refine (shaped_any [sP] _ w2 sP_sz F2.out (HG.out.below B2.out)).mono ?_
  rw [HSS.out]
  rintro e w3 ⟨rfl, hb⟩
  have BB3 := Lib.hid (BB2.out.then_' hb)
  have G3 := Lib.hid (HG.out.below (B2.out.then_' hb))
  have F3 := Lib.hid (F2.out.below hb)
  have P3 := Lib.hid (P2.out.below hb)
  obtain ⟨b, o, c', hv, _, hcell⟩ := (OW.out.at_.below hb).elem (k := 1) (s := ⟨#[98]⟩) rfl
  obtain ⟨rfl, -, rfl⟩ := Value.slice.inj hv
  clear hb hv p0
  go_wp2_with fail
  refine (sname_any _ w3 G3.out).mono ?_
  rw [nm_end]
  rintro e w4 ⟨rfl, hb⟩
  have BB4 := Lib.hid (BB3.out.then_' hb)
  have G4 := Lib.hid (G3.out.below hb)
  have F4 := Lib.hid (F3.out.below hb)
  have P4 := Lib.hid (P3.out.below hb)
  clear hb hcell BB3 G3 F3 P3
  go_wp2_with fail
  refine (sname_any _ w4 G4.out).mono ?_
  rw [nm_x1]
  rintro e w5 ⟨rfl, hb⟩
  have BB5 := Lib.hid (BB4.out.then_' hb)
  have G5 := Lib.hid (G4.out.below hb)
  have F5 := Lib.hid (F4.out.below hb)
  have P5 := Lib.hid (P4.out.below hb)
  clear hb BB4 G4 F4 P4
  go_wp2_with fail
  refine (shaped_any [] _ w5 (by decide) (FnsAt.nil _) G5.out).mono ?_
  rw [sP_shp0]
  rintro e w6 ⟨rfl, hb⟩
  have BB6 := Lib.hid (BB5.out.then_' hb)
  have F6 := Lib.hid (F5.out.below hb)
  have P6 := Lib.hid (P5.out.below hb)
  have p0 := P6.out.at_.cell 0 _ rfl
  clear hb BB5 G5 F5 P5
  go_wp2_with fail
  refine (ssame_any [sP] [sP] _ _ w6 (by decide) F6.out F6.out).mono ?_
  rw [sP_eq]
  rintro e w7 ⟨rfl, hb⟩
  have BB7 := Lib.hid (BB6.out.then_' hb)
  have F7 := Lib.hid (F6.out.below hb)
  have P7 := Lib.hid (P6.out.below hb)
  have p1 := P7.out.at_.cell 0 _ rfl
  clear hb BB6 F6 P6 p0
  go_wp2_with fail
  refine (ssame_any [sP] [] _ _ w7 (by decide) F7.out (FnsAt.nil _)).mono ?_
  rw [sP_ne]
  rintro e w8 ⟨rfl, hb⟩
  have BB8 := Lib.hid (BB7.out.then_' hb)
  clear hb BB7 F7 P7 p1
  go_wp2_with fail
  go_ret
  exact ⟨rfl, BB8.out⟩
end Go.Proofs.YtilholgbepfopaaDoor
