/- Lines, of the program and of the reference; the tests Same and kept. -/
import Derived.Test.YtfolocahchohdaaDoorWJoin
namespace Go.Proofs.YtfolocahchohdaaDoor
open Go.RowKit WMath

theorem indexByte_none (c : UInt8) (l : List UInt8) (h : c ∉ l) : Lib.indexByte l c = -1 := by
  induction l with
  | nil => rfl
  | cons b l ih =>
    simp only [List.mem_cons, not_or] at h
    simp only [Lib.indexByte, beq_iff_eq]
    rw [if_neg (Ne.symm h.1), ih h.2]
    rfl
theorem indexByte_hit (c : UInt8) (p r : List UInt8) (h : c ∉ p) : Lib.indexByte (p ++ c :: r) c = p.length := by
  induction p with
  | nil => simp [Lib.indexByte]
  | cons b l ih =>
    simp only [List.mem_cons, not_or] at h
    simp only [List.cons_append, Lib.indexByte, beq_iff_eq]
    rw [if_neg (Ne.symm h.1), ih h.2, if_neg (by omega)]
    simp
theorem cut_none (l : List UInt8) (h : (10 : UInt8) ∉ l) : Lib.cut l [10] = (l, [], false) := by
  unfold Lib.cut
  rw [Lib.index_one, indexByte_none _ _ h]
  rfl
theorem cut_hit (p r : List UInt8) (h : (10 : UInt8) ∉ p) : Lib.cut (p ++ 10 :: r) [10] = (p, r, true) := by
  unfold Lib.cut
  rw [Lib.index_one, indexByte_hit _ _ _ h, if_pos (by omega)]
  simp

/-- one round of Lines: the line at the head, and what is left -/
theorem cut_lines (l : List UInt8) (hl : l ≠ []) : linesL l = (Lib.cut l [10]).1 :: linesL (Lib.cut l [10]).2.1 ∧ (Lib.cut l [10]).2.1.length < l.length ∧ (Lib.cut l [10]).1.length ≤ l.length := by
  by_cases h : (10 : UInt8) ∈ l
  · obtain ⟨p, r, rfl, hp⟩ := List.eq_append_cons_of_mem h
    rw [cut_hit p r hp]
    refine ⟨linesL_line p r hp, ?_, ?_⟩ <;> simp <;> omega
  · rw [cut_none l h]
    refine ⟨by rw [linesL_last l h hl]; rfl, ?_, Nat.le_refl _⟩
    cases l with
    | nil => exact absurd rfl hl
    | cons a t => simp

/-- a new slice of strings is handed back; nothing old has changed -/
def RetS (w : World) (l : List (List UInt8)) (e : Ending) (w' : World) : Prop := ∃ v, e = .returned v ∧ OwnS w' w.heap.size v l ∧ Below w.heap.size w w'

theorem clone_any (s : ByteArray) (w : World) (hs : s.size ≤ 140737488355328) :
    Calls Tryd.prog 25 #[.string s] w fun e w' => e = .returned (.string s) ∧ Below w.heap.size w w' := by
  go_enter Tryd.func25, Tryd.ntmps25
  go_wp2_with (go_at_call 36; refine (Tryd.stringslite_Clone s w (by omega)).mono ?_; rintro e w' ⟨rfl, hb⟩)
  go_ret
  exact ⟨rfl, by assumption⟩

set_option maxHeartbeats 1000000 in
set_option maxRecDepth 100000 in
theorem lines_any (s : ByteArray) (w : World) (m : Int) (hm : w.cell? ⟨0, 0, none⟩ = some (.int .i64 m)) (hs : s.size ≤ 1048576) :
    Calls Tryd.prog 13 #[.string s] w (RetS w (linesL (bl s))) := by
  have h0 := World.block_lt_of_cell? w _ hm
  have Hm := Lib.hid hm
  clear hm
  simp only at h0
  go_enter Tryd.func13, Tryd.ntmps13
  go_wp2
  go_loopw [0, 3, 4, 5, 6] (fun x v _ _ _ wr => ∃ r : ByteArray, ∃ L : List (List UInt8), x = .string r ∧ r.size ≤ s.size ∧ L.length + r.size ≤ s.size ∧ linesL (bl s) = L ++ linesL (bl r) ∧ OwnS wr w.heap.size v L ∧ Below w.heap.size w wr)
    (fun x _ _ _ _ _ => match x with | .string r => r.size | _ => 0)
  case atStart => exact ⟨s, [], rfl, Nat.le_refl _, by simp, rfl, OwnS_nil _ _, Below.refl _ _⟩
  case round =>
    obtain ⟨r, L, rfl, hrs, hLr, hll, hown, hb⟩ := hrel
    have HO := Lib.hid hown
    have HB := Lib.hid hb
    have HL := Lib.hid hll
    have hz := hb.size
    clear hown hll
    have Hm2 : Hid (wr.cell? ⟨0, 0, none⟩ = some (.int .i64 m)) := Lib.hid ((hb.cell (by simpa using h0)).trans Hm.out)
    clear hb
    by_cases hr : r.size = 0
    · have hre : r = ⟨#[]⟩ := bl_inj ((bl_empty r).2 hr)
      subst hre
      go_wp2
      go_ret
      refine ⟨_, rfl, ?_, HB.out⟩
      rw [HL.out]
      simpa [bl, linesL, linesAux] using HO.out
    · have hne : r.toList.isEmpty = false := by rw [bl_toList]; cases h : bl r with | nil => exact absurd ((bl_empty r).1 h) hr | cons a t => rfl
      obtain ⟨hc1, hc2, hc3⟩ := cut_lines (bl r) (fun h => hr ((bl_empty r).1 h))
      rw [bl_len] at hc2 hc3
      have hcutb : Lib.cut r.data.toList (⟨#[10]⟩ : ByteArray).data.toList = Lib.cut (bl r) [10] := rfl
      obtain ⟨p, q, f, hcut⟩ : ∃ p q f, Lib.cut (bl r) [10] = (p, q, f) := ⟨_, _, _, rfl⟩
      rw [hcut] at hc1 hc2 hc3 hcutb
      have hps := bs_size p
      have hqs := bs_size q
      have Hcb := Lib.hid hcutb
      have Hc1 := Lib.hid hc1
      have hpe : (⟨p.toArray⟩ : ByteArray) = bs p := rfl
      have hqe : (⟨q.toArray⟩ : ByteArray) = bs q := rfl
      have Hpe := Lib.hid hpe
      have Hqe := Lib.hid hqe
      simp only at hc2 hc3
      have hpl : bl (bs p) = p := bl_bs p
      have hql : bl (bs q) = q := bl_bs q
      generalize bs p = P at *
      generalize bs q = T at *
      rw [← hps] at hc3
      rw [← hqs] at hc2
      have Hpl := Lib.hid hpl
      have Hql := Lib.hid hql
      clear hps hqs hc1 hcutb hcut hpe hqe hpl hql
      go_wp2_with (first | (go_at_call 24; refine (Tryd.strings_Cut r _ m wr (by omega) Hm2.out).mono ?_; rintro e w1 ⟨he, n1, rfl⟩; rw [Hcb.out] at he; simp only [Hpe.out, Hqe.out] at he; subst he) | (go_at_call 25; refine (clone_any P _ (by omega)).mono ?_; rintro e w2 ⟨rfl, hb2⟩; have HB2 := Lib.hid hb2; have HO2 : Hid (OwnS w2 w.heap.size u3 L) := Lib.hid (ownsRow_below (ownsRow_below HO.out (below_drewN (Below.refl _ _) n1)) hb2); have hz2 := hb2.size; clear hb2) | (at_builtin; refine appS1 rfl _ _ rfl w.heap.size u3 L P rfl HO2.out rfl (by omega) (by simp at hz2; omega) ?_; intro v3 w3 ho3 hg3 hl3))
      have HO3 := Lib.hid ho3
      have HB3 : Hid (Below w.heap.size w w3) := Lib.hid (((below_drewN HB.out n1).trans (HB2.out.mono (by simpa using hz))).grown hg3 (by simp at hz2; omega) (fun g hg => (World.ownsRow.lt HO2.out g hg).1))
      clear ho3 hg3 hl3
      go_roundw
      case rel => exact ⟨T, L ++ [bl P], rfl, by omega, by simp; omega, by rw [HL.out, Hc1.out, Hpl.out, Hql.out]; simp, HO3.out, HB3.out⟩
      case measure => simp; omega
end Go.Proofs.YtfolocahchohdaaDoor
