/- end and next, of the reader. -/
import Derived.Test.YtfolocahchohdaaDoorWRead
import Derived.Deep.RegionLaw
namespace Go.Proofs.YtfolocahchohdaaDoor
open Go.RowKit WMath

/-- append(l, s), as one step of a statement whose order is open -/
theorem step_appS1 {w : World} {ops : Array Oper} {o : Oper} {a : Act} {K : Act → World → Prop} {Q : Exit → Act → World → Prop} {E : Prop}
    (hgd : o.guard = none) (s x : Operand) (ho : o.op = .call { callee := .builtin .append, args := #[s, x], argTypes := #[23, 23] })
    (B : Nat) (v : Value) (l : List (List UInt8)) (b : ByteArray) (hs : a.eval s = v) (hown : OwnS w B v l) (hx : a.eval x = .slice (some ⟨w.heap.size, 0, none⟩) 1 1) (hn : l.length ≤ 1000000000) (hbase : B ≤ w.heap.size)
    (h : ∀ v' w', OwnS w' B v' (l ++ [bl b]) → w.grownBy w' v.ownBlock → K (a.put o.dst v') w') :
    if Region.wanted o (yielded ops a.tmps) = true then Oper.wp Tryd.prog o a (w.alloc (.cells #[.string b] 9)) K Q else E := by
  have hw : Region.wanted o (yielded ops a.tmps) = true := by simp [Region.wanted, hgd]
  rw [if_pos hw]
  obtain ⟨i0, hi, hz0, hz1, hz2⟩ := info_parts info_str
  have hb : strv (bl b) = .string b := by unfold strv; rw [bs_bl]
  refine wp_append_own _ s x 23 ho B 9 i0 (.string ⟨#[]⟩) 1 16 Tryd.underlying23 hi hz0 hz1 hz2 rfl (by decide) v l.length (l.map strv) hs (World.ownsRow.alloc hown _) ⟨w.heap.size, 0, none⟩ 1 1 [.string b] hx rfl (cell_one_new _ _ _) (by intro u hu; simp at hu; subst hu; rfl) (by unfold maxLen; omega) (by omega) (by simp; omega) ?_
  intro v' w' h1 h2 _
  refine h v' w' ?_ ((World.grownBy_alloc w _ _).trans h2)
  unfold OwnS
  rw [← hb] at h1
  simpa using h1

theorem Rd.drew {w : World} {B r st : Nat} {v1 v2 : Value} {wd : List UInt8} {ws : List (List UInt8)} (h : Rd w B r st v1 v2 wd ws) : Rd w.drew B r st v1 v2 wd ws := ⟨h.blk, h.own1, h.own2, h.lt, h.hB⟩

theorem OwnB_cut {w : World} {B g n cap : Nat} {l : List UInt8} (h : OwnB w B (.slice (some ⟨g, 0, none⟩) n cap) l) : OwnB w B (.slice (some ⟨g, 0, none⟩) 0 cap) [] := by
  rcases h.2 with ⟨h, _⟩ | ⟨g', cap', cur, h, hb, hg, hn, hm, hc, ht⟩
  · cases h
  · cases h
    exact ⟨rfl, .inr ⟨g, cap, cur, rfl, hb, hg, Nat.zero_le _, hm, hc, by simp⟩⟩
theorem rend_close {w w3 : World} {B r st : Nat} {v1 v2 v3 v1' : Value} {wd : List UInt8} {ws : List (List UInt8)} (H : Rd w.drew B r st v1 v2 wd ws) (h3 : OwnS w3 B v3 (ws ++ [bl (bs wd)])) (hg : w.drew.grownBy w3 v2.ownBlock) (h1 : OwnB w3 B v1' []) :
    RdRes B r st 0 [] (ws ++ [wd]) w (.returned (.int .i64 0)) ((w3.setCell ⟨r, 2, none⟩ v3).setCell ⟨r, 1, none⟩ v1') := by
  rw [bl_bs] at h3
  have hb := (H.grown2 hg).1
  have hO : Others B r w w3 := by
    have := Others.grown (r := r) hg H.hB (fun g hg => (World.ownsRow.lt H.own2 g hg).1)
    exact ⟨this.os, this.tape, this.output, this.size, this.block⟩
  refine ⟨rfl, v1', v3, ⟨set1 (set2 hb _) _, ownsRow_setCell (ownsRow_setCell h1 H.lt _ _) H.lt _ _, ownsRow_setCell (ownsRow_setCell h3 H.lt _ _) H.lt _ _, H.lt, ?_⟩, (hO.trans (Others.setCell 2 _)).trans (Others.setCell 1 _)⟩
  have := hg.size
  have := H.hB
  simp [World.setCell] at *
  omega

set_option maxHeartbeats 2000000 in
set_option maxRecDepth 100000 in
theorem rend_any (B r st : Nat) (v1 v2 : Value) (wd : List UInt8) (ws : List (List UInt8)) (w : World) (h : Rd w B r st v1 v2 wd ws) (hl2 : ws.length ≤ 1048576) :
    Calls Tryd.prog 32 #[.pointer (some ⟨r, 0, none⟩)] w (RdRes B r st 0 [] (ws ++ [wd]) w) := by
  have h1 := h.c1
  have h2 := h.c2
  have hB := h.hB
  have hlt := h.rlt
  have hf2 := h.f 2
  have hcs := OwnB_string h.drew.own1
  have H := Lib.hid h.drew
  have Hnil : Hid (v1 = .slice none 0 0 ∨ ∃ g cap, v1 = .slice (some ⟨g, 0, none⟩) wd.length cap) := Lib.hid (by
    rcases h.own1.2 with ⟨h, _⟩ | ⟨g, cap, cur, h, _⟩
    · exact .inl h
    · exact .inr ⟨g, cap, h⟩)
  clear h
  rcases Hnil.out with rfl | ⟨g, cap, rfl⟩
  · go_enter Tryd.func32, Tryd.ntmps32
    go_wp2
    go_region_law (refine step_appS1 rfl _ _ rfl B v2 ws (bs wd) rfl H.out.own2 rfl (by omega) (by simpa using hB) ?_; intro v3 w3 ho3 hg3; have hblk := (H.out.grown2 hg3).1; obtain ⟨a3, n3, c3, rfl, hn3⟩ := OwnS_shape ho3; have HO3 := Lib.hid ho3; have HG3 := Lib.hid hg3; have hc32 : w3.cell? ⟨r, 2, none⟩ = some v2 := (by simp [World.cell?, hblk]); have hf32 : w3.frozen? ⟨r, 2, none⟩ = false := (by simp [World.frozen?, hblk]); clear ho3 hg3 hblk)
    all_goals
      have hX := set2 (H.out.grown2 HG3.out).1 (.slice a3 n3 c3)
      have HX := Lib.hid hX
      have hcX : (w3.setCell ⟨r, 2, none⟩ (.slice a3 n3 c3)).cell? ⟨r, 1, none⟩ = some (.slice none 0 0) := (by simp [World.cell?, hX])
      have hfX : (w3.setCell ⟨r, 2, none⟩ (.slice a3 n3 c3)).frozen? ⟨r, 1, none⟩ = false := (by simp [World.frozen?, hX])
      clear hX
      go_wp2
      go_ret
      exact rend_close H.out HO3.out HG3.out (OwnB_nil _ _)
  · go_enter Tryd.func32, Tryd.ntmps32
    go_wp2
    go_region_law (refine step_appS1 rfl _ _ rfl B v2 ws (bs wd) rfl H.out.own2 rfl (by omega) (by simpa using hB) ?_; intro v3 w3 ho3 hg3; have hblk := (H.out.grown2 hg3).1; obtain ⟨a3, n3, c3, rfl, hn3⟩ := OwnS_shape ho3; have HO3 := Lib.hid ho3; have HG3 := Lib.hid hg3; have hc32 : w3.cell? ⟨r, 2, none⟩ = some v2 := (by simp [World.cell?, hblk]); have hf32 : w3.frozen? ⟨r, 2, none⟩ = false := (by simp [World.frozen?, hblk]); clear ho3 hg3 hblk)
    all_goals
      have hX := set2 (H.out.grown2 HG3.out).1 (.slice a3 n3 c3)
      have HX := Lib.hid hX
      have hcX : (w3.setCell ⟨r, 2, none⟩ (.slice a3 n3 c3)).cell? ⟨r, 1, none⟩ = some (.slice (some ⟨g, 0, none⟩) wd.length cap) := (by simp [World.cell?, hX])
      have hfX : (w3.setCell ⟨r, 2, none⟩ (.slice a3 n3 c3)).frozen? ⟨r, 1, none⟩ = false := (by simp [World.frozen?, hX])
      clear hX
      go_wp2
      go_ret
      exact rend_close H.out HO3.out HG3.out (OwnB_cut (H.out.grown2 HG3.out).2)
end Go.Proofs.YtfolocahchohdaaDoor
