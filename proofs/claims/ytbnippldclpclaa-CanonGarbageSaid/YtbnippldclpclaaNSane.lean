/- What is asked of Reach and Canon; the sanity check. -/
import Derived.Test.YtbnippldclpclaaNFns
namespace Go.Proofs.Ytbnippldclpclaa
open Go.RowKit

abbrev ReachO (O : List Ob) (l : List V) (R : List Int) : Prop := Reaches (thereO O) (fldsO O) 0 (findR (thereO O) [] l) R
def IdsAt (w : World) (v : Value) (R : List Int) : Prop := SlAt w 1 v R.length (R.map fun x => Value.int .i64 x)
def RCanon (O : List Ob) (l : List V) (w : World) (e : Ending) (w' : World) : Prop :=
  ∃ R a n c a2 n2 c2, ReachO O l R ∧ e = .returned (.tuple #[.agg #[.slice a n c], .slice a2 n2 c2]) ∧ OAt w' (.slice a n c) (canonL (fldsO O) R) ∧ VsAt w' (.slice a2 n2 c2) (l.map (turnV R)) ∧ Below w.heap.size w w'
def RReach (O : List Ob) (l : List V) (w : World) (e : Ending) (w' : World) : Prop :=
  ∃ (R : List Int) (a : Option Addr) (c : Nat), ReachO O l R ∧ e = .returned (.slice a R.length c) ∧ IdsAt w' (.slice a R.length c) R ∧ Below w.heap.size w w'
def CanonOK : Prop := ∀ (v u : Value) (O : List Ob) (l : List V) (w : World), OAt w v O → VsAt w u l → ShortO O → l.length ≤ 1000000 → Calls Try.prog 10 #[.agg #[v], u] w (RCanon O l w)
def ReachOK : Prop := ∀ (v u : Value) (O : List Ob) (l : List V) (w : World), OAt w v O → VsAt w u l → ShortO O → l.length ≤ 1000000 → Calls Try.prog 14 #[.agg #[v], u] w (RReach O l w)

def nO : List Ob := [(4, []), (9, [(true, 9), (false, 5)])]
theorem nO_short : ShortO nO := shortO_of (by decide)
theorem reach_one {R : List Int} (h : ReachO nO [(true, 9)] R) : R = [9] := by
  refine h.det (.step (id := 9) rfl ?_)
  exact .done (by decide)
theorem reach_two {R : List Int} (h : ReachO nO [(true, 9), (true, 4)] R) : R = [9, 4] := by
  refine h.det (.step (id := 9) rfl (.step (id := 4) rfl ?_))
  exact .done (by decide)
theorem n1 (hC : CanonOK) (w : World) (v u : Value) (h : OAt w v nO) (hu : VsAt w u [(true, 9)]) : Calls Try.prog 10 #[.agg #[v], u] w (fun e w' => ∃ a n c a2 n2 c2, e = .returned (.tuple #[.agg #[.slice a n c], .slice a2 n2 c2]) ∧ OAt w' (.slice a n c) [(1, [(true, 1), (false, 5)])] ∧ VsAt w' (.slice a2 n2 c2) [(true, 1)] ∧ Below w.heap.size w w') :=
  (hC v u nO _ w h hu nO_short (by decide)).mono fun e w' ⟨R, a, n, c, a2, n2, c2, hR, he, h1, h2, h3⟩ => by
    have := reach_one hR
    subst this
    exact ⟨a, n, c, a2, n2, c2, he, h1, h2, h3⟩
theorem n2 (hR : ReachOK) (w : World) (v u : Value) (h : OAt w v nO) (hu : VsAt w u [(true, 9), (true, 4)]) : Calls Try.prog 14 #[.agg #[v], u] w (fun e w' => ∃ a c, e = .returned (.slice a 2 c) ∧ IdsAt w' (.slice a 2 c) [9, 4] ∧ Below w.heap.size w w') :=
  (hR v u nO _ w h hu nO_short (by decide)).mono fun e w' ⟨R, a, c, hR, he, h1, h3⟩ => by
    have := reach_two hR
    subst this
    exact ⟨a, c, he, h1, h3⟩
theorem os_two (w : World) (v : Value) (l : List V) (hv : VsAt w v l) (i j : Int) : OAt (w.alloc (.cells #[.int .i64 i, .slice none 0 0, .int .i64 j, v] 43)) (.slice (some ⟨w.heap.size, 0, none⟩) 2 2) [(i, []), (j, l)] := by
  refine ⟨[⟨i, .slice none 0 0, []⟩, ⟨j, v, l⟩], ⟨.inr ⟨_, _, rfl, Nat.le_refl _, rfl, fun k u hk => ?_⟩, fun x hx => ?_⟩, rfl⟩
  · rw [addr_add, Nat.zero_add, cell_of_row _ _ k _ _ _ (heap_alloc_new w _)]
    simpa [oc] using hk
  · rcases List.mem_cons.1 hx with rfl | hx
    · exact .inl ⟨rfl, rfl, rfl⟩
    · simp at hx
      subst hx
      exact hv.below (below1 _ _)
theorem vs_twoAt (w : World) (k : Nat) (h : w.heap.size = k) (x1 x2 : V) : VsAt (w.alloc (.cells #[.bool x1.1, .int .i64 x1.2, .bool x2.1, .int .i64 x2.2] 31)) (.slice (some ⟨k, 0, none⟩) 2 2) [x1, x2] := h ▸ vs_two w x1 x2
theorem sane_world (w : World) : ∃ W, ((((w.alloc (.cells #[.bool true, .int .i64 9, .bool false, .int .i64 5] 31)).alloc (.cells #[.int .i64 4, .slice none 0 0, .int .i64 9, .slice (some ⟨w.heap.size, 0, none⟩) 2 2] 43)).alloc (.cells #[.slice (some ⟨w.heap.size + 1, 0, none⟩) 2 2] 28)).alloc (.cells #[.bool true, .int .i64 9] 31)) = W ∧
    OAt W (.slice (some ⟨w.heap.size + 1, 0, none⟩) 2 2) nO ∧ VsAt W (.slice (some ⟨w.heap.size + 1 + 1 + 1, 0, none⟩) 1 1) [(true, 9)] ∧ At1 W (w.heap.size + 1 + 1) (.slice (some ⟨w.heap.size + 1, 0, none⟩) 2 2) ∧ Below w.heap.size w W := by
  have h1 := vs_two w (true, 9) (false, 5)
  have b1 := below1 w (.cells #[.bool true, .int .i64 9, .bool false, .int .i64 5] 31)
  have z1 : (w.alloc (.cells #[.bool true, .int .i64 9, .bool false, .int .i64 5] 31)).heap.size = w.heap.size + 1 := by simp
  generalize w.alloc (.cells #[.bool true, .int .i64 9, .bool false, .int .i64 5] 31) = w1 at *
  have h2 := os_two w1 _ _ h1 4 9
  rw [z1] at h2
  have b2 := b1.then_' (below1 w1 (.cells #[.int .i64 4, .slice none 0 0, .int .i64 9, .slice (some ⟨w.heap.size, 0, none⟩) 2 2] 43))
  have z2 : (w1.alloc (.cells #[.int .i64 4, .slice none 0 0, .int .i64 9, .slice (some ⟨w.heap.size, 0, none⟩) 2 2] 43)).heap.size = w.heap.size + 1 + 1 := by simp [z1]
  generalize w1.alloc (.cells #[.int .i64 4, .slice none 0 0, .int .i64 9, .slice (some ⟨w.heap.size, 0, none⟩) 2 2] 43) = w2 at *
  have h3 := At1.new w2 (.slice (some ⟨w.heap.size + 1, 0, none⟩) 2 2) 28
  rw [z2] at h3
  have b3 := b2.then_' (below1 w2 (.cells #[.slice (some ⟨w.heap.size + 1, 0, none⟩) 2 2] 28))
  have h23 := h2.below (below1 w2 (.cells #[.slice (some ⟨w.heap.size + 1, 0, none⟩) 2 2] 28))
  have z3 : (w2.alloc (.cells #[.slice (some ⟨w.heap.size + 1, 0, none⟩) 2 2] 28)).heap.size = w.heap.size + 1 + 1 + 1 := by simp [z2]
  generalize w2.alloc (.cells #[.slice (some ⟨w.heap.size + 1, 0, none⟩) 2 2] 28) = w3 at *
  exact ⟨_, rfl, h23.below (below1 _ _), vs_one (x := (true, 9)) (At2.newAt w3 _ z3 _ _ _), h3.below (below1 _ _), b3.then_' (below1 _ _)⟩
set_option maxHeartbeats 2000000 in
set_option maxRecDepth 100000 in
theorem sane4_any (hC : CanonOK) (hR : ReachOK) (w : World) : Calls Try.prog 6 #[] w (RetB w true) := by
  have HC := Lib.hid hC
  have HR := Lib.hid hR
  clear hC hR
  go_enter Try.func6, Try.ntmps6
  obtain ⟨W, hW, hO, hV, hP, hB⟩ := sane_world w
  have HW := Lib.hid hW
  have HO := Lib.hid hO
  have HV := Lib.hid hV
  have HP := Lib.hid hP
  have HB := Lib.hid hB
  clear hW hO hV hP hB
  go_wp2_with fail
  rw [HW.out]
  refine (n1 HC.out W _ _ HO.out HV.out).mono ?_
  rintro e w1 ⟨a, n, c, a2, n2, c2, rfl, h1, h2, hb⟩
  obtain rfl : n = 1 := h1.len
  obtain rfl : n2 = 1 := by obtain ⟨a', c', e⟩ := SlAt.shape h2; exact (Value.slice.inj e).2.1
  have hb' := hb.then_' (below1 w1 (.cells #[.slice a 1 c] 28))
  have B1 := Lib.hid (HB.out.then_' hb')
  have O1 := Lib.hid (HO.out.below hb')
  have P1 := Lib.hid (HP.out.below hb')
  have Q1 := Lib.hid (At1.new w1 (.slice a 1 c) 28)
  have C1 := Lib.hid (h1.below (below1 w1 (.cells #[.slice a 1 c] 28)))
  have V1 := Lib.hid (h2.below (below1 w1 (.cells #[.slice a 1 c] 28)))
  have p0 := P1.out.c0
  clear hb hb' h1 h2
  have hz1 : (w1.alloc (.cells #[.slice a 1 c] 28)).heap.size = w1.heap.size + 1 := by simp
  go_wp2_with fail
  generalize w1.alloc (.cells #[.slice a 1 c] 28) = v1 at *
  clear p0
  have W2 := Lib.hid (vs_twoAt v1 _ hz1 (true, 9) (true, 4))
  have b2 := below1 v1 (.cells #[.bool true, .int .i64 9, .bool true, .int .i64 4] 31)
  generalize v1.alloc (.cells #[.bool true, .int .i64 9, .bool true, .int .i64 4] 31) = v2 at *
  refine (n2 HR.out v2 _ _ (O1.out.below b2) W2.out).mono ?_
  rintro e w3 ⟨a3, c3, rfl, h3, hb⟩
  have hb' := b2.then_' hb
  have B3 := Lib.hid (B1.out.then_' hb')
  have q0 := (Q1.out.below hb').c0
  obtain ⟨L, hL, hobs⟩ := C1.out.below hb'
  obtain ⟨b4, o4, c4, hv4, _, g0, g1⟩ := (V1.out.below hb').elem (k := 0) rfl
  obtain ⟨rfl, -, rfl⟩ := Value.slice.inj hv4
  obtain ⟨b5, o5, c5, hv5, _, i0⟩ := h3.pos (by decide) (by decide)
  obtain ⟨rfl, -, rfl⟩ := Value.slice.inj hv5
  have i1 := i0 0 _ rfl
  have i2 := i0 1 _ rfl
  match L, hobs with
  | [⟨xi, xv, xl⟩], hobs =>
    have e1 : xi = 1 ∧ xl = [(true, 1), (false, 5)] := by
      simp [obs, Lob.ob] at hobs
      exact hobs
    obtain ⟨rfl, rfl⟩ := e1
    obtain ⟨b6, o6, c6, hv6, _, j0, j1⟩ := hL.elem (k := 0) rfl
    obtain ⟨rfl, -, rfl⟩ := Value.slice.inj hv6
    have hxv := hL.2 _ (List.mem_cons_self ..)
    simp only at hxv j0 j1
    obtain ⟨b7, o7, c7, hv7, _, k0, k1⟩ := hxv.elem (k := 0) rfl
    obtain ⟨b8, o8, c8, hv8, _, l0, l1⟩ := hxv.elem (k := 1) rfl
    subst hv7
    obtain ⟨e2, -, rfl⟩ := Value.slice.inj hv8
    obtain ⟨rfl, rfl, -⟩ := Addr.mk.inj (Option.some.inj e2)
    simp at i1 i2 j0 j1 k0 k1 l0 l1 g0 g1
    clear hv4 hv5 hv6 hv8 e2 hobs i0 hxv hL
    go_wp2_with fail
    go_ret
    exact ⟨rfl, B3.out⟩
end Go.Proofs.Ytbnippldclpclaa
