/- Equal lists of values; other names. -/
import Derived.Test.YtbnippldclpclaaNMath2
namespace Go.Proofs.Ytbnippldclpclaa
open Go.RowKit

set_option maxHeartbeats 1000000 in
set_option maxRecDepth 100000 in
theorem sameValues_any (v u : Value) (l m : List V) (w : World) (hv : VsAt w v l) (hu : VsAt w u m) (hl : l.length ≤ 1000000000) :
    Calls Try.prog 12 #[v, u] w (RetB w (decide (l = m))) := by
  obtain ⟨a, n, c, rfl, hn⟩ := hv.shape
  obtain ⟨a2, n2, c2, rfl, hn2⟩ := hu.shape
  have H := Lib.hid hv
  have H2 := Lib.hid hu
  rw [← hn.out] at hl
  clear hv hu
  by_cases he : n = n2
  · subst he
    have hd : decide (l = m) = eqFrom l m 0 := by rw [eqFrom_zero]
    generalize hq : decide (l = m) = q at *
    have HD := Lib.hid hd
    clear hq hd
    have HG : Hid (eqFrom l m n = true) := Lib.hid (eqFrom_end l m n (by rw [← hn.out]; exact Nat.le_refl _) (by rw [← hn2.out]; exact Nat.le_refl _))
    go_enter Try.func12, Try.ntmps12
    go_wp2
    go_loopw [5, 13] (fun _ k_ wr => ∃ k : Nat, k ≤ n ∧ k_ = .int .i64 k ∧ Below w.heap.size w wr ∧ Hid (q = eqFrom l m k)) (fun _ k_ _ => n - (intOf k_).toNat)
    case atStart => exact ⟨0, Nat.zero_le _, rfl, Below.refl _ _, HD.out⟩
    case round =>
      obtain ⟨k, hk, rfl, hb, hi⟩ := hrel
      by_cases hlt : k < n
      · obtain ⟨x, hx⟩ : ∃ x, l[k]? = some x := ⟨_, List.getElem?_eq_getElem (by rw [← hn.out]; exact hlt)⟩
        obtain ⟨y, hy⟩ : ∃ x, m[k]? = some x := ⟨_, List.getElem?_eq_getElem (by rw [← hn2.out]; exact hlt)⟩
        obtain ⟨b, o, c', hv, _, hc0, hc1⟩ := (H.out.below hb).elem hx
        obtain ⟨rfl, hv2, rfl⟩ := Value.slice.inj hv
        obtain ⟨b2, o2, c2', hw, _, hd0, hd1⟩ := (H2.out.below hb).elem hy
        obtain ⟨rfl, hw2, rfl⟩ := Value.slice.inj hw
        clear hv hv2 hw hw2
        have HX := Lib.hid hx
        have HY := Lib.hid hy
        have HB := Lib.hid hb
        clear hb hx hy
        obtain ⟨x1, x2⟩ := x
        obtain ⟨y1, y2⟩ := y
        have hki : (k : Int) < (n : Int) := by omega
        have hne := run_neq_V x1 y1 x2 y2
        have hgu := run_guard_V
        cases hq : (x1 == y1 && x2 == y2) with
        | true =>
          rw [hq] at hne
          have HE : Hid (eqFrom l m k = eqFrom l m (k + 1)) := Lib.hid (eqFrom_same HX.out (by rw [HY.out]; simp at hq; rw [hq.1, hq.2]))
          clear hq
          go_wp2_with fail
          go_quiet (fail)
          go_wp2
          go_roundw
          case rel => exact ⟨k + 1, by omega, by go_num, Below.drewN HB.out _, by rw [hi.out]; exact HE.out⟩
          case measure => simp [intOf]; omega
        | false =>
          rw [hq] at hne
          have HE : Hid (eqFrom l m k = false) := Lib.hid (eqFrom_other HX.out HY.out (by simp at hq; intro e; obtain ⟨e1, e2⟩ := Prod.mk.inj e; exact hq e1 e2))
          clear hq
          go_wp2_with fail
          go_quiet (fail)
          go_wp2
          go_ret
          exact ⟨by rw [hi.out, HE.out]; rfl, Below.drewN HB.out _⟩
      · obtain rfl : k = n := by omega
        go_wp2
        go_ret
        exact ⟨by rw [hi.out, HG.out]; rfl, hb⟩
  · have he' : ((n : Int) == (n2 : Int)) = false := by rw [beq_eq_false_iff_ne]; omega
    have hne : decide (l = m) = false := by
      rw [decide_eq_false_iff_not]
      intro e
      rw [e] at hn
      exact he (hn.out.trans hn2.out.symm)
    rw [hne]
    go_enter Try.func12, Try.ntmps12
    go_wp2
    go_ret
    exact ⟨rfl, Below.refl _ _⟩

/-- another identifier -/
def nmI (add : Nat) (turn : Bool) (id : Int) : Int := if turn = true then 1000 - 3 * id else 7 * id + add + 20
theorem nmI_inj (add : Nat) (turn : Bool) : ∀ a b, nmI add turn a = nmI add turn b → a = b := by
  intro a b h
  unfold nmI at h
  cases turn
  · simp only [Bool.false_eq_true, if_false] at h
    omega
  · simp only [if_true] at h
    omega
set_option maxRecDepth 100000 in
theorem name4_any (id : Int) (add : Nat) (turn : Bool) (w : World) (h0 : -1000 ≤ id) (h1 : id ≤ 1000) (ha : add ≤ 255) :
    Calls Try.prog 16 #[.int .i64 id, .int .u8 (add : Int), .bool turn] w (fun e w' => e = .returned (.int .i64 (nmI add turn id)) ∧ w' = w) := by
  go_enter Try.func16, Try.ntmps16
  cases turn
  · go_wp2
    go_ret
    exact ⟨by simp [nmI], rfl⟩
  · go_wp2
    go_ret
    exact ⟨by simp [nmI], rfl⟩

theorem VsOwn.agree_set {w : World} {B : Nat} {v : Value} {l : List V} (h : VsOwn w B v l) {p : Addr} (u : Value) (hp : ∀ g, v.ownBlock = some g → g ≠ p.block) : VsOwn (w.setCell p u) B v l :=
  own_far h (fun e => hp _ e rfl) u
theorem At2.new' (w w0 : World) (h : w.heap.size = w0.heap.size) (u0 u1 : Value) (t : TypeId) : At2 (w.alloc (.cells #[u0, u1] t)) w0.heap.size u0 u1 := h ▸ At2.new w u0 u1 t
theorem named_step {w : World} {B k c : Nat} {a : Option Addr} {l : List V} {f : V → V} {x y : V} (hk : k ≤ l.length) (hx : l.take (k + 1) = l.take k ++ [x]) (hy : f x = y) (ho : VsOwn w B (.slice a ((l.take k).map f ++ [y]).length c) ((l.take k).map f ++ [y])) :
    VsOwn w B (.slice a (k + 1) c) ((l.take (k + 1)).map f) := by
  have e : ((l.take k).map f ++ [y]).length = k + 1 := by rw [List.length_append, List.length_map, List.length_take, Nat.min_eq_left hk]; rfl
  rw [e] at ho
  rw [hx, List.map_append, List.map_singleton, hy]
  exact ho
theorem At2.newAt (w : World) (k : Nat) (h : w.heap.size = k) (u0 u1 : Value) (t : TypeId) : At2 (w.alloc (.cells #[u0, u1] t)) k u0 u1 := h ▸ At2.new w u0 u1 t
def RVs (w : World) (l : List V) (e : Ending) (w' : World) : Prop := ∃ a n c, e = .returned (.slice a n c) ∧ VsOwn w' w.heap.size (.slice a n c) l ∧ Below w.heap.size w w'
theorem take_snoc {α : Type} {l : List α} {k : Nat} {x : α} (h : l[k]? = some x) : l.take (k + 1) = l.take k ++ [x] := by
  rw [List.take_add_one, h]
  rfl
theorem newV_one (nm : Int → Int) (n : Int) (h : n ≠ 0) : newV nm (true, n) = (true, nm n) := by unfold newV; rw [if_pos ⟨rfl, h⟩]
theorem newV_no (nm : Int → Int) (x : V) (h : ¬ (x.1 = true ∧ x.2 ≠ 0)) : newV nm x = x := by unfold newV; rw [if_neg h]

set_option maxHeartbeats 1000000 in
set_option maxRecDepth 100000 in
theorem named4_any (v : Value) (l : List V) (add : Nat) (turn : Bool) (w : World) (hv : VsAt w v l) (hl : l.length ≤ 1000) (hok : ∀ x ∈ l, OkV x) (ha : add ≤ 255) :
    Calls Try.prog 17 #[v, .int .u8 (add : Int), .bool turn] w (RVs w (l.map (newV (nmI add turn)))) := by
  obtain ⟨a, n, c, rfl, hn⟩ := hv.shape
  have H := Lib.hid hv
  have HOK := Lib.hid hok
  rw [← hn.out] at hl
  clear hv hok
  go_enter Try.func17, Try.ntmps17
  go_wp2
  go_loopw [7, 9, 12] (fun ov _ k_ wr => ∃ (k : Nat) (a' : Option Addr) (c' : Nat), k ≤ n ∧ k_ = .int .i64 k ∧ ov = .slice a' k c' ∧ VsOwn wr w.heap.size (.slice a' k c') ((l.take k).map (newV (nmI add turn))) ∧ Below w.heap.size w wr) (fun _ _ k_ _ => n - (intOf k_).toNat)
  case atStart => exact ⟨0, none, 0, Nat.zero_le _, rfl, rfl, VsOwn.nil _ _, Below.refl _ _⟩
  case round =>
    obtain ⟨k, a', c', hk, rfl, rfl, ho, hb⟩ := hrel
    have HO := Lib.hid ho
    have HB := Lib.hid hb
    clear ho
    by_cases hlt : k < n
    · obtain ⟨x, hx⟩ : ∃ x, l[k]? = some x := ⟨_, List.getElem?_eq_getElem (by rw [← hn.out]; exact hlt)⟩
      obtain ⟨b, o, c2, hv, _, hc0, hc1⟩ := (H.out.below hb).elem hx
      obtain ⟨rfl, hv2, rfl⟩ := Value.slice.inj hv
      have hok := HOK.out x (List.mem_of_getElem? hx)
      have HX := Lib.hid (take_snoc hx)
      have hki : (k : Int) < (n : Int) := by omega
      obtain ⟨xb, xn⟩ := x
      have hx1 : -1000 ≤ xn := by have := hok.1; simp only at this; omega
      have hx2 : xn ≤ 1000 := by have := hok.2.1; simp only at this; omega
      clear hv hv2 hb hx hok
      have T := Lib.hid (At2.new wr (.bool xb) (.int .i64 xn) 31)
      have B1 := Lib.hid (below1 wr (.cells #[.bool xb, .int .i64 xn] 31))
      by_cases hr : xb = true ∧ xn ≠ 0
      · obtain ⟨rfl, hne⟩ := hr
        have d1 : (xn != 0) = true := by rw [bne_iff_ne]; exact hne
        have d2 : (xn == 0) = false := by rw [beq_eq_false_iff_ne]; exact hne
        have HN := Lib.hid (newV_one (nmI add turn) xn hne)
        clear hne
        go_wp2_with fail
        generalize wr.alloc (.cells #[.bool true, .int .i64 xn] 31) = W1 at *
        have t0 := T.out.c0
        have t1 := T.out.c1
        have t2 := T.out.f1
        refine (name4_any xn add turn W1 hx1 hx2 ha).mono ?_
        rintro e w' ⟨rfl, rfl⟩
        have T2 := Lib.hid (T.out.put1 (.int .i64 (nmI add turn xn)))
        have B2 := Lib.hid ((HB.out.then_' B1.out).setCell (p := ⟨wr.heap.size, 1, none⟩) HB.out.size (.int .i64 (nmI add turn xn)))
        have O2 := Lib.hid ((HO.out.below B1.out).agree_set (p := ⟨wr.heap.size, 1, none⟩) (.int .i64 (nmI add turn xn)) (fun g e => by have := (World.ownsRow.lt HO.out g e).2; show g ≠ wr.heap.size; omega))
        have s0 := T2.out.c0
        have s1 := T2.out.c1
        have N2 := Lib.hid (At2.new' (w'.setCell ⟨wr.heap.size, 1, none⟩ (.int .i64 (nmI add turn xn))) w' (size_set _ _ _) (.bool true) (.int .i64 (nmI add turn xn)) 31)
        go_wp2_with (first
          | (at_builtin; refine appV rfl _ _ rfl w.heap.size (.slice a' k c') ((l.take k).map (newV (nmI add turn))) rfl (O2.out.below (below1 _ _)) _ [(true, nmI add turn xn)] rfl (vs_one (x := (true, nmI add turn xn)) N2.out) (by rw [List.length_map, List.length_take]; simp; omega) (Nat.le_trans B2.out.size (Nat.le_of_lt (lt_new _ _))) ?_; intro v' w3 ho hg hat; obtain ⟨a3, c3, rfl⟩ := SlAt.shape ho.at_; have O3 := Lib.hid ho; have B3 := Lib.hid (Below.grown (Below.new B2.out (.cells #[.bool true, .int .i64 (nmI add turn xn)] 31)) hg (Nat.le_trans B2.out.size (Nat.le_of_lt (lt_new _ _))) (fun g e => (World.ownsRow.lt O2.out g e).1)); clear ho hg hat)
          | fail)
        go_roundw
        case rel => exact ⟨k + 1, a3, c3, by omega, by go_num, by rw [Nat.min_eq_left (by rw [← hn.out]; exact hk)], named_step (by rw [← hn.out]; exact hk) HX.out HN.out O3.out, B3.out⟩
        case measure => simp [intOf]; omega
      · have HN := Lib.hid (newV_no (nmI add turn) (xb, xn) hr)
        have O2 := Lib.hid (HO.out.below B1.out)
        have B2 := Lib.hid (HB.out.then_' B1.out)
        have d1 : xb = true → (xn != 0) = false := fun hb => by rw [bne_eq_false_iff_eq]; exact Classical.byContradiction fun e => hr ⟨hb, e⟩
        have d2 : xb = true → (xn == 0) = true := fun hb => by rw [beq_iff_eq]; exact Classical.byContradiction fun e => hr ⟨hb, e⟩
        have t0 := T.out.c0
        have t1 := T.out.c1
        clear hr
        cases xb
        · clear d1 d2
          have N2 := Lib.hid (At2.newAt (wr.alloc (.cells #[.bool false, .int .i64 xn] 31)) (wr.heap.size + 1) (by simp) (.bool false) (.int .i64 xn) 31)
          go_wp2_with (first
            | (at_builtin; refine appV rfl _ _ rfl w.heap.size (.slice a' k c') ((l.take k).map (newV (nmI add turn))) rfl (O2.out.below (below1 _ _)) _ [(false, xn)] rfl (vs_one (x := (false, xn)) N2.out) (by rw [List.length_map, List.length_take]; simp; omega) (Nat.le_trans B2.out.size (Nat.le_of_lt (lt_new _ _))) ?_; intro v' w3 ho hg hat; obtain ⟨a3, c3, rfl⟩ := SlAt.shape ho.at_; have O3 := Lib.hid ho; have B3 := Lib.hid (Below.grown (Below.new B2.out (.cells #[.bool false, .int .i64 xn] 31)) hg (Nat.le_trans B2.out.size (Nat.le_of_lt (lt_new _ _))) (fun g e => (World.ownsRow.lt O2.out g e).1)); clear ho hg hat)
            | fail)
          go_roundw
          case rel => exact ⟨k + 1, a3, c3, by omega, by go_num, by rw [Nat.min_eq_left (by rw [← hn.out]; exact hk)], named_step (by rw [← hn.out]; exact hk) HX.out HN.out O3.out, B3.out⟩
          case measure => simp [intOf]; omega
        · have d3 := d1 rfl
          have d4 := d2 rfl
          have d5 : (xn = 0) = True := eq_true (by simpa using d4)
          clear d1 d2
          have N2 := Lib.hid (At2.newAt (wr.alloc (.cells #[.bool true, .int .i64 xn] 31)) (wr.heap.size + 1) (by simp) (.bool true) (.int .i64 xn) 31)
          go_wp2_with (first
            | (at_builtin; refine appV rfl _ _ rfl w.heap.size (.slice a' k c') ((l.take k).map (newV (nmI add turn))) rfl (O2.out.below (below1 _ _)) _ [(true, xn)] rfl (vs_one (x := (true, xn)) N2.out) (by rw [List.length_map, List.length_take]; simp; omega) (Nat.le_trans B2.out.size (Nat.le_of_lt (lt_new _ _))) ?_; intro v' w3 ho hg hat; obtain ⟨a3, c3, rfl⟩ := SlAt.shape ho.at_; have O3 := Lib.hid ho; have B3 := Lib.hid (Below.grown (Below.new B2.out (.cells #[.bool true, .int .i64 xn] 31)) hg (Nat.le_trans B2.out.size (Nat.le_of_lt (lt_new _ _))) (fun g e => (World.ownsRow.lt O2.out g e).1)); clear ho hg hat)
            | fail)
          go_roundw
          case rel => exact ⟨k + 1, a3, c3, by omega, by go_num, by rw [Nat.min_eq_left (by rw [← hn.out]; exact hk)], named_step (by rw [← hn.out]; exact hk) HX.out HN.out O3.out, B3.out⟩
          case measure => simp [intOf]; omega
    · obtain rfl : k = n := by omega
      go_wp2
      go_ret
      refine ⟨_, _, _, rfl, ?_, hb⟩
      have := HO.out
      rw [List.take_of_length_le (Nat.le_of_eq hn.out.symm)] at this
      exact this
end Go.Proofs.Ytbnippldclpclaa
