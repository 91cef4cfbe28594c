/- Values with new identifiers. -/
import Derived.Test.YtbnippldclpclaaNExp
namespace Go.Proofs.Ytbnippldclpclaa
open Go.RowKit

/-- the first k values are turned -/
def mixV (f : V → V) (l : List V) (k : Nat) : List V := (l.take k).map f ++ l.drop k
theorem mix_len (f : V → V) (l : List V) (k : Nat) : (mixV f l k).length = l.length := by unfold mixV; simp; omega
theorem mix_at {f : V → V} {l : List V} {k : Nat} {x : V} (h : l[k]? = some x) : (mixV f l k)[k]? = some x := by
  have hk := (List.getElem?_eq_some_iff.1 h).1
  unfold mixV
  rw [List.getElem?_append_right (by simp; omega)]
  simp only [List.length_map, List.length_take, Nat.min_eq_left (Nat.le_of_lt hk), Nat.sub_self, List.getElem?_drop, Nat.add_zero]
  exact h
theorem mix_next {f : V → V} {l : List V} {k : Nat} {x : V} (h : l[k]? = some x) : mixV f l (k + 1) = (mixV f l k).set k (f x) := by
  have hk := (List.getElem?_eq_some_iff.1 h).1
  unfold mixV
  rw [List.set_append_right _ _ (by simp; omega)]
  simp only [List.length_map, List.length_take, Nat.min_eq_left (Nat.le_of_lt hk), Nat.sub_self]
  rw [take_snoc h, List.map_append, List.append_assoc]
  congr 1
  rw [← List.getElem_cons_drop hk]
  rw [List.getElem?_eq_getElem hk] at h
  simp [Option.some.inj h]
theorem set_self {α : Type} {l : List α} {k : Nat} {x : α} (h : l[k]? = some x) : l.set k x = l := by
  apply List.ext_getElem?
  intro i
  by_cases e : k = i
  · subst e
    rw [List.getElem?_set_self (List.getElem?_eq_some_iff.1 h).1, h]
  · rw [List.getElem?_set_ne e]
theorem mix_same {f : V → V} {l : List V} {k : Nat} {x : V} (h : l[k]? = some x) (hf : f x = x) : mixV f l (k + 1) = mixV f l k := by
  rw [mix_next h, hf]
  have := mix_at (f := f) h
  exact set_self this
theorem mix_all (f : V → V) (l : List V) (k : Nat) (h : l.length ≤ k) : mixV f l k = l.map f := by
  unfold mixV
  rw [List.take_of_length_le h, List.drop_eq_nil_of_le h, List.append_nil]
theorem own_storeN {w : World} {B g n c k : Nat} {l : List V} (h : VsOwn w B (.slice (some ⟨g, 0, none⟩) n c) l) (hn : n = l.length) {b : Bool} {x y : Int} (hk : l[k]? = some (b, x)) :
    VsOwn (w.setCell ⟨g, k * 2 + 1, none⟩ (.int .i64 y)) B (.slice (some ⟨g, 0, none⟩) n c) (l.set k (b, y)) ∧ w.grownBy (w.setCell ⟨g, k * 2 + 1, none⟩ (.int .i64 y)) (some g) := by
  subst hn
  obtain ⟨h1, h2⟩ := World.ownsRow.stored h (k * 2 + 1) (.int .i64 y)
  refine ⟨?_, h2⟩
  unfold VsOwn
  rw [List.length_set]
  have hkl := (List.getElem?_eq_some_iff.1 hk).1
  have e := flat_setV l k (b, y)
  rw [if_pos hkl] at e
  rw [← e]
  obtain ⟨h0, _⟩ := vc_at l k _ hk
  have e2 : (l.flatMap vc).set (k * 2) (.bool b) = l.flatMap vc := set_self h0
  rw [e2]
  exact h1

set_option maxHeartbeats 2000000 in
set_option maxRecDepth 100000 in
theorem renamed_any (rb bm : Nat) (u v : Value) (l : List V) (O : List Ob) (R : List Int) (E : List (Int × Int)) (w : World) (hr : At2 w rb u (.map (some bm))) (hm : MapAt w bm E) (hk : Known O R E) (hv : VsAt w v l) (hl : l.length ≤ 1000000) :
    Calls Try.prog 20 #[.pointer (some ⟨rb, 0, none⟩), v] w (RVs w (l.map (turnV R))) := by
  obtain ⟨ua, uc, rfl⟩ := SlAt.shape hv
  have HR := Lib.hid hr
  have HM := Lib.hid hm
  have HK := Lib.hid hk
  have HV := Lib.hid hv
  clear hr hm hk hv
  go_enter Try.func20, Try.ntmps20
  go_wp2_with (at_builtin; refine cpV rfl _ _ rfl rfl _ l rfl HV.out (by omega) ?_; intro a c w1 ho hb)
  have O1 := Lib.hid ho
  have B1 := Lib.hid hb
  have R1 := Lib.hid (HR.out.below hb)
  have M1 := Lib.hid (HM.out.below hb)
  clear ho hb HV
  generalize hn : l.length = n at *
  have HN := Lib.hid hn
  clear hn
  go_loopw [12] (fun kv wr => ∃ k : Nat, kv = .int .i64 k ∧ k ≤ n ∧ VsOwn wr w.heap.size (.slice a n c) (mixV (turnV R) l k) ∧ At2 wr rb u (.map (some bm)) ∧ MapAt wr bm E ∧ Below w.heap.size w wr) (fun kv _ => n - (intOf kv).toNat)
  case atStart => exact ⟨0, rfl, Nat.zero_le _, O1.out, R1.out, M1.out, B1.out⟩
  case round =>
    clear O1 B1 R1 M1
    obtain ⟨k, rfl, hkn, ho, hr, hm, hb⟩ := hrel
    have O2 := Lib.hid ho
    have R2 := Lib.hid hr
    have M2 := Lib.hid hm
    have B2 := Lib.hid hb
    clear ho hr hm hb
    by_cases hlt : k < n
    · obtain ⟨x, hx⟩ : ∃ x, l[k]? = some x := ⟨_, List.getElem?_eq_getElem (by rw [HN.out]; exact hlt)⟩
      obtain ⟨b, o, c', hv, hbl, hc0, hc1⟩ := O2.out.at_.elem (mix_at hx)
      obtain ⟨rfl, hv2, rfl⟩ := Value.slice.inj hv
      obtain rfl : o = 0 := by
        rcases O2.out.2 with ⟨e, _⟩ | ⟨g, cap, cur, e, _⟩
        · cases e
        · obtain ⟨e, -, -⟩ := Value.slice.inj e
          exact congrArg Addr.off (Option.some.inj e)
      obtain ⟨xb, xn⟩ := x
      have HX := Lib.hid hx
      have hd : (k : Int) < (n : Int) := by omega
      simp only [Nat.zero_add] at hc0 hc1
      clear hv hv2 hx
      have T3 := Lib.hid (At2.new wr (.bool xb) (.int .i64 xn) 31)
      have b3 := below1 wr (.cells #[.bool xb, .int .i64 xn] 31)
      have O3 := Lib.hid (O2.out.below b3)
      have R3 := Lib.hid (R2.out.below b3)
      have M3 := Lib.hid (M2.out.below b3)
      have B3 := Lib.hid (B2.out.then_' b3)
      have hne : b ≠ wr.heap.size := by omega
      cases xb with
      | false =>
        clear b3
        go_wp2_with fail
        go_roundw
        case rel => exact ⟨k + 1, by go_num, by omega, by rw [mix_same HX.out (by unfold turnV; rw [if_neg (by simp)])]; exact O3.out, R3.out, M3.out, B3.out⟩
        case measure => simp [intOf]; omega
      | true =>
        go_wp2_with fail
        generalize wr.alloc (.cells #[.bool true, .int .i64 xn] 31) = v1 at *
        have hlook := (M3.out.below (below_drew v1)).look (P := Try.prog) (T := 52) Try.underlying52 Try.underlying2 (zero64 _) xn
        rw [HK.out.num] at hlook
        have r1 := R3.out.c1
        have t1 := T3.out.c1
        have q1 : v1.cell? ⟨b, k * 2 + 1, none⟩ = some (.int .i64 xn) := by
          obtain ⟨b', o', c'', hv', _, _, h1⟩ := O3.out.at_.elem (mix_at (f := turnV R) HX.out)
          obtain ⟨e, -, -⟩ := Value.slice.inj hv'
          obtain ⟨rfl, rfl, -⟩ := Addr.mk.inj (Option.some.inj e)
          simpa using h1
        have hrow := O3.out
        unfold VsOwn at hrow
        rw [mix_len, HN.out] at hrow
        have q2 : v1.frozen? ⟨b, k * 2 + 1, none⟩ = false := World.ownsRow.frozenAt hrow _
        have hbw := (World.ownsRow.lt hrow b rfl).1
        have hrb := HR.out.lt
        have hmb := HM.out.lt
        obtain ⟨o1, o2⟩ := own_storeN (y := place R xn) O3.out (by rw [mix_len]; exact HN.out.symm) (mix_at (f := turnV R) HX.out)
        have O4 := Lib.hid o1
        have R4 := Lib.hid (R3.out.far (p := ⟨b, k * 2 + 1, none⟩) (show rb ≠ b by omega) (.int .i64 (place R xn)))
        have M4 := Lib.hid (M3.out.set (p := ⟨b, k * 2 + 1, none⟩) (show b ≠ bm by omega) (.int .i64 (place R xn)))
        have B4 := Lib.hid (B3.out.setCell (p := ⟨b, k * 2 + 1, none⟩) hbw (.int .i64 (place R xn)))
        clear o1 o2 hrow b3
        go_region
        go_wp2_with fail
        go_roundw
        case rel => exact ⟨k + 1, by go_num, by omega, by rw [mix_next HX.out]; exact VsOwn.below O4.out (below_drew _), R4.out.drew, M4.out.below (below_drew _), B4.out.drew⟩
        case measure => simp [intOf]; omega
    · obtain rfl : k = n := by omega
      go_wp2_with fail
      go_ret
      have := O2.out
      rw [mix_all _ _ _ (Nat.le_of_eq HN.out)] at this
      exact ⟨_, _, _, rfl, this, B2.out⟩
end Go.Proofs.Ytbnippldclpclaa
