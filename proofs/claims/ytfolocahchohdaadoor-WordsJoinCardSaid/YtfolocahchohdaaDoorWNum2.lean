/- Number: the number of a string, or the error. -/
import Derived.Test.YtfolocahchohdaaDoorWNum
namespace Go.Proofs.YtfolocahchohdaaDoor
open Go.RowKit WMath

theorem foldD_nil (a : Nat) : foldD a [] = a := by unfold foldD; rw [List.foldl_nil]
theorem foldD_cons (a : Nat) (c : UInt8) (l : List UInt8) : foldD a (c :: l) = foldD (stepD a c) l := by unfold foldD; rw [List.foldl_cons]
theorem foldD_snoc (a : Nat) (l : List UInt8) (c : UInt8) : foldD a (l ++ [c]) = stepD (foldD a l) c := by unfold foldD; rw [List.foldl_append, List.foldl_cons, List.foldl_nil]
theorem foldD_ge (l : List UInt8) (a : Nat) : a ≤ foldD a l := by
  induction l generalizing a with
  | nil => rw [foldD_nil]; exact Nat.le_refl _
  | cons c l ih =>
    rw [foldD_cons]
    have := ih (stepD a c)
    unfold stepD at *
    omega
def big63 : Nat := 9223372036854775808
def top64 : Nat := 18446744073709551615
theorem parseUintM_dig (l : List UInt8) (a : Nat) (h : l.all digB = true) (ha : a ≤ top64) : Lib.parseUintM top64 a l = if foldD a l ≤ top64 then .ok (foldD a l) else .range := by
  induction l generalizing a with
  | nil => rw [foldD_nil, if_pos ha, Lib.parseUintM]
  | cons c l ih =>
    simp only [List.all_cons, Bool.and_eq_true] at h
    have hd := (digB_iff c).1 h.1
    have hge := foldD_ge l (stepD a c)
    rw [foldD_cons]
    unfold Lib.parseUintM
    rw [if_pos hd]
    have hs : a * 10 + (c.toNat - 48) = stepD a c := by unfold stepD; omega
    rw [hs]
    by_cases h1 : 1844674407370955162 ≤ a
    · rw [if_pos h1, if_neg (by simp only [top64]; omega)]
    · rw [if_neg h1]
      by_cases h2 : top64 < stepD a c
      · rw [if_pos h2, if_neg (by omega)]
      · rw [if_neg h2, ih _ h.2 (by omega)]

/-- Number, with the error's number -/
def numR (l : List UInt8) : Int × Nat :=
  if isNumB l = true then
    if l.head? = some 45 then (if valD (numD l) ≤ big63 then (-(valD (numD l) : Int), 0) else (0, 2))
    else (if valD (numD l) < big63 then ((valD (numD l) : Int), 0) else (0, 2))
  else (0, 4)
theorem numR_no (l : List UInt8) (h : isNumB l = false) : numR l = (0, 4) := by unfold numR; rw [if_neg (by simp [h])]

theorem numD_digs (l : List UInt8) (h : isNumB l = true) : (numD l).all digB = true ∧ numD l ≠ [] := by
  unfold isNumB at h
  simp only [Bool.and_eq_true, Bool.not_eq_true'] at h
  obtain ⟨h1, h2⟩ := h
  refine ⟨?_, fun e => by rw [e] at h1; cases h1⟩
  by_cases hh : (numD l).head? = some 48
  · rw [if_pos hh] at h2
    have := of_decide_eq_true h2
    subst this
    decide
  · rw [if_neg hh] at h2
    exact h2
theorem hM64 : (2 ^ 64 - 1 : Nat) = top64 := by simp only [top64]
theorem hB64 : (2 ^ (64 - 1) : Nat) = big63 := by simp only [big63]
theorem top_big {n : Nat} (h : ¬ n ≤ top64) : ¬ n ≤ big63 := by simp only [top64, big63] at *; omega
theorem parseUintB_dig (d : List UInt8) (hd : d.all digB = true) (hn : d ≠ []) : Lib.parseUintB 64 d = if valD d ≤ top64 then .ok (valD d) else .range := by
  unfold Lib.parseUintB
  rw [if_neg hn, hM64, parseUintM_dig d 0 hd (Nat.zero_le _)]
  unfold valD
  rfl
theorem numR_neg (r : List UInt8) (h : isNumB (45 :: r) = true) : numR (45 :: r) = if valD r ≤ big63 then (-(valD r : Int), 0) else (0, 2) := by
  unfold numR
  rw [if_pos h]
  simp only [List.head?_cons, if_true, numD, List.tail_cons]
theorem numR_pos (c : UInt8) (r : List UInt8) (hc : c ≠ 45) (h : isNumB (c :: r) = true) : numR (c :: r) = if valD (c :: r) < big63 then ((valD (c :: r) : Int), 0) else (0, 2) := by
  unfold numR
  rw [if_pos h]
  simp only [List.head?_cons, Option.some.injEq, hc, if_false, numD]
theorem parseIntB_neg (r : List UInt8) (u : Nat) (h : Lib.parseUintB 64 r = .ok u) : Lib.parseIntB 64 (45 :: r) = if big63 < u then .range else .ok (-(u : Int)) := by
  unfold Lib.parseIntB
  have e : (45 : UInt8).toNat = 45 := rfl
  simp only [e, or_true, if_true, h, not_true_eq_false, false_and, if_false, true_and, hB64]
theorem parseIntB_neg' (r : List UInt8) (h : Lib.parseUintB 64 r = .range) : Lib.parseIntB 64 (45 :: r) = .range := by
  unfold Lib.parseIntB
  have e : (45 : UInt8).toNat = 45 := rfl
  simp only [e, or_true, if_true, h]
theorem parseIntB_pos (c : UInt8) (r : List UInt8) (u : Nat) (h1 : c.toNat ≠ 43) (h2 : c.toNat ≠ 45) (h : Lib.parseUintB 64 (c :: r) = .ok u) : Lib.parseIntB 64 (c :: r) = if big63 ≤ u then .range else .ok (u : Int) := by
  unfold Lib.parseIntB
  simp only [h1, h2, or_self, if_false, h, not_false_eq_true, false_and, true_and, hB64]
theorem parseIntB_pos' (c : UInt8) (r : List UInt8) (h1 : c.toNat ≠ 43) (h2 : c.toNat ≠ 45) (h : Lib.parseUintB 64 (c :: r) = .range) : Lib.parseIntB 64 (c :: r) = .range := by
  unfold Lib.parseIntB
  simp only [h1, h2, or_self, if_false, h]
theorem parse_num (l : List UInt8) (h : isNumB l = true) : Lib.parseIntB 64 l = if (numR l).2 = 0 then .ok (numR l).1 else .range := by
  obtain ⟨h1, h2⟩ := numD_digs l h
  match l, h, h1, h2 with
  | c :: r, h, h1, h2 =>
    by_cases hc : c = 45
    · subst hc
      have hd : numD (45 :: r) = r := rfl
      rw [hd] at h1 h2
      have hU := parseUintB_dig r h1 h2
      rw [numR_neg r h]
      by_cases ht : valD r ≤ top64
      · rw [if_pos ht] at hU
        rw [parseIntB_neg r _ hU]
        by_cases hb : valD r ≤ big63
        · rw [if_neg (by omega), if_pos hb]; rfl
        · rw [if_pos (by omega), if_neg hb]; rfl
      · rw [if_neg ht] at hU
        rw [parseIntB_neg' r hU, if_neg (top_big ht)]
        rfl
    · have hd : numD (c :: r) = c :: r := by unfold numD; rw [if_neg (by simpa using hc)]
      rw [hd] at h1 h2
      have hdig : digB c = true := by simp only [List.all_cons, Bool.and_eq_true] at h1; exact h1.1
      have hcd := (digB_iff c).1 hdig
      have hU := parseUintB_dig (c :: r) h1 h2
      rw [numR_pos c r hc h]
      by_cases ht : valD (c :: r) ≤ top64
      · rw [if_pos ht] at hU
        rw [parseIntB_pos c r _ (by omega) (by omega) hU]
        by_cases hb : valD (c :: r) < big63
        · rw [if_neg (by omega), if_pos hb]; rfl
        · rw [if_pos (by omega), if_neg hb]; rfl
      · rw [if_neg ht] at hU
        have := top_big ht
        have hb : ¬ valD (c :: r) < big63 := by omega
        rw [parseIntB_pos' c r (by omega) (by omega) hU, if_neg hb]
        rfl
theorem numR_two (l : List UInt8) (h : isNumB l = true) : (numR l).2 = 0 ∨ numR l = (0, 2) := by
  unfold numR
  rw [if_pos h]
  split
  · split
    · left; rfl
    · right; rfl
  · split
    · left; rfl
    · right; rfl
theorem numR_bounds (l : List UInt8) : -9223372036854775808 ≤ (numR l).1 ∧ (numR l).1 ≤ 9223372036854775807 := by
  unfold numR
  split
  · split
    · split
      · rename_i h; unfold big63 at h; simp only; omega
      · simp
    · split
      · rename_i h; unfold big63 at h; simp only; omega
      · simp
  · simp

/-- what the library's variables hold -/
structure Glob (w : World) : Prop where
  m : ∃ m : Int, w.cell? ⟨0, 0, none⟩ = some (.int .i64 m)
  er : ∃ (t : TypeId) (p : Value), w.var? Tryd.prog "strconv.ErrRange" = some #[.iface t p]
  tab : Lib.TabIs Tryd.prog w "internal/strconv.uint64pow10" .u64 Lib.pow10Tab
  sz1 : 2 < w.heap.size
  sz2 : 3 < w.heap.size
theorem Glob.below {w w' : World} (h : Glob w) (hb : Below w.heap.size w w') : Glob w' := by
  have hs1 := h.sz1
  have hs2 := h.sz2
  have hz := hb.size
  refine ⟨?_, ?_, ?_, by omega, by omega⟩
  · obtain ⟨m, hm⟩ := h.m
    exact ⟨m, (hb.cell (World.block_lt_of_cell? w _ hm)).trans hm⟩
  · obtain ⟨t, p, hp⟩ := h.er
    exact ⟨t, p, var?_below (g := 2) hb (by kernel_rfl) (by omega) hp⟩
  · exact var?_below (g := 3) hb (by kernel_rfl) (by omega) h.tab

/-- a number and an error's number are handed back -/
def RetIN (w : World) (r : Int × Nat) (e : Ending) (w' : World) : Prop := e = .returned (.tuple #[.int .i64 r.1, .int .i64 (r.2 : Int)]) ∧ Below w.heap.size w w'

theorem below_bytesWorld (w : World) (e : TypeId) (t : ByteArray) : Below w.heap.size w (Lib.bytesWorld w e t) :=
  ⟨by unfold Lib.bytesWorld World.freeze; rfl, by unfold Lib.bytesWorld World.freeze; rfl, by unfold Lib.bytesWorld World.freeze; rfl, by rw [Lib.bytesWorld_size]; omega, fun k hk => Lib.bytesWorld_at_old w e t k hk⟩

set_option maxHeartbeats 1000000 in
set_option maxRecDepth 100000 in
theorem number_any (s : ByteArray) (w : World) (hs : s.size ≤ 1000) (hg : Glob w) :
    Calls Tryd.prog 18 #[.string s] w (RetIN w (numR (bl s))) := by
  have HG := Lib.hid hg
  clear hg
  cases hn : isNumB (bl s) with
  | false =>
    rw [numR_no _ hn]
    have Hn := Lib.hid hn
    clear hn
    go_enter Tryd.func18, Tryd.ntmps18
    go_wp2_with (go_at_call 28; refine (isNumeral_any s w hs).mono ?_; rw [Hn.out]; rintro e w1 ⟨rfl, hb⟩)
    go_ret2
    exact ⟨rfl, hb⟩
  | true =>
    have hp := parse_num (bl s) hn
    have ht := numR_two (bl s) hn
    have Hn := Lib.hid hn
    clear hn
    rcases ht with hc | hc
    · obtain ⟨v, hv⟩ : ∃ v, numR (bl s) = (v, 0) := ⟨(numR (bl s)).1, by rw [← hc]⟩
      rw [hv, if_pos rfl] at hp
      rw [hv]
      clear hc hv
      have Hp := Lib.hid hp
      clear hp
      go_enter Tryd.func18, Tryd.ntmps18
      go_wp2_with (first | (go_at_call 28; refine (isNumeral_any s w hs).mono ?_; rw [Hn.out]; rintro e w1 ⟨rfl, hb⟩; have HB := Lib.hid hb; clear hb) | (go_at_call 29; refine (Tryd.strconv_ParseInt_10_at64_ok s (by omega) v Hp.out w1).mono ?_; rintro e w2 ⟨rfl, hw2⟩; have HB2 : Hid (Below w1.heap.size w1 w2) := (by rcases hw2 with rfl | ⟨t, rfl⟩; exact Below.refl _ _; exact below_bytesWorld _ _ _); clear hw2))
      go_ret2
      exact ⟨rfl, HB.out.trans (HB2.out.mono HB.out.size)⟩
    · rw [hc] at hp ⊢
      rw [if_neg (by decide)] at hp
      have Hp := Lib.hid hp
      clear hp hc
      obtain ⟨tp, pv, her⟩ := HG.out.er
      have HE := Lib.hid her
      have hsz := HG.out.sz1
      clear her
      go_enter Tryd.func18, Tryd.ntmps18
      go_wp2_with (first | (go_at_call 28; refine (isNumeral_any s w hs).mono ?_; rw [Hn.out]; rintro e w1 ⟨rfl, hb⟩; have HB := Lib.hid hb; clear hb) | (go_at_call 29; refine (Tryd.strconv_ParseInt_10_at64_range_var s (by omega) Hp.out tp pv w1 (var?_below (g := 2) HB.out (by kernel_rfl) (by omega) HE.out)).mono ?_; rintro e w2 ⟨N, rfl, _, _, hb2⟩; have HB2 := Lib.hid hb2; clear hb2))
      go_ret2
      exact ⟨rfl, HB.out.trans (HB2.out.mono HB.out.size)⟩
end Go.Proofs.YtfolocahchohdaaDoor
