/- word, of the reference: the word at an offset. -/
import Derived.Test.YtfolocahchohdaaDoorWSplit
namespace Go.Proofs.YtfolocahchohdaaDoor
open Go.RowKit WMath

/-- a word, the offset behind it, and whether there is one are handed back -/
def RetWord (w : World) (k : Nat) (o : Option (List UInt8 × Nat)) (e : Ending) (w' : World) : Prop :=
  ∃ (x : ByteArray) (i : Nat) (b : Bool), e = .returned (.tuple #[.string x, .int .i64 (i : Int), .bool b]) ∧ Below w.heap.size w w' ∧ b = o.isSome ∧ ∀ wd m, o = some (wd, m) → bl x = wd ∧ i = k + m

theorem takeWhile_stop (l : List UInt8) (n : Nat) (h1 : (l.take n).all plainB = true) (h2 : ∀ c r, l.drop n = c :: r → plainB c = false) : l.takeWhile plainB = l.take n := by
  induction l generalizing n with
  | nil => simp
  | cons c l ih =>
    match n with
    | 0 =>
      have := h2 c l rfl
      rw [List.takeWhile_cons_of_neg (by simp [this])]
      rfl
    | n + 1 =>
      simp only [List.take_succ_cons, List.all_cons, Bool.and_eq_true] at h1
      rw [List.takeWhile_cons_of_pos h1.1, List.take_succ_cons, ih n h1.2 (by simpa using h2)]

theorem take_extract (s : ByteArray) (a k : Nat) : ((bl s).drop a).take (k - a) = bl (s.extract a k) := (bl_extract s a k).symm
theorem extract_snoc (s : ByteArray) (a k : Nat) (h : a ≤ k) (hk : k < s.size) : bl (s.extract a (k + 1)) = bl (s.extract a k) ++ [s[k]] := by
  rw [bl_extract, bl_extract]
  have h1 : k + 1 - a = (k - a) + 1 := by omega
  have hl : k - a < ((bl s).drop a).length := by rw [List.length_drop, bl_len]; omega
  rw [h1, List.take_succ_eq_append_getElem hl]
  congr 2
  have h3 : ((bl s).drop a)[k - a]? = some s[k] := by
    rw [List.getElem?_drop, show a + (k - a) = k by omega]
    exact bl_get s k hk
  rw [List.getElem?_eq_getElem hl] at h3
  simpa using h3
theorem extract_size (s : ByteArray) (a k : Nat) (h : a ≤ k) (hk : k ≤ s.size) : (bl (s.extract a k)).length = k - a := by
  rw [bl_extract, List.length_take, List.length_drop, bl_len]; omega

theorem word_plain_end (s : ByteArray) (a k : Nat) (h : a ≤ k) (hk : k ≤ s.size) (hh : ((bl s).drop a).head? ≠ some 34) (hp : (bl (s.extract a k)).all plainB = true) (hn : ∀ hlt : k < s.size, plainB s[k] = false) :
    refWordL ((bl s).drop a) = if a < k then some (bl (s.extract a k), k - a) else none := by
  have ht : ((bl s).drop a).takeWhile plainB = bl (s.extract a k) := by
    rw [← take_extract]
    refine takeWhile_stop _ _ (by rw [take_extract]; exact hp) ?_
    intro c r hd
    rw [List.drop_drop, show a + (k - a) = k by omega] at hd
    by_cases hlt : k < s.size
    · rw [bl_drop s k hlt] at hd
      cases hd
      exact hn hlt
    · rw [List.drop_of_length_le (by rw [bl_len]; omega)] at hd
      cases hd
  have hl := extract_size s a k h hk
  unfold refWordL
  rw [if_neg hh, ht]
  by_cases hak : a < k
  · rw [if_pos hak, if_neg (by intro e; rw [e] at hl; simp at hl; omega), hl]
  · rw [if_neg hak, if_pos (by apply List.eq_nil_of_length_eq_zero; omega)]

theorem word_plain_ret {s : ByteArray} {a k : Nat} {w : World} {o : Option (List UInt8 × Nat)} (h : o = if a < k then some (bl (s.extract a k), k - a) else none) (_hl : (bl (s.extract a k)).length = k - a) (_hak : a ≤ k) :
    RetWord w a o (.returned (.tuple #[.string (s.extract a k), .int .i64 (k : Int), .bool (decide (a < k))])) w := by
  refine ⟨_, k, _, rfl, Below.refl _ _, ?_, ?_⟩
  · rw [h]
    by_cases hk : a < k
    · rw [if_pos hk, decide_eq_true hk]; rfl
    · rw [if_neg hk, decide_eq_false hk]; rfl
  · intro wd m ho
    rw [h] at ho
    by_cases hk : a < k
    · rw [if_pos hk] at ho
      simp only [Option.some.injEq, Prod.mk.injEq] at ho
      exact ⟨ho.1, by omega⟩
    · rw [if_neg hk] at ho
      cases ho

set_option maxHeartbeats 1000000 in
set_option maxRecDepth 100000 in
theorem word_plain (s : ByteArray) (a : Nat) (w : World) (hs : s.size ≤ 1000000) (ha : a ≤ s.size) (hh : ((bl s).drop a).head? ≠ some 34) :
    Calls Tryd.prog 23 #[.string s, .int .i64 (a : Int)] w (RetWord w a (refWordL ((bl s).drop a))) := by
  have hd : a < s.size ∨ s.size ≤ a := by omega
  have hq : ∀ h : a < s.size, ((s[a].toNat : Int) != 34) = true := by
    intro h
    rw [bl_drop s a h] at hh
    simp only [List.head?_cons, ne_eq, Option.some.injEq] at hh
    rw [bne_iff_ne]
    intro e
    exact hh (UInt8.toNat_inj.1 (by simpa using (by omega : s[a].toNat = 34)))
  have He := Lib.hid (fun k h1 h2 => word_plain_end s a k h1 h2 hh)
  have HS := Lib.hid (fun k => extract_snoc s a k)
  clear hh
  have H0 : Hid ((bl (s.extract a a)).all plainB = true) := Lib.hid (by rw [bl_extract]; simp)
  rcases hd with hlt | hge
  · have hqa := hq hlt
    have hlt' : ¬ (s.size : Int) ≤ a := by omega
    clear hq
    go_enter Tryd.func23, Tryd.ntmps23
    go_wp2
    go_loop [7] (fun i => ∃ k : Nat, a ≤ k ∧ k ≤ s.size ∧ i = .int .i64 k ∧ (bl (s.extract a k)).all plainB = true) (fun i => s.size - (intOf i).toNat)
    case atStart => exact ⟨a, Nat.le_refl _, ha, rfl, H0.out⟩
    case round =>
      obtain ⟨k, hak, hk, rfl, hall⟩ := hrel
      have Hall := Lib.hid hall
      clear hall
      by_cases hlk : k < s.size
      · cases hp : plainB s[k] with
        | true =>
          have Hp := Lib.hid hp
          clear hp
          go_wp2_with (go_at_call 33; refine (plainByte_any _ _).mono ?_; rintro e w' ⟨rfl, rfl⟩; rw [Hp.out])
          go_round
          case rel => exact ⟨k + 1, by omega, by omega, by go_num, by rw [HS.out k hak hlk, List.all_append, Hall.out]; simp [Hp.out]⟩
          case measure => simp [intOf]; omega
        | false =>
          have Hp := Lib.hid hp
          clear hp
          have Hend := Lib.hid (He.out k hak hk Hall.out (fun _ => Hp.out))
          have hl := extract_size s a k hak hk
          go_wp2_with (go_at_call 33; refine (plainByte_any _ _).mono ?_; rintro e w' ⟨rfl, rfl⟩; rw [Hp.out])
          go_ret3
          exact word_plain_ret Hend.out hl hak
      · have hk' : k = s.size := by omega
        have Hend := Lib.hid (He.out k hak hk Hall.out (fun h => absurd h hlk))
        have hl := extract_size s a k hak hk
        have hlk' : s.size ≤ k := by omega
        clear hk'
        go_wp2
        go_ret3
        exact word_plain_ret Hend.out hl hak
  · have hge' : (s.size : Int) ≤ a := by omega
    clear hq
    go_enter Tryd.func23, Tryd.ntmps23
    go_wp2
    go_loop [7] (fun i => ∃ k : Nat, a ≤ k ∧ k ≤ s.size ∧ i = .int .i64 k ∧ (bl (s.extract a k)).all plainB = true) (fun i => s.size - (intOf i).toNat)
    case atStart => exact ⟨a, Nat.le_refl _, ha, rfl, H0.out⟩
    case round =>
      obtain ⟨k, hak, hk, rfl, hall⟩ := hrel
      have Hall := Lib.hid hall
      clear hall
      by_cases hlk : k < s.size
      · cases hp : plainB s[k] with
        | true =>
          have Hp := Lib.hid hp
          clear hp
          go_wp2_with (go_at_call 33; refine (plainByte_any _ _).mono ?_; rintro e w' ⟨rfl, rfl⟩; rw [Hp.out])
          go_round
          case rel => exact ⟨k + 1, by omega, by omega, by go_num, by rw [HS.out k hak hlk, List.all_append, Hall.out]; simp [Hp.out]⟩
          case measure => simp [intOf]; omega
        | false =>
          have Hp := Lib.hid hp
          clear hp
          have Hend := Lib.hid (He.out k hak hk Hall.out (fun _ => Hp.out))
          have hl := extract_size s a k hak hk
          go_wp2_with (go_at_call 33; refine (plainByte_any _ _).mono ?_; rintro e w' ⟨rfl, rfl⟩; rw [Hp.out])
          go_ret3
          exact word_plain_ret Hend.out hl hak
      · have hk' : k = s.size := by omega
        have Hend := Lib.hid (He.out k hak hk Hall.out (fun h => absurd h hlk))
        have hl := extract_size s a k hak hk
        have hlk' : s.size ≤ k := by omega
        clear hk'
        go_wp2
        go_ret3
        exact word_plain_ret Hend.out hl hak

/-- what the loop over a quoted word knows at byte i -/
def QRel (s : ByteArray) (a i : Nat) (acc : List UInt8) : Prop := refWordL ((bl s).drop a) = refQ ((bl s).drop i) acc (i - a)
theorem refQ_34 (r acc : List UInt8) (n : Nat) : refQ (34 :: r) acc n = some (acc, n + 1) := by unfold refQ; rw [if_pos rfl]
theorem refQ_lf (c : UInt8) (r acc : List UInt8) (n : Nat) (h : c = 10 ∨ c = 13) : refQ (c :: r) acc n = none := by
  unfold refQ
  have : c ≠ 34 := by rcases h with rfl | rfl <;> decide
  rw [if_neg this, if_pos h]
theorem refQ_92nil (acc : List UInt8) (n : Nat) : refQ [92] acc n = none := by unfold refQ; simp
theorem refQ_92 (d : UInt8) (r acc : List UInt8) (n : Nat) : refQ (92 :: d :: r) acc n = match unesc d with | none => none | some x => refQ r (acc ++ [x]) (n + 2) := by
  rw [refQ.eq_def]
  simp only [show ¬ ((92 : UInt8) = 34) by decide, show ¬ ((92 : UInt8) = 10 ∨ (92 : UInt8) = 13) by decide, if_false, if_true]
  cases unesc d <;> rfl
theorem refQ_other (c : UInt8) (r acc : List UInt8) (n : Nat) (h1 : c ≠ 34) (h2 : c ≠ 92) (h3 : c ≠ 10) (h4 : c ≠ 13) : refQ (c :: r) acc n = refQ r (acc ++ [c]) (n + 1) := by
  rw [refQ.eq_def]
  simp only [h1, h2, h3, h4, if_false, or_self]

theorem QRel.start (s : ByteArray) (a : Nat) (ha : a < s.size) (h : s[a] = 34) : QRel s a (a + 1) [] := by
  unfold QRel
  rw [bl_drop s a ha, h]
  unfold refWordL
  simp only [List.head?_cons, if_true, List.tail_cons]
  rw [show a + 1 - a = 1 by omega]
theorem QRel.end_ {s : ByteArray} {a i : Nat} {acc : List UInt8} (h : QRel s a i acc) (hi : s.size ≤ i) : refWordL ((bl s).drop a) = none := by
  rw [h, List.drop_of_length_le (by rw [bl_len]; exact hi)]
  simp [refQ]
theorem QRel.quote {s : ByteArray} {a i : Nat} {acc : List UInt8} (h : QRel s a i acc) (hi : i < s.size) (hc : s[i] = 34) (hai : a < i) : refWordL ((bl s).drop a) = some (acc, i + 1 - a) := by
  rw [h, bl_drop s i hi, hc, refQ_34, show i - a + 1 = i + 1 - a by omega]
theorem QRel.lf {s : ByteArray} {a i : Nat} {acc : List UInt8} (h : QRel s a i acc) (hi : i < s.size) (hc : s[i] = 10 ∨ s[i] = 13) : refWordL ((bl s).drop a) = none := by
  rw [h, bl_drop s i hi, refQ_lf _ _ _ _ hc]
theorem QRel.slashEnd {s : ByteArray} {a i : Nat} {acc : List UInt8} (h : QRel s a i acc) (hi : i < s.size) (hc : s[i] = 92) (he : i + 1 = s.size) : refWordL ((bl s).drop a) = none := by
  rw [h, bl_drop s i hi, hc, List.drop_of_length_le (by rw [bl_len]; omega), refQ_92nil]
theorem QRel.slashNo {s : ByteArray} {a i : Nat} {acc : List UInt8} (h : QRel s a i acc) (hi : i < s.size) (hc : s[i] = 92) (he : i + 1 < s.size) (hu : unesc s[i + 1] = none) : refWordL ((bl s).drop a) = none := by
  rw [h, bl_drop s i hi, hc, bl_drop s (i + 1) he, refQ_92, hu]
theorem QRel.slashYes {s : ByteArray} {a i : Nat} {acc : List UInt8} {x : UInt8} (h : QRel s a i acc) (hi : i < s.size) (hc : s[i] = 92) (he : i + 1 < s.size) (hai : a < i) (hu : unesc s[i + 1] = some x) : QRel s a (i + 2) (acc ++ [x]) := by
  unfold QRel
  rw [h, bl_drop s i hi, hc, bl_drop s (i + 1) he, refQ_92, hu, show i - a + 2 = i + 2 - a by omega]
theorem QRel.other {s : ByteArray} {a i : Nat} {acc : List UInt8} (h : QRel s a i acc) (hi : i < s.size) (hai : a < i) (h1 : s[i] ≠ 34) (h2 : s[i] ≠ 92) (h3 : s[i] ≠ 10) (h4 : s[i] ≠ 13) : QRel s a (i + 1) (acc ++ [s[i]]) := by
  unfold QRel
  rw [h, bl_drop s i hi, refQ_other _ _ _ _ h1 h2 h3 h4, show i - a + 1 = i + 1 - a by omega]

theorem retWord_none {w w' : World} {a : Nat} {o : Option (List UInt8 × Nat)} (x : ByteArray) (i : Nat) (h : o = none) (hb : Below w.heap.size w w') : RetWord w a o (.returned (.tuple #[.string x, .int .i64 (i : Int), .bool false])) w' := by
  subst h
  exact ⟨x, i, false, rfl, hb, rfl, fun _ _ h => by cases h⟩
theorem retWord_some {w w' : World} {a i : Nat} {o : Option (List UInt8 × Nat)} {acc : List UInt8} (h : o = some (acc, i + 1 - a)) (hb : Below w.heap.size w w') (hai : a ≤ i) : RetWord w a o (.returned (.tuple #[.string (bs acc), .int .i64 ((i : Int) + 1), .bool true])) w' := by
  subst h
  refine ⟨_, i + 1, true, rfl, hb, rfl, fun wd m h => ?_⟩
  simp only [Option.some.injEq, Prod.mk.injEq] at h
  exact ⟨by rw [bl_bs]; exact h.1, by omega⟩

set_option maxHeartbeats 2000000 in
set_option maxRecDepth 100000 in
theorem word_quoted (s : ByteArray) (a : Nat) (w : World) (hs : s.size ≤ 1000000) (ha : a < s.size) (hh : s[a] = 34) :
    Calls Tryd.prog 23 #[.string s, .int .i64 (a : Int)] w (RetWord w a (refWordL ((bl s).drop a))) := by
  have hq : ((s[a].toNat : Int) != 34) = false := by rw [hh]; rfl
  have H0 := Lib.hid (QRel.start s a ha hh)
  have ha' : ¬ (s.size : Int) ≤ a := by omega
  clear hh
  go_enter Tryd.func23, Tryd.ntmps23
  go_wp2
  go_loopw [8, 9, 10, 11, 12] (fun v i _ _ _ wr => ∃ k : Nat, ∃ acc : List UInt8, a < k ∧ k ≤ s.size ∧ acc.length ≤ k ∧ i = .int .i64 k ∧ QRel s a k acc ∧ OwnB wr w.heap.size v acc ∧ Below w.heap.size w wr) (fun _ i _ _ _ _ => s.size - (intOf i).toNat)
  case atStart => exact ⟨a + 1, [], by omega, by omega, by simp, by go_num, H0.out, OwnB_nil _ _, Below.refl _ _⟩
  case round =>
    obtain ⟨k, acc, hak, hk, hal, rfl, hqr, hown, hb⟩ := hrel
    have HQ := Lib.hid hqr
    have HO := Lib.hid hown
    have HB := Lib.hid hb
    have hz := hb.size
    clear hqr hown hb hq
    by_cases hlt : k < s.size
    · rcases esc5 s[k] with ⟨h34, _⟩ | ⟨h92, _⟩ | ⟨h10, _⟩ | ⟨h13, _⟩ | ⟨h34, h92, h10, h13, _⟩
      · have t1 : ((s[k].toNat : Int) == 34) = true := u8_t (c := 34) h34
        have HE := Lib.hid (HQ.out.quote hlt h34 hak)
        have hcs := OwnB_string HO.out
        clear h34
        go_wp2
        go_ret3
        exact retWord_some HE.out HB.out (by omega)
      · have t1 : ((s[k].toNat : Int) == 34) = false := u8_f (c := 34) (by rw [h92]; decide)
        have t2 : ((s[k].toNat : Int) == 92) = true := u8_t (c := 92) h92
        have t3 : ((s[k].toNat : Int) == 10) = false := u8_f (c := 10) (by rw [h92]; decide)
        have t4 : ((s[k].toNat : Int) == 13) = false := u8_f (c := 13) (by rw [h92]; decide)
        by_cases he : k + 1 = s.size
        · have HE := Lib.hid (HQ.out.slashEnd hlt h92 he)
          have he2 : ((k : Int) + 1 == (s.size : Int)) = true := by rw [beq_iff_eq]; omega
          clear h92 he
          go_wp2
          go_ret3
          exact retWord_none ⟨#[]⟩ 0 HE.out HB.out
        · have he1 : k + 1 < s.size := by omega
          have he2 : ((k : Int) + 1 == (s.size : Int)) = false := by rw [beq_eq_false_iff_ne]; omega
          cases hu : unesc s[k + 1] with
          | none =>
            have HE := Lib.hid (HQ.out.slashNo hlt h92 he1 hu)
            have Hu := Lib.hid hu
            clear h92 he hu
            go_wp2_with (go_at_call 34; refine (pair_any s[k + 1] _).mono ?_; rintro e wz ⟨rfl, rfl⟩; rw [Hu.out])
            go_ret3
            exact retWord_none ⟨#[]⟩ 0 HE.out HB.out
          | some x =>
            have HE := Lib.hid (HQ.out.slashYes hlt h92 he1 hak hu)
            have Hu := Lib.hid hu
            clear h92 he hu
            go_wp2_with (first | (go_at_call 34; refine (pair_any s[k + 1] _).mono ?_; rintro e wz ⟨rfl, rfl⟩; rw [Hu.out]) | (at_builtin; refine appB1 rfl _ _ rfl w.heap.size u8 _ x rfl HO.out rfl (by omega) (by omega) ?_; intro v3 w3 ho3 hg3 hl3))
            have HO3 := Lib.hid ho3
            have HB3 : Hid (Below w.heap.size w w3) := Lib.hid (HB.out.grown hg3 (by omega) (fun g hg => (World.ownsRow.lt HO.out g hg).1))
            clear ho3 hg3 hl3
            go_roundw
            case rel => exact ⟨k + 2, acc ++ [x], by omega, by omega, by simp; omega, by go_num, HE.out, HO3.out, HB3.out⟩
            case measure => simp [intOf]; omega
      · have t1 : ((s[k].toNat : Int) == 34) = false := u8_f (c := 34) (by rw [h10]; decide)
        have t3 : ((s[k].toNat : Int) == 10) = true := u8_t (c := 10) h10
        have HE := Lib.hid (HQ.out.lf hlt (.inl h10))
        clear h10
        go_wp2
        go_ret3
        exact retWord_none ⟨#[]⟩ 0 HE.out HB.out
      · have t1 : ((s[k].toNat : Int) == 34) = false := u8_f (c := 34) (by rw [h13]; decide)
        have t3 : ((s[k].toNat : Int) == 10) = false := u8_f (c := 10) (by rw [h13]; decide)
        have t4 : ((s[k].toNat : Int) == 13) = true := u8_t (c := 13) h13
        have HE := Lib.hid (HQ.out.lf hlt (.inr h13))
        clear h13
        go_wp2
        go_ret3
        exact retWord_none ⟨#[]⟩ 0 HE.out HB.out
      · have t1 : ((s[k].toNat : Int) == 34) = false := u8_f (c := 34) h34
        have t2 : ((s[k].toNat : Int) == 92) = false := u8_f (c := 92) h92
        have t3 : ((s[k].toNat : Int) == 10) = false := u8_f (c := 10) h10
        have t4 : ((s[k].toNat : Int) == 13) = false := u8_f (c := 13) h13
        have HE := Lib.hid (HQ.out.other hlt hak h34 h92 h10 h13)
        clear h34 h92 h10 h13
        go_wp2_with (at_builtin; refine appB1 rfl _ _ rfl w.heap.size u8 _ s[k] rfl HO.out rfl (by omega) (by omega) ?_; intro v3 w3 ho3 hg3 hl3)
        have HO3 := Lib.hid ho3
        have HB3 : Hid (Below w.heap.size w w3) := Lib.hid (HB.out.grown hg3 (by omega) (fun g hg => (World.ownsRow.lt HO.out g hg).1))
        clear ho3 hg3 hl3
        go_roundw
        case rel => exact ⟨k + 1, acc ++ [s[k]], by omega, by omega, by simp; omega, by go_num, HE.out, HO3.out, HB3.out⟩
        case measure => simp [intOf]; omega
    · have HE := Lib.hid (HQ.out.end_ (by omega))
      go_wp2
      go_ret3
      exact retWord_none ⟨#[]⟩ 0 HE.out HB.out

theorem word_any (s : ByteArray) (a : Nat) (w : World) (hs : s.size ≤ 1000000) (ha : a ≤ s.size) :
    Calls Tryd.prog 23 #[.string s, .int .i64 (a : Int)] w (RetWord w a (refWordL ((bl s).drop a))) := by
  by_cases h : ((bl s).drop a).head? = some 34
  · by_cases hlt : a < s.size
    · refine word_quoted s a w hs hlt ?_
      rw [bl_drop s a hlt] at h
      simpa using h
    · rw [List.drop_of_length_le (by rw [bl_len]; omega)] at h
      cases h
  · exact word_plain s a w hs ha h
end Go.Proofs.YtfolocahchohdaaDoor
