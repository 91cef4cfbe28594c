/- The state machine that reads a line: keep, plain, quoted, pair, end, next. -/
import Derived.Test.YtfolocahchohdaaDoorWSame
import Derived.RegionTactic
namespace Go.Proofs.YtfolocahchohdaaDoor
open Go.RowKit WMath

/-- block r is a reader with state st, word wd, words ws; the word and the words lie from block B on -/
structure Rd (w : World) (B r : Nat) (st : Nat) (v1 v2 : Value) (wd : List UInt8) (ws : List (List UInt8)) : Prop where
  blk : w.heap[r]? = some (.cells #[.int .i64 (st : Int), v1, v2] 57 (0, 0))
  own1 : OwnB w B v1 wd
  own2 : OwnS w B v2 ws
  lt : r < B
  hB : B ≤ w.heap.size

/-- below block B, nothing but block r has changed -/
structure Others (B r : Nat) (w w' : World) : Prop where
  os : w'.os = w.os
  tape : w'.tape = w.tape
  output : w'.output = w.output
  size : w.heap.size ≤ w'.heap.size
  block : ∀ k, k < B → k ≠ r → w'.heap[k]? = w.heap[k]?
theorem Others.refl (B r : Nat) (w : World) : Others B r w w := ⟨rfl, rfl, rfl, Nat.le_refl _, fun _ _ _ => rfl⟩
theorem Others.trans {B r : Nat} {a b c : World} (h : Others B r a b) (k : Others B r b c) : Others B r a c :=
  ⟨k.os.trans h.os, k.tape.trans h.tape, k.output.trans h.output, Nat.le_trans h.size k.size, fun i hi hr => (k.block i hi hr).trans (h.block i hi hr)⟩
theorem Others.grown {B r : Nat} {w w' : World} {row : Option Nat} (hg : w.grownBy w' row) (hB : B ≤ w.heap.size) (hr : ∀ k, row = some k → B ≤ k) : Others B r w w' :=
  ⟨hg.os, hg.tape, hg.output, hg.size, fun k hk _ => hg.block k (by omega) (fun e => by have := hr k e.symm; omega)⟩
theorem Others.setCell {B r : Nat} {w : World} (o : Nat) (u : Value) : Others B r w (w.setCell ⟨r, o, none⟩ u) :=
  ⟨rfl, rfl, rfl, by simp [World.setCell], fun k _ hne => Below.heap_setCell _ _ _ _ (by simpa using hne)⟩
theorem Others.below {B r : Nat} {w w' : World} (h : Below B w w') : Others B r w w' := ⟨h.os, h.tape, h.output, h.size, fun k hk _ => h.block k hk⟩

section
variable {w : World} {B r st : Nat} {v1 v2 : Value} {wd : List UInt8} {ws : List (List UInt8)}
theorem Rd.c0 (h : Rd w B r st v1 v2 wd ws) : w.cell? ⟨r, 0, none⟩ = some (.int .i64 (st : Int)) := by simp [World.cell?, h.blk]
theorem Rd.c1 (h : Rd w B r st v1 v2 wd ws) : w.cell? ⟨r, 1, none⟩ = some v1 := by simp [World.cell?, h.blk]
theorem Rd.c2 (h : Rd w B r st v1 v2 wd ws) : w.cell? ⟨r, 2, none⟩ = some v2 := by simp [World.cell?, h.blk]
theorem Rd.f (h : Rd w B r st v1 v2 wd ws) (o : Nat) : w.frozen? ⟨r, o, none⟩ = false := by simp [World.frozen?, h.blk]
theorem Rd.rlt (h : Rd w B r st v1 v2 wd ws) : r < w.heap.size := Nat.lt_of_lt_of_le h.lt h.hB

theorem ownsRow_setCell {w : World} {base : Nat} {e : TypeId} {size : Nat} {v : Value} {n : Nat} {xs : List Value} (h : w.ownsRow base e size v n xs) {r : Nat} (hr : r < base) (o : Nat) (u : Value) : (w.setCell ⟨r, o, none⟩ u).ownsRow base e size v n xs :=
  ownsRow_setCell_below h (by simpa using hr) u

/-- a world in which nothing but the row of v1 has changed -/
theorem Rd.grown1 (h : Rd w B r st v1 v2 wd ws) {w' : World} (hg : w.grownBy w' v1.ownBlock) : w'.heap[r]? = some (.cells #[.int .i64 (st : Int), v1, v2] 57 (0, 0)) ∧ OwnS w' B v2 ws := by
  refine ⟨(hg.block r h.rlt (fun e => ?_)).trans h.blk, World.ownsRow.kept h.own2 hg ?_⟩
  · have := (World.ownsRow.lt h.own1 r e.symm).1
    have := h.lt
    omega
  · cases hv : v2.ownBlock with
    | none => exact .inl rfl
    | some g =>
      right
      intro e
      have e1 : v1.ownBlock = some g := e.symm
      rcases h.own2.2 with ⟨rfl, _⟩ | ⟨g2, cap, cur, rfl, _, hgg, _⟩
      · simp [Value.ownBlock] at hv
      · rcases h.own1.2 with ⟨rfl, _⟩ | ⟨g1, cap1, cur1, rfl, _, hgg1, _⟩
        · simp [Value.ownBlock] at e1
        · simp [Value.ownBlock] at e1 hv
          subst e1 hv
          rw [hgg1] at hgg
          simp at hgg
theorem Rd.grown2 (h : Rd w B r st v1 v2 wd ws) {w' : World} (hg : w.grownBy w' v2.ownBlock) : w'.heap[r]? = some (.cells #[.int .i64 (st : Int), v1, v2] 57 (0, 0)) ∧ OwnB w' B v1 wd := by
  refine ⟨(hg.block r h.rlt (fun e => ?_)).trans h.blk, World.ownsRow.kept h.own1 hg ?_⟩
  · have := (World.ownsRow.lt h.own2 r e.symm).1
    have := h.lt
    omega
  · cases hv : v1.ownBlock with
    | none => exact .inl rfl
    | some g =>
      right
      intro e
      have e1 : v2.ownBlock = some g := e.symm
      rcases h.own1.2 with ⟨rfl, _⟩ | ⟨g2, cap, cur, rfl, _, hgg, _⟩
      · simp [Value.ownBlock] at hv
      · rcases h.own2.2 with ⟨rfl, _⟩ | ⟨g1, cap1, cur1, rfl, _, hgg1, _⟩
        · simp [Value.ownBlock] at e1
        · simp [Value.ownBlock] at e1 hv
          subst e1 hv
          rw [hgg1] at hgg
          simp at hgg

/-- a store into the word's field -/
theorem set1 {w' : World} (hb : w'.heap[r]? = some (.cells #[.int .i64 (st : Int), v1, v2] 57 (0, 0))) (u : Value) :
    (w'.setCell ⟨r, 1, none⟩ u).heap[r]? = some (.cells #[.int .i64 (st : Int), u, v2] 57 (0, 0)) := by
  simp [World.setCell, Array.getElem?_modify, hb]
theorem set2 {w' : World} (hb : w'.heap[r]? = some (.cells #[.int .i64 (st : Int), v1, v2] 57 (0, 0))) (u : Value) :
    (w'.setCell ⟨r, 2, none⟩ u).heap[r]? = some (.cells #[.int .i64 (st : Int), v1, u] 57 (0, 0)) := by
  simp [World.setCell, Array.getElem?_modify, hb]
theorem set0 {w' : World} (hb : w'.heap[r]? = some (.cells #[.int .i64 (st : Int), v1, v2] 57 (0, 0))) (k : Nat) :
    (w'.setCell ⟨r, 0, none⟩ (.int .i64 (k : Int))).heap[r]? = some (.cells #[.int .i64 (k : Int), v1, v2] 57 (0, 0)) := by
  simp [World.setCell, Array.getElem?_modify, hb]
end

/-- a state is handed back; the reader's word and words are now wd and ws, its own state is as it was -/
def RdRes (B r st t : Nat) (wd : List UInt8) (ws : List (List UInt8)) (w : World) (e : Ending) (w' : World) : Prop :=
  e = .returned (.int .i64 (t : Int)) ∧ ∃ v1 v2, Rd w' B r st v1 v2 wd ws ∧ Others B r w w'

set_option maxHeartbeats 1000000 in
set_option maxRecDepth 100000 in
theorem keep_any (B r st t : Nat) (v1 v2 : Value) (wd : List UInt8) (ws : List (List UInt8)) (c : UInt8) (w : World) (h : Rd w B r st v1 v2 wd ws) (hl : wd.length ≤ 1048576) :
    Calls Tryd.prog 58 #[.pointer (some ⟨r, 0, none⟩), .int .u8 (c.toNat : Int), .int .i64 (t : Int)] w (RdRes B r st t (wd ++ [c]) ws w) := by
  have h1 := h.c1
  have hB := h.hB
  have hlt := h.rlt
  have H := Lib.hid h
  clear h
  go_enter Tryd.func58, Tryd.ntmps58
  go_wp2_with (at_builtin; refine appB1 rfl _ _ rfl B v1 _ c rfl H.out.own1 rfl (by omega) hB ?_; intro v3 w3 ho3 hg3 hl3; have hc3 : w3.cell? ⟨r, 1, none⟩ = some v1 := (by simp [World.cell?, (H.out.grown1 hg3).1]); have hf3 : w3.frozen? ⟨r, 1, none⟩ = false := (by simp [World.frozen?, (H.out.grown1 hg3).1]); obtain ⟨a3, n3, c3, rfl, hn3⟩ := OwnB_shape ho3; have HO3 := Lib.hid ho3; have HG3 := Lib.hid hg3; clear ho3 hg3 hl3)
  go_ret
  have hg := (H.out.grown1 HG3.out)
  refine ⟨rfl, _, v2, ⟨set1 hg.1 _, ownsRow_setCell HO3.out H.out.lt _ _, ownsRow_setCell hg.2 H.out.lt _ _, H.out.lt, by have := HG3.out.size; simp [World.setCell]; omega⟩, ?_⟩
  exact (Others.grown HG3.out hB (fun g hg => (World.ownsRow.lt H.out.own1 g hg).1)).trans (Others.setCell 1 _)

/-- one step of the machine: state, word and words behind the byte -/
theorem Rd.res {B r st t : Nat} {v1 v2 : Value} {wd : List UInt8} {ws : List (List UInt8)} {w : World} (h : Rd w B r st v1 v2 wd ws) : RdRes B r st t wd ws w (.returned (.int .i64 (t : Int))) w :=
  ⟨rfl, v1, v2, h, Others.refl _ _ _⟩

set_option maxHeartbeats 1000000 in
set_option maxRecDepth 100000 in
theorem rplain_any (B r st : Nat) (v1 v2 : Value) (wd : List UInt8) (ws : List (List UInt8)) (c : UInt8) (w : World) (h : Rd w B r st v1 v2 wd ws) (hl : wd.length ≤ 1048576) :
    Calls Tryd.prog 43 #[.pointer (some ⟨r, 0, none⟩), .int .u8 (c.toNat : Int)] w (RdRes B r st (plainStep c wd ws).1 (plainStep c wd ws).2.1 (plainStep c wd ws).2.2 w) := by
  have H := Lib.hid h
  clear h
  cases hp : plainB c with
  | true =>
    have he : plainStep c wd ws = (1, wd ++ [c], ws) := by unfold plainStep; rw [if_pos hp]
    rw [he]
    have Hp := Lib.hid hp
    clear hp he
    go_enter Tryd.func43, Tryd.ntmps43
    go_wp2_with (first | (go_at_call 47; refine (isPlainByte_any _ _).mono ?_; rintro e w' ⟨rfl, rfl⟩; rw [Hp.out]) | (go_at_call 58; refine (keep_any B r st 1 v1 v2 wd ws c _ H.out hl).mono ?_; rintro e w' ⟨rfl, hres⟩))
    go_ret
    exact ⟨rfl, hres⟩
  | false =>
    have he : plainStep c wd ws = (5, wd, ws) := by unfold plainStep; rw [if_neg (by simp [hp])]
    rw [he]
    have Hp := Lib.hid hp
    clear hp he
    go_enter Tryd.func43, Tryd.ntmps43
    go_wp2_with (go_at_call 47; refine (isPlainByte_any _ _).mono ?_; rintro e w' ⟨rfl, rfl⟩; rw [Hp.out])
    go_ret
    exact H.out.res

def quotedStep (c : UInt8) (w : List UInt8) (ws : List (List UInt8)) : RS := if c = 34 then (4, w, ws) else if c = 92 then (3, w, ws) else if c = 10 ∨ c = 13 then (5, w, ws) else (2, w ++ [c], ws)
def pairStep (c : UInt8) (w : List UInt8) (ws : List (List UInt8)) : RS := match unesc c with | some m => (2, w ++ [m], ws) | none => (5, w, ws)

set_option maxHeartbeats 1000000 in
set_option maxRecDepth 100000 in
theorem rquoted_any (B r st : Nat) (v1 v2 : Value) (wd : List UInt8) (ws : List (List UInt8)) (c : UInt8) (w : World) (h : Rd w B r st v1 v2 wd ws) (hl : wd.length ≤ 1048576) :
    Calls Tryd.prog 44 #[.pointer (some ⟨r, 0, none⟩), .int .u8 (c.toNat : Int)] w (RdRes B r st (quotedStep c wd ws).1 (quotedStep c wd ws).2.1 (quotedStep c wd ws).2.2 w) := by
  have H := Lib.hid h
  clear h
  rcases esc5 c with ⟨h34, _⟩ | ⟨h92, _⟩ | ⟨h10, _⟩ | ⟨h13, _⟩ | ⟨h34, h92, h10, h13, _⟩
  · have t1 : ((c.toNat : Int) == 34) = true := u8_t (c := 34) h34
    have he : quotedStep c wd ws = (4, wd, ws) := by unfold quotedStep; rw [if_pos h34]
    rw [he]
    clear h34 he
    go_enter Tryd.func44, Tryd.ntmps44
    go_wp2
    go_ret
    exact H.out.res
  · have t1 : ((c.toNat : Int) == 34) = false := u8_f (c := 34) (by rw [h92]; decide)
    have t2 : ((c.toNat : Int) == 92) = true := u8_t (c := 92) h92
    have he : quotedStep c wd ws = (3, wd, ws) := by unfold quotedStep; rw [h92]; rfl
    rw [he]
    clear h92 he
    go_enter Tryd.func44, Tryd.ntmps44
    go_wp2
    go_ret
    exact H.out.res
  · have t1 : ((c.toNat : Int) == 34) = false := u8_f (c := 34) (by rw [h10]; decide)
    have t2 : ((c.toNat : Int) == 92) = false := u8_f (c := 92) (by rw [h10]; decide)
    have t3 : ((c.toNat : Int) == 10) = true := u8_t (c := 10) h10
    have he : quotedStep c wd ws = (5, wd, ws) := by unfold quotedStep; rw [h10]; rfl
    rw [he]
    clear h10 he
    go_enter Tryd.func44, Tryd.ntmps44
    go_wp2
    go_ret
    exact H.out.res
  · have t1 : ((c.toNat : Int) == 34) = false := u8_f (c := 34) (by rw [h13]; decide)
    have t2 : ((c.toNat : Int) == 92) = false := u8_f (c := 92) (by rw [h13]; decide)
    have t3 : ((c.toNat : Int) == 10) = false := u8_f (c := 10) (by rw [h13]; decide)
    have t4 : ((c.toNat : Int) == 13) = true := u8_t (c := 13) h13
    have he : quotedStep c wd ws = (5, wd, ws) := by unfold quotedStep; rw [h13]; rfl
    rw [he]
    clear h13 he
    go_enter Tryd.func44, Tryd.ntmps44
    go_wp2
    go_ret
    exact H.out.res
  · have t1 : ((c.toNat : Int) == 34) = false := u8_f (c := 34) h34
    have t2 : ((c.toNat : Int) == 92) = false := u8_f (c := 92) h92
    have t3 : ((c.toNat : Int) == 10) = false := u8_f (c := 10) h10
    have t4 : ((c.toNat : Int) == 13) = false := u8_f (c := 13) h13
    have he : quotedStep c wd ws = (2, wd ++ [c], ws) := by unfold quotedStep; simp [h34, h92, h10, h13]
    rw [he]
    clear h34 h92 h10 h13 he
    go_enter Tryd.func44, Tryd.ntmps44
    go_wp2_with (go_at_call 58; refine (keep_any B r st 2 v1 v2 wd ws c _ H.out hl).mono ?_; rintro e w' ⟨rfl, hres⟩)
    go_ret
    exact ⟨rfl, hres⟩

set_option maxHeartbeats 1000000 in
set_option maxRecDepth 100000 in
theorem rpair_any (B r st : Nat) (v1 v2 : Value) (wd : List UInt8) (ws : List (List UInt8)) (c : UInt8) (w : World) (h : Rd w B r st v1 v2 wd ws) (hl : wd.length ≤ 1048576) :
    Calls Tryd.prog 45 #[.pointer (some ⟨r, 0, none⟩), .int .u8 (c.toNat : Int)] w (RdRes B r st (pairStep c wd ws).1 (pairStep c wd ws).2.1 (pairStep c wd ws).2.2 w) := by
  have H := Lib.hid h
  clear h
  cases hu : unesc c with
  | some d =>
    have he : pairStep c wd ws = (2, wd ++ [d], ws) := by unfold pairStep; rw [hu]
    rw [he]
    have Hu := Lib.hid hu
    clear hu he
    go_enter Tryd.func45, Tryd.ntmps45
    go_wp2_with (first | (go_at_call 38; refine (swap_any _ _ _ _ _ _ _ _ _ _).mono ?_; rintro e wz ⟨rfl, rfl⟩; rw [swapD_unesc, Hu.out]) | (go_at_call 58; refine (keep_any B r st 2 v1 v2 wd ws d _ H.out hl).mono ?_; rintro e w' ⟨rfl, hres⟩))
    go_ret
    exact ⟨rfl, hres⟩
  | none =>
    have he : pairStep c wd ws = (5, wd, ws) := by unfold pairStep; rw [hu]
    rw [he]
    have Hu := Lib.hid hu
    clear hu he
    go_enter Tryd.func45, Tryd.ntmps45
    go_wp2_with (go_at_call 38; refine (swap_any _ _ _ _ _ _ _ _ _ _).mono ?_; rintro e wz ⟨rfl, rfl⟩; rw [swapD_unesc, Hu.out])
    go_ret
    exact H.out.res
end Go.Proofs.YtfolocahchohdaaDoor
