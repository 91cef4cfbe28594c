/- next, of the reader. -/
import Derived.Test.YtfolocahchohdaaDoorWEnd
namespace Go.Proofs.YtfolocahchohdaaDoor
open Go.RowKit WMath

/-- what 'next' hands back: a step of the machine -/
def RdStep (B r st : Nat) (σ : RS) (w : World) (e : Ending) (w' : World) : Prop := RdRes B r st σ.1 σ.2.1 σ.2.2 w e w'

set_option maxHeartbeats 1000000 in
set_option maxRecDepth 100000 in
theorem next0 (B r : Nat) (v1 v2 : Value) (wd : List UInt8) (ws : List (List UInt8)) (c : UInt8) (w : World) (h : Rd w B r 0 v1 v2 wd ws) (hl : wd.length ≤ 1048576) :
    Calls Tryd.prog 31 #[.pointer (some ⟨r, 0, none⟩), .int .u8 (c.toNat : Int)] w (RdStep B r 0 (stepR (0, wd, ws) c) w) := by
  have h0 := h.c0
  have H := Lib.hid h
  clear h
  by_cases h34 : c = 34
  · have t1 : ((c.toNat : Int) == 34) = true := u8_t (c := 34) h34
    have he : stepR (0, wd, ws) c = (2, wd, ws) := by simp [stepR, h34]
    rw [he]
    clear h34 he
    go_enter Tryd.func31, Tryd.ntmps31
    go_wp2_with (fail)
    go_ret
    exact H.out.res
  · have t1 : ((c.toNat : Int) == 34) = false := u8_f (c := 34) h34
    have he : stepR (0, wd, ws) c = plainStep c wd ws := by simp [stepR, h34]
    rw [he]
    clear h34 he
    go_enter Tryd.func31, Tryd.ntmps31
    go_wp2_with ((go_at_call 43; refine (rplain_any B r 0 v1 v2 wd ws c _ H.out hl).mono ?_; rintro e w' ⟨rfl, hres⟩))
    go_ret
    exact ⟨rfl, hres⟩

set_option maxHeartbeats 1000000 in
set_option maxRecDepth 100000 in
theorem next1 (B r : Nat) (v1 v2 : Value) (wd : List UInt8) (ws : List (List UInt8)) (c : UInt8) (w : World) (h : Rd w B r 1 v1 v2 wd ws) (hl : wd.length ≤ 1048576) (hl2 : ws.length ≤ 1048576) :
    Calls Tryd.prog 31 #[.pointer (some ⟨r, 0, none⟩), .int .u8 (c.toNat : Int)] w (RdStep B r 1 (stepR (1, wd, ws) c) w) := by
  have h0 := h.c0
  have H := Lib.hid h
  clear h
  by_cases h32 : c = 32
  · have t1 : ((c.toNat : Int) == 32) = true := u8_t (c := 32) h32
    have he : stepR (1, wd, ws) c = (0, [], ws ++ [wd]) := by simp [stepR, h32]
    rw [he]
    clear h32 he
    go_enter Tryd.func31, Tryd.ntmps31
    go_wp2_with ((go_at_call 32; refine (rend_any B r 1 v1 v2 wd ws _ H.out hl2).mono ?_; rintro e w' ⟨rfl, hres⟩))
    go_ret
    exact ⟨rfl, hres⟩
  · have t1 : ((c.toNat : Int) == 32) = false := u8_f (c := 32) h32
    have he : stepR (1, wd, ws) c = plainStep c wd ws := by simp [stepR, h32]
    rw [he]
    clear h32 he
    go_enter Tryd.func31, Tryd.ntmps31
    go_wp2_with ((go_at_call 43; refine (rplain_any B r 1 v1 v2 wd ws c _ H.out hl).mono ?_; rintro e w' ⟨rfl, hres⟩))
    go_ret
    exact ⟨rfl, hres⟩

set_option maxHeartbeats 1000000 in
set_option maxRecDepth 100000 in
theorem next2 (B r : Nat) (v1 v2 : Value) (wd : List UInt8) (ws : List (List UInt8)) (c : UInt8) (w : World) (h : Rd w B r 2 v1 v2 wd ws) (hl : wd.length ≤ 1048576) :
    Calls Tryd.prog 31 #[.pointer (some ⟨r, 0, none⟩), .int .u8 (c.toNat : Int)] w (RdStep B r 2 (stepR (2, wd, ws) c) w) := by
  have h0 := h.c0
  have H := Lib.hid h
  clear h
  have he : stepR (2, wd, ws) c = quotedStep c wd ws := rfl
  rw [he]
  clear he
  go_enter Tryd.func31, Tryd.ntmps31
  go_wp2_with ((go_at_call 44; refine (rquoted_any B r 2 v1 v2 wd ws c _ H.out hl).mono ?_; rintro e w' ⟨rfl, hres⟩))
  go_ret
  exact ⟨rfl, hres⟩

set_option maxHeartbeats 1000000 in
set_option maxRecDepth 100000 in
theorem next3 (B r : Nat) (v1 v2 : Value) (wd : List UInt8) (ws : List (List UInt8)) (c : UInt8) (w : World) (h : Rd w B r 3 v1 v2 wd ws) (hl : wd.length ≤ 1048576) :
    Calls Tryd.prog 31 #[.pointer (some ⟨r, 0, none⟩), .int .u8 (c.toNat : Int)] w (RdStep B r 3 (stepR (3, wd, ws) c) w) := by
  have h0 := h.c0
  have H := Lib.hid h
  clear h
  have he : stepR (3, wd, ws) c = pairStep c wd ws := rfl
  rw [he]
  clear he
  go_enter Tryd.func31, Tryd.ntmps31
  go_wp2_with ((go_at_call 45; refine (rpair_any B r 3 v1 v2 wd ws c _ H.out hl).mono ?_; rintro e w' ⟨rfl, hres⟩))
  go_ret
  exact ⟨rfl, hres⟩

set_option maxHeartbeats 1000000 in
set_option maxRecDepth 100000 in
theorem next4 (B r : Nat) (v1 v2 : Value) (wd : List UInt8) (ws : List (List UInt8)) (c : UInt8) (w : World) (h : Rd w B r 4 v1 v2 wd ws) (hl2 : ws.length ≤ 1048576) :
    Calls Tryd.prog 31 #[.pointer (some ⟨r, 0, none⟩), .int .u8 (c.toNat : Int)] w (RdStep B r 4 (stepR (4, wd, ws) c) w) := by
  have h0 := h.c0
  have H := Lib.hid h
  clear h
  by_cases h32 : c = 32
  · have t1 : ((c.toNat : Int) == 32) = true := u8_t (c := 32) h32
    have he : stepR (4, wd, ws) c = (0, [], ws ++ [wd]) := by simp [stepR, h32]
    rw [he]
    clear h32 he
    go_enter Tryd.func31, Tryd.ntmps31
    go_wp2_with ((go_at_call 32; refine (rend_any B r 4 v1 v2 wd ws _ H.out hl2).mono ?_; rintro e w' ⟨rfl, hres⟩))
    go_ret
    exact ⟨rfl, hres⟩
  · have t1 : ((c.toNat : Int) == 32) = false := u8_f (c := 32) h32
    have he : stepR (4, wd, ws) c = (5, wd, ws) := by simp [stepR, h32]
    rw [he]
    clear h32 he
    go_enter Tryd.func31, Tryd.ntmps31
    go_wp2_with (fail)
    go_ret
    exact H.out.res

theorem next_any (B r st : Nat) (v1 v2 : Value) (wd : List UInt8) (ws : List (List UInt8)) (c : UInt8) (w : World) (h : Rd w B r st v1 v2 wd ws) (hst : st < 5) (hl : wd.length ≤ 1048576) (hl2 : ws.length ≤ 1048576) :
    Calls Tryd.prog 31 #[.pointer (some ⟨r, 0, none⟩), .int .u8 (c.toNat : Int)] w (RdStep B r st (stepR (st, wd, ws) c) w) := by
  match st, hst with
  | 0, _ => exact next0 B r v1 v2 wd ws c w h hl
  | 1, _ => exact next1 B r v1 v2 wd ws c w h hl hl2
  | 2, _ => exact next2 B r v1 v2 wd ws c w h hl
  | 3, _ => exact next3 B r v1 v2 wd ws c w h hl
  | 4, _ => exact next4 B r v1 v2 wd ws c w h hl2
end Go.Proofs.YtfolocahchohdaaDoor
