/- Apply. -/
import Derived.Test.YthgefeoklmognaaDoorVFns
namespace Go.Proofs.YthgefeoklmognaaDoor
open Go.RowKit Go.MapKept

/-- a value that is an integer, a fault, and nothing old has changed -/
def RetV (w : World) (n f : Int) (e : Ending) (w' : World) : Prop := e = .returned (.tuple #[.agg #[.bool false, .int .i64 n], .int .i64 f]) ∧ Below w.heap.size w w'
theorem retV {w w' : World} {n m f : Int} (h : m = n) (hb : Below w.heap.size w w') : RetV w n f (.returned (.tuple #[.agg #[.bool false, .int .i64 m], .int .i64 f])) w' := by subst h; exact ⟨rfl, hb⟩

/-- what lay there when a call began reads behind it as it did -/
theorem old_cells {W V : World} (hb : Below W.heap.size W V) (n k : Nat) (hn : n < W.heap.size) : V.cell? ⟨n, k, none⟩ = W.cell? ⟨n, k, none⟩ := by
  unfold World.cell?
  simp only [hb.block n hn]
theorem old_marks {W V : World} (hb : Below W.heap.size W V) (n k : Nat) (hn : n < W.heap.size) : V.frozen? ⟨n, k, none⟩ = W.frozen? ⟨n, k, none⟩ := by
  unfold World.frozen?
  simp only [hb.block n hn]
theorem last4 (w : World) (o1 o2 o3 o : Obj) : ((((w.alloc o1).alloc o2).alloc o3).alloc o).heap[w.heap.size + 1 + 1 + 1]? = some o := by simpa using (MapKept.heap_alloc (((w.alloc o1).alloc o2).alloc o3) o).1

/-- the look-up in the map, at the operation -/
theorem wpList_opGet {w : World} {ops : Array Oper} {rest : List Oper} {o : Oper} {a : Act} {Q : Exit → Act → World → Prop}
    (hg : o.guard = none) (m x : Operand) (t : TypeId) (hop : o.op = Op.lookup t m x true) (ht : t = 45)
    (b : Nat) (k : Int) (i f : Nat) (hm : a.eval m = .map (some b)) (hx : a.eval x = .int .i64 k) (hb : w.heap[b]? = some (.map opEs 11)) (hf : Instr.findNow (.int .i64) (.int .i64 k) opEs.toList 0 = some (some (i, .func (.func f) #[] #[])))
    (hK : wpList Tryd.prog ops Q rest (a.put o.dst (.tuple #[.func (.func f) #[] #[], .bool true])) w) :
    wpList Tryd.prog ops Q (o :: rest) a w := by
  subst ht
  refine wpList_plain hg fun K' hK' => ?_
  unfold Oper.wp
  simp only [execOp, hop, hm, hx]
  have hKey : IsKey (.int .i64) (.int .i64 k) := by simp [IsKey]
  have hrun : (Instr.lookup 45 (.map (some b)) (.int .i64 k) true).run Tryd.prog w = .ok (.tuple #[.func (.func f) #[] #[], .bool true]) w := by
    simp [Instr.lookup, run_underlying Tryd.underlying45, MapKept.run_getObj_map hb, run_checkKey Tryd.underlying3 hKey, run_findKey Tryd.underlying3 hf, Result.andThen]
  simp [hrun, Result.andThen]
  exact hK' _ _ hK
theorem opZero (w : World) : (zeroValue 43).run Tryd.prog w = .ok .nilFunc w := by kernel_rfl
theorem wpList_opMiss {w : World} {ops : Array Oper} {rest : List Oper} {o : Oper} {a : Act} {Q : Exit → Act → World → Prop}
    (hg : o.guard = none) (m x : Operand) (t : TypeId) (hop : o.op = Op.lookup t m x true) (ht : t = 45)
    (b : Nat) (k : Int) (hm : a.eval m = .map (some b)) (hx : a.eval x = .int .i64 k) (hb : w.heap[b]? = some (.map opEs 11)) (hf : Other k opEs.toList)
    (hK : wpList Tryd.prog ops Q rest (a.put o.dst (.tuple #[.nilFunc, .bool false])) w) :
    wpList Tryd.prog ops Q (o :: rest) a w := by
  subst ht
  refine wpList_plain hg fun K' hK' => ?_
  unfold Oper.wp
  simp only [execOp, hop, hm, hx]
  have hrun := run_miss Tryd.underlying45 Tryd.underlying3 w b opEs 11 hb k hf .nilFunc (opZero w)
  simp [hrun, Result.andThen]
  exact hK' _ _ hK

theorem below_end {w : World} {o1 o2 o3 o : Obj} {w2 : World} (hb : Below ((((w.alloc o1).alloc o2).alloc o3).alloc o).heap.size ((((w.alloc o1).alloc o2).alloc o3).alloc o) w2) (a a' : Addr) (v v' : Value) (ha : w.heap.size ≤ a.block) (ha' : w.heap.size ≤ a'.block) :
    Below w.heap.size w ((w2.setCell a v).setCell a' v') :=
  (((((((Below.refl _ _).alloc (Nat.le_refl _) _).alloc (by simp) _).alloc (by simp; omega) _).alloc (by simp; omega) _).trans (hb.mono (by simp; omega))).setCell ha _).setCell ha' _
theorem below_end0 {w : World} {o1 o2 o3 o : Obj} :
    Below w.heap.size w ((((w.alloc o1).alloc o2).alloc o3).alloc o) :=
  ((((Below.refl _ _).alloc (Nat.le_refl _) _).alloc (by simp) _).alloc (by simp; omega) _).alloc (by simp; omega) _

set_option maxHeartbeats 1000000 in
set_option maxRecDepth 100000 in
theorem apply1 (x y : Int) (w : World) : Calls Tryd.prog 9 #[.int .i64 1, .agg #[.bool false, .int .i64 x], .agg #[.bool false, .int .i64 y]] w (RetV w (wrap64 (x + y)) 0) := by
  go_enter Tryd.func9, Tryd.ntmps9
  go_wp2_with fail
  refine (operators_any _).mono ?_
  rintro e w1 ⟨rfl, rfl⟩
  go_wp2_with (first | (refine wpList_opGet rfl _ _ _ rfl rfl _ _ _ 26 rfl rfl (last4 _ _ _ _ _) rfl ?_) | (go_at_call 26; refine (f1 _ _ _ _ _).mono ?_; rintro e w2 ⟨rfl, hb⟩; have hc := old_cells hb; have hf := old_marks hb))
  refine bodyPost_ret (v := .tuple #[.agg #[.bool false, .int .i64 (wrap64 (x + y))], .int .i64 0]) (by simp [results, Tryd.results9, go_sem, hc]) rfl ?_
  exact retV rfl (below_end hb _ _ _ _ (by simp; omega) (by simp; omega))
set_option maxHeartbeats 1000000 in
set_option maxRecDepth 100000 in
theorem apply2 (x y : Int) (w : World) : Calls Tryd.prog 9 #[.int .i64 2, .agg #[.bool false, .int .i64 x], .agg #[.bool false, .int .i64 y]] w (RetV w (wrap64 (x - y)) 0) := by
  go_enter Tryd.func9, Tryd.ntmps9
  go_wp2_with fail
  refine (operators_any _).mono ?_
  rintro e w1 ⟨rfl, rfl⟩
  go_wp2_with (first | (refine wpList_opGet rfl _ _ _ rfl rfl _ _ _ 27 rfl rfl (last4 _ _ _ _ _) rfl ?_) | (go_at_call 27; refine (f2 _ _ _ _ _).mono ?_; rintro e w2 ⟨rfl, hb⟩; have hc := old_cells hb; have hf := old_marks hb))
  refine bodyPost_ret (v := .tuple #[.agg #[.bool false, .int .i64 (wrap64 (x - y))], .int .i64 0]) (by simp [results, Tryd.results9, go_sem, hc]) rfl ?_
  exact retV rfl (below_end hb _ _ _ _ (by simp; omega) (by simp; omega))
set_option maxHeartbeats 1000000 in
set_option maxRecDepth 100000 in
theorem apply3 (x y : Int) (w : World) : Calls Tryd.prog 9 #[.int .i64 3, .agg #[.bool false, .int .i64 x], .agg #[.bool false, .int .i64 y]] w (RetV w (wrap64 (x * y)) 0) := by
  go_enter Tryd.func9, Tryd.ntmps9
  go_wp2_with fail
  refine (operators_any _).mono ?_
  rintro e w1 ⟨rfl, rfl⟩
  go_wp2_with (first | (refine wpList_opGet rfl _ _ _ rfl rfl _ _ _ 28 rfl rfl (last4 _ _ _ _ _) rfl ?_) | (go_at_call 28; refine (f3 _ _ _ _ _).mono ?_; rintro e w2 ⟨rfl, hb⟩; have hc := old_cells hb; have hf := old_marks hb))
  refine bodyPost_ret (v := .tuple #[.agg #[.bool false, .int .i64 (wrap64 (x * y))], .int .i64 0]) (by simp [results, Tryd.results9, go_sem, hc]) rfl ?_
  exact retV rfl (below_end hb _ _ _ _ (by simp; omega) (by simp; omega))
set_option maxHeartbeats 1000000 in
set_option maxRecDepth 100000 in
theorem apply4 (x y : Int) (w : World) (hy : ¬ y = 0) : Calls Tryd.prog 9 #[.int .i64 4, .agg #[.bool false, .int .i64 x], .agg #[.bool false, .int .i64 y]] w (RetV w (wrap64 (x.tdiv y)) 0) := by
  go_enter Tryd.func9, Tryd.ntmps9
  go_wp2_with fail
  refine (operators_any _).mono ?_
  rintro e w1 ⟨rfl, rfl⟩
  go_wp2_with (first | (refine wpList_opGet rfl _ _ _ rfl rfl _ _ _ 29 rfl rfl (last4 _ _ _ _ _) rfl ?_) | (go_at_call 29; refine (f4 _ _ _ _ _ hy).mono ?_; rintro e w2 ⟨rfl, hb⟩; have hc := old_cells hb; have hf := old_marks hb))
  refine bodyPost_ret (v := .tuple #[.agg #[.bool false, .int .i64 (wrap64 (x.tdiv y))], .int .i64 0]) (by simp [results, Tryd.results9, go_sem, hc]) rfl ?_
  exact retV rfl (below_end hb _ _ _ _ (by simp; omega) (by simp; omega))
set_option maxHeartbeats 1000000 in
set_option maxRecDepth 100000 in
theorem apply5 (x y : Int) (w : World) : Calls Tryd.prog 9 #[.int .i64 5, .agg #[.bool false, .int .i64 x], .agg #[.bool false, .int .i64 y]] w (RetV w (minN x y) 0) := by
  go_enter Tryd.func9, Tryd.ntmps9
  go_wp2_with fail
  refine (operators_any _).mono ?_
  rintro e w1 ⟨rfl, rfl⟩
  go_wp2_with (first | (refine wpList_opGet rfl _ _ _ rfl rfl _ _ _ 30 rfl rfl (last4 _ _ _ _ _) rfl ?_) | (go_at_call 30; refine (f5 _ _ _ _ _).mono ?_; rintro e w2 ⟨rfl, hb⟩; have hc := old_cells hb; have hf := old_marks hb))
  refine bodyPost_ret (v := .tuple #[.agg #[.bool false, .int .i64 (minN x y)], .int .i64 0]) (by simp [results, Tryd.results9, go_sem, hc]) rfl ?_
  exact retV rfl (below_end hb _ _ _ _ (by simp; omega) (by simp; omega))
set_option maxHeartbeats 1000000 in
set_option maxRecDepth 100000 in
theorem apply6 (x y : Int) (w : World) : Calls Tryd.prog 9 #[.int .i64 6, .agg #[.bool false, .int .i64 x], .agg #[.bool false, .int .i64 y]] w (RetV w (maxN x y) 0) := by
  go_enter Tryd.func9, Tryd.ntmps9
  go_wp2_with fail
  refine (operators_any _).mono ?_
  rintro e w1 ⟨rfl, rfl⟩
  go_wp2_with (first | (refine wpList_opGet rfl _ _ _ rfl rfl _ _ _ 31 rfl rfl (last4 _ _ _ _ _) rfl ?_) | (go_at_call 31; refine (f6 _ _ _ _ _).mono ?_; rintro e w2 ⟨rfl, hb⟩; have hc := old_cells hb; have hf := old_marks hb))
  refine bodyPost_ret (v := .tuple #[.agg #[.bool false, .int .i64 (maxN x y)], .int .i64 0]) (by simp [results, Tryd.results9, go_sem, hc]) rfl ?_
  exact retV rfl (below_end hb _ _ _ _ (by simp; omega) (by simp; omega))
set_option maxHeartbeats 1000000 in
set_option maxRecDepth 100000 in
theorem apply7 (x y : Int) (w : World) : Calls Tryd.prog 9 #[.int .i64 7, .agg #[.bool false, .int .i64 x], .agg #[.bool false, .int .i64 y]] w (RetV w (bits .and .i64 x y) 0) := by
  go_enter Tryd.func9, Tryd.ntmps9
  go_wp2_with fail
  refine (operators_any _).mono ?_
  rintro e w1 ⟨rfl, rfl⟩
  go_wp2_with (first | (refine wpList_opGet rfl _ _ _ rfl rfl _ _ _ 32 rfl rfl (last4 _ _ _ _ _) rfl ?_) | (go_at_call 32; refine (f7 _ _ _ _ _).mono ?_; rintro e w2 ⟨rfl, hb⟩; have hc := old_cells hb; have hf := old_marks hb))
  refine bodyPost_ret (v := .tuple #[.agg #[.bool false, .int .i64 (bits .and .i64 x y)], .int .i64 0]) (by simp [results, Tryd.results9, go_sem, hc]) rfl ?_
  exact retV rfl (below_end hb _ _ _ _ (by simp; omega) (by simp; omega))
set_option maxHeartbeats 1000000 in
set_option maxRecDepth 100000 in
theorem apply8 (x y : Int) (w : World) : Calls Tryd.prog 9 #[.int .i64 8, .agg #[.bool false, .int .i64 x], .agg #[.bool false, .int .i64 y]] w (RetV w (bits .or .i64 x y) 0) := by
  go_enter Tryd.func9, Tryd.ntmps9
  go_wp2_with fail
  refine (operators_any _).mono ?_
  rintro e w1 ⟨rfl, rfl⟩
  go_wp2_with (first | (refine wpList_opGet rfl _ _ _ rfl rfl _ _ _ 33 rfl rfl (last4 _ _ _ _ _) rfl ?_) | (go_at_call 33; refine (f8 _ _ _ _ _).mono ?_; rintro e w2 ⟨rfl, hb⟩; have hc := old_cells hb; have hf := old_marks hb))
  refine bodyPost_ret (v := .tuple #[.agg #[.bool false, .int .i64 (bits .or .i64 x y)], .int .i64 0]) (by simp [results, Tryd.results9, go_sem, hc]) rfl ?_
  exact retV rfl (below_end hb _ _ _ _ (by simp; omega) (by simp; omega))
set_option maxHeartbeats 1000000 in
set_option maxRecDepth 100000 in
theorem apply9 (x y : Int) (w : World) : Calls Tryd.prog 9 #[.int .i64 9, .agg #[.bool false, .int .i64 x], .agg #[.bool false, .int .i64 y]] w (RetV w (bits .xor .i64 x y) 0) := by
  go_enter Tryd.func9, Tryd.ntmps9
  go_wp2_with fail
  refine (operators_any _).mono ?_
  rintro e w1 ⟨rfl, rfl⟩
  go_wp2_with (first | (refine wpList_opGet rfl _ _ _ rfl rfl _ _ _ 34 rfl rfl (last4 _ _ _ _ _) rfl ?_) | (go_at_call 34; refine (f9 _ _ _ _ _).mono ?_; rintro e w2 ⟨rfl, hb⟩; have hc := old_cells hb; have hf := old_marks hb))
  refine bodyPost_ret (v := .tuple #[.agg #[.bool false, .int .i64 (bits .xor .i64 x y)], .int .i64 0]) (by simp [results, Tryd.results9, go_sem, hc]) rfl ?_
  exact retV rfl (below_end hb _ _ _ _ (by simp; omega) (by simp; omega))
set_option maxHeartbeats 1000000 in
set_option maxRecDepth 100000 in
theorem apply10 (x y : Int) (w : World) : Calls Tryd.prog 9 #[.int .i64 10, .agg #[.bool false, .int .i64 x], .agg #[.bool false, .int .i64 y]] w (RetV w (lessN x y) 0) := by
  go_enter Tryd.func9, Tryd.ntmps9
  go_wp2_with fail
  refine (operators_any _).mono ?_
  rintro e w1 ⟨rfl, rfl⟩
  go_wp2_with (first | (refine wpList_opGet rfl _ _ _ rfl rfl _ _ _ 35 rfl rfl (last4 _ _ _ _ _) rfl ?_) | (go_at_call 35; refine (f10 _ _ _ _ _).mono ?_; rintro e w2 ⟨rfl, hb⟩; have hc := old_cells hb; have hf := old_marks hb))
  refine bodyPost_ret (v := .tuple #[.agg #[.bool false, .int .i64 (lessN x y)], .int .i64 0]) (by simp [results, Tryd.results9, go_sem, hc]) rfl ?_
  exact retV rfl (below_end hb _ _ _ _ (by simp; omega) (by simp; omega))
set_option maxHeartbeats 1000000 in
set_option maxRecDepth 100000 in
theorem apply11 (r s : Bool) (x y : Int) (w : World) : Calls Tryd.prog 9 #[.int .i64 11, .agg #[.bool r, .int .i64 x], .agg #[.bool s, .int .i64 y]] w (RetV w (sameN r s x y) 0) := by
  go_enter Tryd.func9, Tryd.ntmps9
  go_wp2_with fail
  refine (operators_any _).mono ?_
  rintro e w1 ⟨rfl, rfl⟩
  go_wp2_with (first | (refine wpList_opGet rfl _ _ _ rfl rfl _ _ _ 37 rfl rfl (last4 _ _ _ _ _) rfl ?_) | (go_at_call 37; refine (f11 _ _ _ _ _).mono ?_; rintro e w2 ⟨rfl, hb⟩; have hc := old_cells hb; have hf := old_marks hb))
  refine bodyPost_ret (v := .tuple #[.agg #[.bool false, .int .i64 (sameN r s x y)], .int .i64 0]) (by simp [results, Tryd.results9, go_sem, hc]) rfl ?_
  exact retV rfl (below_end hb _ _ _ _ (by simp; omega) (by simp; omega))

set_option maxHeartbeats 1000000 in
set_option maxRecDepth 100000 in
theorem apply_zero (x : Int) (w : World) : Calls Tryd.prog 9 #[.int .i64 4, .agg #[.bool false, .int .i64 x], .agg #[.bool false, .int .i64 0]] w (RetV w 0 (-3)) := by
  go_enter Tryd.func9, Tryd.ntmps9
  go_wp2_with fail
  refine (operators_any _).mono ?_
  rintro e w1 ⟨rfl, rfl⟩
  go_wp2_with (refine wpList_opGet rfl _ _ _ rfl rfl _ _ _ 29 rfl rfl (last4 _ _ _ _ _) rfl ?_)
  refine bodyPost_ret (v := .tuple #[.agg #[.bool false, .int .i64 0], .int .i64 (-3)]) (by simp [results, Tryd.results9, go_sem]) rfl ?_
  exact retV rfl below_end0
set_option maxHeartbeats 1000000 in
set_option maxRecDepth 100000 in
theorem apply_miss (op : Int) (r s : Bool) (x y : Int) (w : World) (hop : Other op opEs.toList) (_h11 : (op != 11) = true) : Calls Tryd.prog 9 #[.int .i64 op, .agg #[.bool r, .int .i64 x], .agg #[.bool s, .int .i64 y]] w (RetV w 0 (-2)) := by
  have Ho := Lib.hid hop
  clear hop
  go_enter Tryd.func9, Tryd.ntmps9
  go_wp2_with fail
  refine (operators_any _).mono ?_
  rintro e w1 ⟨rfl, rfl⟩
  go_wp2_with (refine wpList_opMiss rfl _ _ _ rfl rfl _ _ rfl rfl (last4 _ _ _ _ _) Ho.out ?_)
  refine bodyPost_ret (v := .tuple #[.agg #[.bool false, .int .i64 0], .int .i64 (-2)]) (by simp [results, Tryd.results9, go_sem]) rfl ?_
  exact retV rfl below_end0
set_option maxHeartbeats 1000000 in
set_option maxRecDepth 100000 in
theorem apply_ref1 (op : Int) (i f : Nat) (s : Bool) (x y : Int) (w : World) (hop : Instr.findNow (.int .i64) (.int .i64 op) opEs.toList 0 = some (some (i, .func (.func f) #[] #[]))) (_h11 : (op != 11) = true) : Calls Tryd.prog 9 #[.int .i64 op, .agg #[.bool true, .int .i64 x], .agg #[.bool s, .int .i64 y]] w (RetV w 0 (-2)) := by
  have Ho := Lib.hid hop
  clear hop
  go_enter Tryd.func9, Tryd.ntmps9
  go_wp2_with fail
  refine (operators_any _).mono ?_
  rintro e w1 ⟨rfl, rfl⟩
  go_wp2_with (refine wpList_opGet rfl _ _ _ rfl rfl _ _ i f rfl rfl (last4 _ _ _ _ _) Ho.out ?_)
  refine bodyPost_ret (v := .tuple #[.agg #[.bool false, .int .i64 0], .int .i64 (-2)]) (by simp [results, Tryd.results9, go_sem]) rfl ?_
  exact retV rfl below_end0
set_option maxHeartbeats 1000000 in
set_option maxRecDepth 100000 in
theorem apply_ref2 (op : Int) (i f : Nat) (x y : Int) (w : World) (hop : Instr.findNow (.int .i64) (.int .i64 op) opEs.toList 0 = some (some (i, .func (.func f) #[] #[]))) (_h11 : (op != 11) = true) : Calls Tryd.prog 9 #[.int .i64 op, .agg #[.bool false, .int .i64 x], .agg #[.bool true, .int .i64 y]] w (RetV w 0 (-2)) := by
  have Ho := Lib.hid hop
  clear hop
  go_enter Tryd.func9, Tryd.ntmps9
  go_wp2_with fail
  refine (operators_any _).mono ?_
  rintro e w1 ⟨rfl, rfl⟩
  go_wp2_with (refine wpList_opGet rfl _ _ _ rfl rfl _ _ i f rfl rfl (last4 _ _ _ _ _) Ho.out ?_)
  refine bodyPost_ret (v := .tuple #[.agg #[.bool false, .int .i64 0], .int .i64 (-2)]) (by simp [results, Tryd.results9, go_sem]) rfl ?_
  exact retV rfl below_end0

end Go.Proofs.YthgefeoklmognaaDoor
