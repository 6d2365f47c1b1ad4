/- Clock: Write. -/
import Derived.Test.YtfldjmjnjeemeaaClkM
import Derived.Test.YtfldjmjnjeemeaaClk1
import Derived.Test.YtfldjmjnjeemeaaNPut
import Derived.Test.YtfldjmjnjeemeaaBig
import Derived.Deep.WholeRow
import Derived.Laws.Rows
import Derived.Laws.CopyRow
namespace Go.Proofs.Ytfldjmjnjeemeaa
open Go.RowKit

theorem exec_copy {P : Program} {o : Oper} {a : Act} {w w' : World} {d s : Operand} {dT sT : TypeId} (ho : o.op = .call { callee := .builtin .copy, args := #[d, s], argTypes := #[dT, sT] }) {vd vs v : Value} (hd : a.eval d = vd) (hs : a.eval s = vs)
    (h : (Builtin.copy_ #[dT, sT] o.type #[vd, vs]).run P w = .ok v w') : (execOp a.eval o).run P w = .ok (.value v) w' := by
  unfold execOp
  simp only [ho, resolve, invoke, builtin, Sem.run_bind, Sem.run_pure, Result.andThen_ok, List.map_toArray, List.map_cons, List.map_nil, hd, hs, h]

theorem exec_build0 {P : Program} {o : Oper} {a : Act} {w : World} {t : TypeId} (ho : o.op = .build t #[]) {cells : Array Value} (h : (Instr.build t #[]).run P w = .ok (.agg cells) w) :
    (execOp a.eval o).run P w = .ok (.value (.agg cells)) w := exec_build ho (by simpa using h)

/-- What a call hands back: a variable as a whole, and a temporary. -/
theorem results_cell_tmp {P : Program} {fn : Func} {p t : Tmp} {ty : TypeId} (h : fn.results = #[.cell p ty, .tmp t]) (tmps : Array Value) (w : World) {ad : Addr} {v u : Value}
    (hp : tmps.getD p undef = .pointer (some ad)) (ht : tmps.getD t undef = u) (hl : (loadVar ty ad).run P w = .ok v w) : (results fn tmps).run P w = .ok (.tuple #[v, u]) w := by
  have hp' : tmps[p]?.getD undef = .pointer (some ad) := by simpa using hp
  have ht' : tmps[t]?.getD undef = u := by simpa using ht
  simp [results, h, hp', ht', asAddr, hl]

theorem size64 : (Try.prog.info? 24).map (·.size) = some 64 := by kernel_rfl
theorem zero64 (w : World) : (zeroValue 24).run Try.prog w = .ok (.agg (byL z64)) w := zero_of (by kernel_rfl) w
theorem build64 (w : World) : (Instr.build 24 #[]).run Try.prog w = .ok (.agg (byL z64)) w := by kernel_rfl
def one64 : List Nat := 1 :: List.replicate 63 0
theorem build64_1 (w : World) : (Instr.build 24 #[(0, .int .u8 1)]).run Try.prog w = .ok (.agg (byL one64)) w := by kernel_rfl
theorem load64 {w : World} {b : Nat} {l : List Nat} {T : TypeId} (h : Blk w b T (byL l)) (hl : l.length = 64) : (loadVar 24 ⟨b, 0, none⟩).run Try.prog w = .ok (.agg (byL l)) w :=
  run_loadVar_row w b T 24 (byL l) (0, 0) _ h Try.underlying24 rfl (by rw [size64, byL_size, hl])
theorem store64 {w : World} {b : Nat} {old l : List Nat} {T : TypeId} (h : Blk w b T (byL old)) (ho : old.length = 64) (hl : l.length = 64) :
    (storeVar 24 ⟨b, 0, none⟩ (.agg (byL l))).run Try.prog w = .ok () (w.setRow b (byL l)) :=
  run_storeVar_row w b T 24 (byL old) (byL l) h (by rw [size64, byL_size, hl]) (by rw [byL_size, byL_size, ho, hl]) (byL_one l)
theorem Blk.setRow {w : World} {b : Nat} {T : TypeId} {old new : Array Value} (h : Blk w b T old) : Blk (w.setRow b new) b T new := setRow_heap w b old new T _ h
theorem Chg.setRow {S : List Nat} {a w : World} (h : Chg S a w) {b : Nat} (hb : b ∈ S ∨ a.heap.size ≤ b) (cs : Array Value) : Chg S a (w.setRow b cs) :=
  ⟨h.os, h.tape, h.output, by rw [size_setRow]; exact h.size, fun k hk hn => by
    have hne : k ≠ b := fun e => by
      subst e
      rcases hb with hb | hb
      · exact hn hb
      · omega
    exact (setRow_other w b k cs hne).trans (h.block k hk hn)⟩
theorem store64n (w : World) {old l : List Nat} (ho : old.length = 64) (hl : l.length = 64) :
    (storeVar 24 ⟨w.heap.size, 0, none⟩ (.agg (byL l))).run Try.prog (w.alloc (.cells (byL old) 24)) = .ok () (w.alloc (.cells (byL l) 24)) :=
  run_storeVar_new w 24 (byL old) (byL l) (by rw [size64, byL_size, hl]) (by rw [byL_size, byL_size, ho, hl]) (byL_one l)
theorem size8 : (Try.prog.info? 73).map (·.size) = some 8 := by kernel_rfl
def z8 : List Nat := [0, 0, 0, 0, 0, 0, 0, 0]
theorem zero8 (w : World) : (zeroValue 73).run Try.prog w = .ok (.agg (byL z8)) w := zero_of (by kernel_rfl) w
theorem store8n (w : World) {old l : List Nat} (ho : old.length = 8) (hl : l.length = 8) :
    (storeVar 73 ⟨w.heap.size, 0, none⟩ (.agg (byL l))).run Try.prog (w.alloc (.cells (byL old) 73)) = .ok () (w.alloc (.cells (byL l) 73)) :=
  run_storeVar_new w 73 (byL old) (byL l) (by rw [size8, byL_size, hl]) (by rw [byL_size, byL_size, ho, hl]) (byL_one l)

def RetWr (l r : Int) (w : World) (e : Ending) (w' : World) : Prop := e = .returned (.tuple #[.agg (byL (wrS l r).1), .int .i64 (wrS l r).2]) ∧ Below w.heap.size w w'

set_option maxRecDepth 100000 in
set_option maxHeartbeats 1000000 in
theorem CWrite_no (l r : Int) (w : World) (hr : r < 0 ∨ 4095 < r) :
    Calls Try.prog 13 #[.agg #[.int .i64 l, .int .i64 r]] w (RetWr l r w) := by
  have HW : Hid (wrS l r = (z64, 3)) := by show _ = _; unfold wrS; rw [if_pos hr]
  have HR : Hid (∀ e w', e = .returned (.tuple #[.agg (byL z64), .int .i64 3]) → Below w.heap.size w w' → RetWr l r w e w') := by
    intro e w' he hb
    refine ⟨?_, hb⟩
    rw [HW.out]; exact he
  generalize RetWr l r w = R at *
  clear HW
  have HZ := Lib.hid zero64
  have HBd := Lib.hid build64
  have hr2 : (r < 0 ∧ Hid True) ∨ (4096 ≤ r ∧ Hid True) := by
    by_cases h0 : r < 0
    · exact .inl ⟨h0, trivial⟩
    · exact .inr ⟨by omega, trivial⟩
  clear hr
  have hB1 := (Blk.new (w.alloc (.cells #[.int .i64 l, .int .i64 r] 23)) 24 (byL z64))
  have HS := Lib.hid (store64 hB1 z64_len z64_len)
  have HL := Lib.hid (load64 (hB1.setRow (new := byL z64)) z64_len)
  have HBel : Hid (Below w.heap.size w (((w.alloc (.cells #[.int .i64 l, .int .i64 r] 23)).alloc (.cells (byL z64) 24)).setRow (w.alloc (.cells #[.int .i64 l, .int .i64 r] 23)).heap.size (byL z64))) :=
    Chg.below (S := []) ((((Chg.refl _ _).alloc _).alloc _).setRow (.inr (by simp)) _) (Nat.le_refl _) (by simp)
  clear hB1
  have hs1 : (w.alloc (.cells #[.int .i64 l, .int .i64 r] 23)).heap.size = w.heap.size + 1 := by simp
  rw [hs1] at HS HL HBel
  clear hs1
  rcases hr2 with ⟨h0, _⟩ | ⟨h0, _⟩
  all_goals
    go_enter Try.func13, Try.ntmps13
    go_wp2_with (first | (guard_target =~ wpList _ _ _ (Oper.mk _ (Op.alloc 24) _ _ _ _ :: _) _ _; refine wpList_val rfl (exec_alloc (e := 24) rfl HZ.out) ?_) | (guard_target =~ wpList _ _ _ (Oper.mk _ (Op.build 24 _) _ _ _ _ :: _) _ _; refine wpList_val rfl (exec_build0 rfl (HBd.out _)) ?_) | (guard_target =~ wpList _ _ _ (Oper.mk _ (Op.store 24 _ _) _ _ _ _ :: _) _ _; refine wpList_skp rfl (exec_store rfl rfl rfl HS.out) ?_))
    exact bodyPost_ret (v := .tuple #[.agg (byL z64), .int .i64 3]) (results_cell_tmp Try.results13 _ _ rfl rfl HL.out) rfl (HR.out _ _ rfl HBel.out)
end Go.Proofs.Ytfldjmjnjeemeaa
