/- The walks of cell.To, From, Number, MustNumber. -/
import Derived.Test.YteepnbdkpelbiabCTotal
import Derived.Laws.IdiomStrings
namespace Go.Proofs.Yteepnbdkpelbiab
open Go.RowKit

@[go_sem] theorem asII (v : Value) (W : World) : (Instr.typeAssert (.iface 2 v) 20 2 true).run Try.prog W = .ok (.tuple #[v, .bool true]) W := by kernel_rfl
@[go_sem] theorem asIS (v : Value) (W : World) : (Instr.typeAssert (.iface 2 v) 20 9 true).run Try.prog W = .ok (.tuple #[.string ⟨#[]⟩, .bool false]) W := by kernel_rfl
@[go_sem] theorem asIB (v : Value) (W : World) : (Instr.typeAssert (.iface 2 v) 20 50 true).run Try.prog W = .ok (.tuple #[.slice none 0 0, .bool false]) W := by kernel_rfl
@[go_sem] theorem asSI (v : Value) (W : World) : (Instr.typeAssert (.iface 9 v) 20 2 true).run Try.prog W = .ok (.tuple #[.int .i64 0, .bool false]) W := by kernel_rfl
@[go_sem] theorem asSS (v : Value) (W : World) : (Instr.typeAssert (.iface 9 v) 20 9 true).run Try.prog W = .ok (.tuple #[v, .bool true]) W := by kernel_rfl
@[go_sem] theorem asSB (v : Value) (W : World) : (Instr.typeAssert (.iface 9 v) 20 50 true).run Try.prog W = .ok (.tuple #[.slice none 0 0, .bool false]) W := by kernel_rfl
@[go_sem] theorem asBI (v : Value) (W : World) : (Instr.typeAssert (.iface 50 v) 20 2 true).run Try.prog W = .ok (.tuple #[.int .i64 0, .bool false]) W := by kernel_rfl
@[go_sem] theorem asBS (v : Value) (W : World) : (Instr.typeAssert (.iface 50 v) 20 9 true).run Try.prog W = .ok (.tuple #[.string ⟨#[]⟩, .bool false]) W := by kernel_rfl
@[go_sem] theorem asBB (v : Value) (W : World) : (Instr.typeAssert (.iface 50 v) 20 50 true).run Try.prog W = .ok (.tuple #[v, .bool true]) W := by kernel_rfl
@[go_sem] theorem asJI (v : Value) (W : World) : (Instr.typeAssert (.iface 21 v) 20 2 true).run Try.prog W = .ok (.tuple #[.int .i64 0, .bool false]) W := by kernel_rfl
@[go_sem] theorem asJS (v : Value) (W : World) : (Instr.typeAssert (.iface 21 v) 20 9 true).run Try.prog W = .ok (.tuple #[.string ⟨#[]⟩, .bool false]) W := by kernel_rfl
@[go_sem] theorem asJB (v : Value) (W : World) : (Instr.typeAssert (.iface 21 v) 20 50 true).run Try.prog W = .ok (.tuple #[.slice none 0 0, .bool false]) W := by kernel_rfl
@[go_sem] theorem asNI (W : World) : (Instr.typeAssert .nilIface 20 2 true).run Try.prog W = .ok (.tuple #[.int .i64 0, .bool false]) W := by kernel_rfl
@[go_sem] theorem asIX (v : Value) (W : World) : (Instr.typeAssert (.iface 2 v) 20 2 false).run Try.prog W = .ok v W := by kernel_rfl

theorem to_bad (k : Nat) (n : Int) (s : ByteArray) (w : World) (h : Vl.right ⟨k, n, s⟩ = false) :
    Calls Try.prog 18 #[.agg #[.int .u8 k, .int .i64 n, .string s]] w fun e w' => e = .returned (.tuple #[.nilIface, .int .i64 3]) ∧ Below w.heap.size w w' := by
  go_enter Try.func18, Try.ntmps18
  go_wp2_with fail
  refine (right_any k n s _).mono ?_
  rw [h]
  rintro e w1 ⟨rfl, hb⟩
  obtain ⟨S3, hz⟩ := slots1 _ _ _ _ _ _ hb
  have hw : Below w.heap.size w w1 := Below.trans ((Below.refl _ _).alloc (Nat.le_refl _) _) (Below.mono hb (by simp <;> omega))
  clear hb
  go_wp2
  go_ret2
  exact ⟨rfl, hw⟩

theorem to_null (w : World) :
    Calls Try.prog 18 #[.agg #[.int .u8 0, .int .i64 0, .string ⟨#[]⟩]] w fun e w' => e = .returned (.tuple #[.nilIface, .int .i64 0]) ∧ Below w.heap.size w w' := by
  go_enter Try.func18, Try.ntmps18
  go_wp2_with fail
  refine (right_any 0 0 ⟨#[]⟩ _).mono ?_
  rw [right_n]
  rintro e w1 ⟨rfl, hb⟩
  obtain ⟨S3, hz⟩ := slots1 _ _ _ _ _ _ hb
  have hw : Below w.heap.size w w1 := Below.trans ((Below.refl _ _).alloc (Nat.le_refl _) _) (Below.mono hb (by simp <;> omega))
  clear hb
  obtain ⟨p0, p1, p2, p3, p4, p5⟩ := id S3
  go_wp2
  go_ret2
  exact ⟨rfl, hw⟩

theorem to_int (n : Int) (w : World) :
    Calls Try.prog 18 #[.agg #[.int .u8 1, .int .i64 n, .string ⟨#[]⟩]] w fun e w' => e = .returned (.tuple #[.iface 2 (.int .i64 n), .int .i64 0]) ∧ Below w.heap.size w w' := by
  go_enter Try.func18, Try.ntmps18
  go_wp2_with fail
  refine (right_any 1 n ⟨#[]⟩ _).mono ?_
  rw [right_i]
  rintro e w1 ⟨rfl, hb⟩
  obtain ⟨S3, hz⟩ := slots1 _ _ _ _ _ _ hb
  have hw : Below w.heap.size w w1 := Below.trans ((Below.refl _ _).alloc (Nat.le_refl _) _) (Below.mono hb (by simp <;> omega))
  clear hb
  obtain ⟨p0, p1, p2, p3, p4, p5⟩ := id S3
  go_wp2
  go_ret2
  exact ⟨rfl, hw⟩

theorem to_text (n : Int) (s : ByteArray) (w : World) (h : Vl.right ⟨2, n, s⟩ = true) :
    Calls Try.prog 18 #[.agg #[.int .u8 2, .int .i64 n, .string s]] w fun e w' => e = .returned (.tuple #[.iface 9 (.string s), .int .i64 0]) ∧ Below w.heap.size w w' := by
  go_enter Try.func18, Try.ntmps18
  go_wp2_with fail
  refine (right_any 2 n s _).mono ?_
  rw [h]
  rintro e w1 ⟨rfl, hb⟩
  obtain ⟨S3, hz⟩ := slots1 _ _ _ _ _ _ hb
  have hw : Below w.heap.size w w1 := Below.trans ((Below.refl _ _).alloc (Nat.le_refl _) _) (Below.mono hb (by simp <;> omega))
  clear hb
  obtain ⟨p0, p1, p2, p3, p4, p5⟩ := id S3
  go_wp2
  go_ret2
  exact ⟨rfl, hw⟩

theorem addBlock (a : Addr) (n : Nat) : (a.add n).block = a.block := by unfold Addr.add; split <;> rfl
theorem addMid (b o j : Nat) : (⟨b, o, none⟩ : Addr).add j = ⟨b, o + j, none⟩ := by unfold Addr.add; split <;> simp_all

/-- Where a string's bytes lie. -/
def Lies (w : World) (a : Addr) (s : ByteArray) : Prop := a.block < w.heap.size ∧ ∀ j (hj : j < s.data.toList.length), w.cell? (a.add j) = some (.int .u8 (s.data.toList[j].toNat : Int))

theorem Lies.on {w w' : World} {a : Addr} {s : ByteArray} (h : Lies w a s) (hl : Later w w') : Lies w' a s :=
  ⟨Nat.lt_of_lt_of_le h.1 hl.size, fun j hj => (hl.cell (p := a.add j) (by rw [addBlock]; exact h.1)).trans (h.2 j hj)⟩

theorem back_bytes (w : World) (a : Addr) (cap : Nat) (s : ByteArray) (h : Lies w a s) : (convert 50 9 (.slice (some a) s.size cap)).run Try.prog w = .ok (.string s) w := by
  have k := run_convert_bytes_back (P := Try.prog) w 50 9 5 a cap s.data.toList (by kernel_rfl) (by kernel_rfl) (by kernel_rfl) h.2
  rw [Array.length_toList, Array.toArray_toList] at k
  exact k

theorem lies_new (w : World) (s : ByteArray) (cap : Nat) (T : TypeId) (F : Nat × Nat) : Lies (w.alloc (.cells (bytesRow s cap) T F)) ⟨w.heap.size, 0, none⟩ s := by
  refine ⟨by simp, fun j hj => ?_⟩
  have hj' : j < s.data.size := by simpa using hj
  rw [addMid, Nat.zero_add]
  have hc : (w.alloc (.cells (bytesRow s cap) T F)).cell? ⟨w.heap.size, j, none⟩ = (bytesRow s cap)[j]? := by simp only [World.cell?]; rw [heap_alloc_new]; rfl
  rw [hc, bytesRow_at s cap j hj']
  simp

theorem to_blob (n : Int) (s : ByteArray) (w : World) (h : Vl.right ⟨3, n, s⟩ = true) :
    Calls Try.prog 18 #[.agg #[.int .u8 3, .int .i64 n, .string s]] w fun e w' => ∃ a cap, e = .returned (.tuple #[.iface 50 (.slice (some a) s.size cap), .int .i64 0]) ∧ Below w.heap.size w w' ∧ Lies w' a s := by
  have kc := fun W => run_bytes_of_string (P := Try.prog) W 9 50 5 s (by kernel_rfl) (by kernel_rfl) (by kernel_rfl)
  go_enter Try.func18, Try.ntmps18
  go_wp2_with fail
  refine (right_any 3 n s _).mono ?_
  rw [h]
  rintro e w1 ⟨rfl, hb⟩
  obtain ⟨S3, hz⟩ := slots1 _ _ _ _ _ _ hb
  have hw : Below w.heap.size w w1 := Below.trans ((Below.refl _ _).alloc (Nat.le_refl _) _) (Below.mono hb (by simp <;> omega))
  clear hb
  obtain ⟨p0, p1, p2, p3, p4, p5⟩ := id S3
  go_wp2
  go_ret2
  refine ⟨_, _, rfl, ?_, lies_new w1.drew s _ _ _⟩
  exact hw.drew.alloc (by simp; omega) _

theorem from_blob (a : Addr) (cap : Nat) (s : ByteArray) (w : World) (h : Lies w a s) :
    Calls Try.prog 19 #[.iface 50 (.slice (some a) s.size cap)] w fun e w' => e = .returned (.tuple #[.agg #[.int .u8 3, .int .i64 0, .string s], .bool true]) ∧ Below w.heap.size w w' := by
  have kb := fun o => back_bytes (w.alloc o) a cap s (h.on (Below.box _ o))
  go_enter Try.func19, Try.ntmps19
  go_wp2
  refine bodyPost_ret (v := .tuple #[.agg #[.int .u8 3, .int .i64 0, .string s], .bool true]) (by simp [results, Try.results19, go_sem, *]) rfl ⟨rfl, ?_⟩
  exact Below.box _ _

theorem number_blob (v : Value) (w : World) :
    Calls Try.prog 20 #[.iface 50 v] w fun e w' => e = .returned (.tuple #[.int .i64 0, .bool false]) ∧ w = w' := by
  go_enter Try.func20, Try.ntmps20
  go_wp2
  go_ret2
  exact ⟨rfl, rfl⟩

theorem from_nil (w : World) :
    Calls Try.prog 19 #[.nilIface] w fun e w' => e = .returned (.tuple #[.agg #[.int .u8 0, .int .i64 0, .string ⟨#[]⟩], .bool true]) ∧ Below w.heap.size w w' := by
  go_enter Try.func19, Try.ntmps19
  go_wp2_with fail
  refine (null_any _).mono ?_
  rintro e w1 ⟨rfl, hb⟩
  obtain ⟨S3, hz⟩ := slots1 _ _ _ _ _ _ hb
  have hw : Below w.heap.size w w1 := Below.trans ((Below.refl _ _).alloc (Nat.le_refl _) _) (Below.mono hb (by simp <;> omega))
  clear hb
  obtain ⟨p0, p1, p2, p3, p4, p5⟩ := id S3
  go_wp2
  refine bodyPost_ret (v := .tuple #[.agg #[.int .u8 0, .int .i64 0, .string ⟨#[]⟩], .bool true]) (by simp [results, Try.results19, go_sem, *]) rfl ⟨rfl, ?_⟩
  exact ((hw.setCell (by simp <;> omega) _).setCell (by simp <;> omega) _).setCell (by simp <;> omega) _

theorem from_int (n : Int) (w : World) :
    Calls Try.prog 19 #[.iface 2 (.int .i64 n)] w fun e w' => e = .returned (.tuple #[.agg #[.int .u8 1, .int .i64 n, .string ⟨#[]⟩], .bool true]) ∧ Below w.heap.size w w' := by
  go_enter Try.func19, Try.ntmps19
  go_wp2_with fail
  refine (whole_any n _).mono ?_
  rintro e w1 ⟨rfl, hb⟩
  obtain ⟨S3, hz⟩ := slots1 _ _ _ _ _ _ hb
  have hw : Below w.heap.size w w1 := Below.trans ((Below.refl _ _).alloc (Nat.le_refl _) _) (Below.mono hb (by simp <;> omega))
  clear hb
  obtain ⟨p0, p1, p2, p3, p4, p5⟩ := id S3
  go_wp2
  refine bodyPost_ret (v := .tuple #[.agg #[.int .u8 1, .int .i64 n, .string ⟨#[]⟩], .bool true]) (by simp [results, Try.results19, go_sem, *]) rfl ⟨rfl, ?_⟩
  exact ((hw.setCell (by simp <;> omega) _).setCell (by simp <;> omega) _).setCell (by simp <;> omega) _

theorem from_text (s : ByteArray) (w : World) :
    Calls Try.prog 19 #[.iface 9 (.string s)] w fun e w' => e = .returned (.tuple #[.agg #[.int .u8 2, .int .i64 0, .string s], .bool true]) ∧ Below w.heap.size w w' := by
  go_enter Try.func19, Try.ntmps19
  go_wp2
  refine bodyPost_ret (v := .tuple #[.agg #[.int .u8 2, .int .i64 0, .string s], .bool true]) (by simp [results, Try.results19, go_sem, *]) rfl ⟨rfl, ?_⟩
  exact Below.box _ _

theorem from_int32 (v : Value) (w : World) :
    Calls Try.prog 19 #[.iface 21 v] w fun e w' => e = .returned (.tuple #[.agg #[.int .u8 0, .int .i64 0, .string ⟨#[]⟩], .bool false]) ∧ Below w.heap.size w w' := by
  go_enter Try.func19, Try.ntmps19
  go_wp2_with fail
  refine (null_any _).mono ?_
  rintro e w1 ⟨rfl, hb⟩
  obtain ⟨S3, hz⟩ := slots1 _ _ _ _ _ _ hb
  have hw : Below w.heap.size w w1 := Below.trans ((Below.refl _ _).alloc (Nat.le_refl _) _) (Below.mono hb (by simp <;> omega))
  clear hb
  obtain ⟨p0, p1, p2, p3, p4, p5⟩ := id S3
  go_wp2
  refine bodyPost_ret (v := .tuple #[.agg #[.int .u8 0, .int .i64 0, .string ⟨#[]⟩], .bool false]) (by simp [results, Try.results19, go_sem, *]) rfl ⟨rfl, ?_⟩
  exact ((hw.setCell (by simp <;> omega) _).setCell (by simp <;> omega) _).setCell (by simp <;> omega) _

theorem number_int (n : Int) (w : World) :
    Calls Try.prog 20 #[.iface 2 (.int .i64 n)] w fun e w' => e = .returned (.tuple #[.int .i64 n, .bool true]) ∧ w = w' := by
  go_enter Try.func20, Try.ntmps20
  go_wp2
  go_ret2
  exact ⟨rfl, rfl⟩

theorem number_text (s : ByteArray) (w : World) :
    Calls Try.prog 20 #[.iface 9 (.string s)] w fun e w' => e = .returned (.tuple #[.int .i64 0, .bool false]) ∧ w = w' := by
  go_enter Try.func20, Try.ntmps20
  go_wp2
  go_ret2
  exact ⟨rfl, rfl⟩

theorem number_nil (w : World) :
    Calls Try.prog 20 #[.nilIface] w fun e w' => e = .returned (.tuple #[.int .i64 0, .bool false]) ∧ w = w' := by
  go_enter Try.func20, Try.ntmps20
  go_wp2
  go_ret2
  exact ⟨rfl, rfl⟩

theorem mustNumber_any (n : Int) (w : World) :
    Calls Try.prog 21 #[.iface 2 (.int .i64 n)] w fun e w' => e = .returned (.int .i64 n) ∧ w = w' := by
  go_enter Try.func21, Try.ntmps21
  go_wp2
  go_ret
  exact ⟨rfl, rfl⟩

end Go.Proofs.Yteepnbdkpelbiab
