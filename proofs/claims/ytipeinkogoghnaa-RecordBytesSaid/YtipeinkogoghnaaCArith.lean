/- The walks of cell.arith at its five operations. -/
import Derived.Test.YtipeinkogoghnaaCInt
namespace Go.Proofs.Ytipeinkogoghnaa
open Go.RowKit

/-- A variable of three cells, which may be written. -/
def Slot (w : World) (b : Nat) (v0 v1 v2 : Value) : Prop :=
  w.cell? ⟨b, 0, none⟩ = some v0 ∧ w.cell? ⟨b, 1, none⟩ = some v1 ∧ w.cell? ⟨b, 2, none⟩ = some v2 ∧ w.frozen? ⟨b, 0, none⟩ = false ∧ w.frozen? ⟨b, 1, none⟩ = false ∧ w.frozen? ⟨b, 2, none⟩ = false

theorem Slot.later {w w' : World} {b : Nat} {v0 v1 v2 : Value} (h : Slot w b v0 v1 v2) (hl : Later w w') (hb : b < w.heap.size) : Slot w' b v0 v1 v2 := by
  obtain ⟨h0, h1, h2, f0, f1, f2⟩ := h
  exact ⟨(hl.cell (p := ⟨b, 0, none⟩) hb).trans h0, (hl.cell (p := ⟨b, 1, none⟩) hb).trans h1, (hl.cell (p := ⟨b, 2, none⟩) hb).trans h2,
    (hl.frozen (p := ⟨b, 0, none⟩) hb).trans f0, (hl.frozen (p := ⟨b, 1, none⟩) hb).trans f1, (hl.frozen (p := ⟨b, 2, none⟩) hb).trans f2⟩

theorem Slot.new (w : World) (T : TypeId) (v0 v1 v2 : Value) : Slot (w.alloc (.cells #[v0, v1, v2] T)) w.heap.size v0 v1 v2 := by
  refine ⟨?_, ?_, ?_, ?_, ?_, ?_⟩
  · rw [World.cell?_alloc_new]; rfl
  · rw [World.cell?_alloc_new]; rfl
  · rw [World.cell?_alloc_new]; rfl
  · simp only [World.frozen?]; rw [heap_alloc_new]; simp
  · simp only [World.frozen?]; rw [heap_alloc_new]; simp
  · simp only [World.frozen?]; rw [heap_alloc_new]; simp

/-- Three variables, one behind the other. -/
theorem slots3 (w : World) (T : TypeId) (a0 a1 a2 b0 b1 b2 c0 c1 c2 : Value) (w' : World) (hl : Later (((w.alloc (.cells #[a0, a1, a2] T)).alloc (.cells #[b0, b1, b2] T)).alloc (.cells #[c0, c1, c2] T)) w') :
    Slot w' w.heap.size a0 a1 a2 ∧ Slot w' (w.heap.size + 1) b0 b1 b2 ∧ Slot w' (w.heap.size + 1 + 1) c0 c1 c2 ∧ w.heap.size + 3 ≤ w'.heap.size := by
  have e1 : (w.alloc (.cells #[a0, a1, a2] T)).heap.size = w.heap.size + 1 := by simp
  have e2 : ((w.alloc (.cells #[a0, a1, a2] T)).alloc (.cells #[b0, b1, b2] T)).heap.size = w.heap.size + 1 + 1 := by simp
  have e3 : (((w.alloc (.cells #[a0, a1, a2] T)).alloc (.cells #[b0, b1, b2] T)).alloc (.cells #[c0, c1, c2] T)).heap.size = w.heap.size + 1 + 1 + 1 := by simp
  have l1 : Later (w.alloc (.cells #[a0, a1, a2] T)) ((w.alloc (.cells #[a0, a1, a2] T)).alloc (.cells #[b0, b1, b2] T)) := (Below.refl _ _).alloc (Nat.le_refl _) _
  have l2 : Later ((w.alloc (.cells #[a0, a1, a2] T)).alloc (.cells #[b0, b1, b2] T)) (((w.alloc (.cells #[a0, a1, a2] T)).alloc (.cells #[b0, b1, b2] T)).alloc (.cells #[c0, c1, c2] T)) := (Below.refl _ _).alloc (Nat.le_refl _) _
  refine ⟨(((Slot.new w T a0 a1 a2).later l1 (by rw [e1]; omega)).later l2 (by rw [e2]; omega)).later hl (by rw [e3]; omega), ?_, ?_, ?_⟩
  · have := (Slot.new (w.alloc (.cells #[a0, a1, a2] T)) T b0 b1 b2)
    rw [e1] at this
    exact (this.later l2 (by rw [e2]; omega)).later hl (by rw [e3]; omega)
  · have := (Slot.new ((w.alloc (.cells #[a0, a1, a2] T)).alloc (.cells #[b0, b1, b2] T)) T c0 c1 c2)
    rw [e2] at this
    exact this.later hl (by rw [e3]; omega)
  · have := hl.size
    rw [e3] at this; omega

/-- A call hands back a value and an error. -/
def RetV (w : World) (r : Vl × Int) (e : Ending) (w' : World) : Prop :=
  e = .returned (.tuple #[.agg #[.int .u8 r.1.k, .int .i64 r.1.n, .string r.1.s], .int .i64 r.2]) ∧ Below w.heap.size w w'

theorem right_null {n : Int} {s : ByteArray} (h : Vl.right ⟨0, n, s⟩ = true) : n = 0 ∧ s = ⟨#[]⟩ := by
  simp [Vl.right] at h
  exact ⟨h.1, h.2⟩
theorem right_num {n : Int} {s : ByteArray} (h : Vl.right ⟨1, n, s⟩ = true) : s = ⟨#[]⟩ := by
  simp [Vl.right] at h
  exact h

theorem arith_bad1 (k1 k2 : Nat) (n1 n2 : Int) (s1 s2 : ByteArray) (F : Value) (w : World) (h : Vl.right ⟨k1, n1, s1⟩ = false) :
    Calls Try.prog 34 #[.agg #[.int .u8 k1, .int .i64 n1, .string s1], .agg #[.int .u8 k2, .int .i64 n2, .string s2], F] w (RetV w (nullV, 3)) := by
  go_enter Try.func34, Try.ntmps34
  go_wp2_with fail
  refine (right_any k1 n1 s1 _).mono ?_
  rw [h]
  rintro e w1 ⟨rfl, hb⟩
  obtain ⟨S3, S4, S6, hz⟩ := slots3 _ _ _ _ _ _ _ _ _ _ _ _ hb
  have hw : Below w.heap.size w w1 := Below.trans ((((Below.refl _ _).alloc (Nat.le_refl _) _).alloc (by simp) _).alloc (by simp; omega) _) (Below.mono hb (by simp <;> omega))
  clear hb
  go_wp2_with fail
  refine (null_any _).mono ?_
  rintro e w2 ⟨rfl, hb⟩
  replace S3 := S3.later hb (by omega)
  replace S4 := S4.later hb (by omega)
  replace S6 := S6.later hb (by omega)
  replace hw := hw.trans (Below.mono hb (by omega))
  replace hz := Nat.le_trans hz (Below.size hb)
  clear hb
  obtain ⟨p0, p1, p2, p3, p4, p5⟩ := id S3
  obtain ⟨q0, q1, q2, q3, q4, q5⟩ := id S4
  obtain ⟨r0, r1, r2, r3, r4, r5⟩ := id S6
  go_wp2
  refine bodyPost_ret (v := .tuple #[.agg #[.int .u8 0, .int .i64 0, .string ⟨#[]⟩], .int .i64 3]) (by simp [results, Try.results34, go_sem, *]) rfl ⟨rfl, ?_⟩
  exact ((hw.setCell (by simp; omega) _).setCell (by simp; omega) _).setCell (by simp; omega) _

theorem arith_bad2 (k1 k2 : Nat) (n1 n2 : Int) (s1 s2 : ByteArray) (F : Value) (w : World) (h : Vl.right ⟨k1, n1, s1⟩ = true) (h2 : Vl.right ⟨k2, n2, s2⟩ = false) :
    Calls Try.prog 34 #[.agg #[.int .u8 k1, .int .i64 n1, .string s1], .agg #[.int .u8 k2, .int .i64 n2, .string s2], F] w (RetV w (nullV, 3)) := by
  go_enter Try.func34, Try.ntmps34
  go_wp2_with fail
  refine (right_any k1 n1 s1 _).mono ?_
  rw [h]
  rintro e w1 ⟨rfl, hb⟩
  obtain ⟨S3, S4, S6, hz⟩ := slots3 _ _ _ _ _ _ _ _ _ _ _ _ hb
  have hw : Below w.heap.size w w1 := Below.trans ((((Below.refl _ _).alloc (Nat.le_refl _) _).alloc (by simp) _).alloc (by simp; omega) _) (Below.mono hb (by simp <;> omega))
  clear hb
  obtain ⟨p0, p1, p2, p3, p4, p5⟩ := id S3
  obtain ⟨q0, q1, q2, q3, q4, q5⟩ := id S4
  obtain ⟨r0, r1, r2, r3, r4, r5⟩ := id S6
  go_wp2_with fail
  clear p0 p1 p2 p3 p4 p5 q0 q1 q2 q3 q4 q5 r0 r1 r2 r3 r4 r5
  refine (right_any k2 n2 s2 _).mono ?_
  rw [h2]
  rintro e w2 ⟨rfl, hb⟩
  replace S3 := S3.later hb (by omega)
  replace S4 := S4.later hb (by omega)
  replace S6 := S6.later hb (by omega)
  replace hw := hw.trans (Below.mono hb (by omega))
  replace hz := Nat.le_trans hz (Below.size hb)
  clear hb
  go_wp2_with fail
  refine (null_any _).mono ?_
  rintro e w3 ⟨rfl, hb⟩
  replace S3 := S3.later hb (by omega)
  replace S4 := S4.later hb (by omega)
  replace S6 := S6.later hb (by omega)
  replace hw := hw.trans (Below.mono hb (by omega))
  replace hz := Nat.le_trans hz (Below.size hb)
  clear hb
  obtain ⟨p0, p1, p2, p3, p4, p5⟩ := id S3
  obtain ⟨q0, q1, q2, q3, q4, q5⟩ := id S4
  obtain ⟨r0, r1, r2, r3, r4, r5⟩ := id S6
  go_wp2
  refine bodyPost_ret (v := .tuple #[.agg #[.int .u8 0, .int .i64 0, .string ⟨#[]⟩], .int .i64 3]) (by simp [results, Try.results34, go_sem, *]) rfl ⟨rfl, ?_⟩
  exact ((hw.setCell (by simp; omega) _).setCell (by simp; omega) _).setCell (by simp; omega) _

theorem arith_type1 (k1 k2 : Nat) (n1 n2 : Int) (s1 s2 : ByteArray) (F : Value) (w : World) (h : Vl.right ⟨k1, n1, s1⟩ = true) (h2 : Vl.right ⟨k2, n2, s2⟩ = true) (h3 : decide (k1 ≤ 1) = false) :
    Calls Try.prog 34 #[.agg #[.int .u8 k1, .int .i64 n1, .string s1], .agg #[.int .u8 k2, .int .i64 n2, .string s2], F] w (RetV w (nullV, 20)) := by
  go_enter Try.func34, Try.ntmps34
  go_wp2_with fail
  refine (right_any k1 n1 s1 _).mono ?_
  rw [h]
  rintro e w1 ⟨rfl, hb⟩
  obtain ⟨S3, S4, S6, hz⟩ := slots3 _ _ _ _ _ _ _ _ _ _ _ _ hb
  have hw : Below w.heap.size w w1 := Below.trans ((((Below.refl _ _).alloc (Nat.le_refl _) _).alloc (by simp) _).alloc (by simp; omega) _) (Below.mono hb (by simp <;> omega))
  clear hb
  obtain ⟨p0, p1, p2, p3, p4, p5⟩ := id S3
  obtain ⟨q0, q1, q2, q3, q4, q5⟩ := id S4
  obtain ⟨r0, r1, r2, r3, r4, r5⟩ := id S6
  go_wp2_with fail
  clear p0 p1 p2 p3 p4 p5 q0 q1 q2 q3 q4 q5 r0 r1 r2 r3 r4 r5
  refine (right_any k2 n2 s2 _).mono ?_
  rw [h2]
  rintro e w2 ⟨rfl, hb⟩
  replace S3 := S3.later hb (by omega)
  replace S4 := S4.later hb (by omega)
  replace S6 := S6.later hb (by omega)
  replace hw := hw.trans (Below.mono hb (by omega))
  replace hz := Nat.le_trans hz (Below.size hb)
  clear hb
  obtain ⟨p0, p1, p2, p3, p4, p5⟩ := id S3
  obtain ⟨q0, q1, q2, q3, q4, q5⟩ := id S4
  obtain ⟨r0, r1, r2, r3, r4, r5⟩ := id S6
  go_wp2_with fail
  clear p0 p1 p2 p3 p4 p5 q0 q1 q2 q3 q4 q5 r0 r1 r2 r3 r4 r5
  refine (isNumeric_any k1 n1 s1 _).mono ?_
  rw [h3]
  rintro e w3 ⟨rfl, hb⟩
  replace S3 := S3.later hb (by omega)
  replace S4 := S4.later hb (by omega)
  replace S6 := S6.later hb (by omega)
  replace hw := hw.trans (Below.mono hb (by omega))
  replace hz := Nat.le_trans hz (Below.size hb)
  clear hb
  go_wp2_with fail
  refine (null_any _).mono ?_
  rintro e w4 ⟨rfl, hb⟩
  replace S3 := S3.later hb (by omega)
  replace S4 := S4.later hb (by omega)
  replace S6 := S6.later hb (by omega)
  replace hw := hw.trans (Below.mono hb (by omega))
  replace hz := Nat.le_trans hz (Below.size hb)
  clear hb
  obtain ⟨p0, p1, p2, p3, p4, p5⟩ := id S3
  obtain ⟨q0, q1, q2, q3, q4, q5⟩ := id S4
  obtain ⟨r0, r1, r2, r3, r4, r5⟩ := id S6
  go_wp2
  refine bodyPost_ret (v := .tuple #[.agg #[.int .u8 0, .int .i64 0, .string ⟨#[]⟩], .int .i64 20]) (by simp [results, Try.results34, go_sem, *]) rfl ⟨rfl, ?_⟩
  exact ((hw.setCell (by simp; omega) _).setCell (by simp; omega) _).setCell (by simp; omega) _

theorem arith_type2 (k1 k2 : Nat) (n1 n2 : Int) (s1 s2 : ByteArray) (F : Value) (w : World) (h : Vl.right ⟨k1, n1, s1⟩ = true) (h2 : Vl.right ⟨k2, n2, s2⟩ = true) (h3 : decide (k1 ≤ 1) = true) (h4 : decide (k2 ≤ 1) = false) :
    Calls Try.prog 34 #[.agg #[.int .u8 k1, .int .i64 n1, .string s1], .agg #[.int .u8 k2, .int .i64 n2, .string s2], F] w (RetV w (nullV, 20)) := by
  go_enter Try.func34, Try.ntmps34
  go_wp2_with fail
  refine (right_any k1 n1 s1 _).mono ?_
  rw [h]
  rintro e w1 ⟨rfl, hb⟩
  obtain ⟨S3, S4, S6, hz⟩ := slots3 _ _ _ _ _ _ _ _ _ _ _ _ hb
  have hw : Below w.heap.size w w1 := Below.trans ((((Below.refl _ _).alloc (Nat.le_refl _) _).alloc (by simp) _).alloc (by simp; omega) _) (Below.mono hb (by simp <;> omega))
  clear hb
  obtain ⟨p0, p1, p2, p3, p4, p5⟩ := id S3
  obtain ⟨q0, q1, q2, q3, q4, q5⟩ := id S4
  obtain ⟨r0, r1, r2, r3, r4, r5⟩ := id S6
  go_wp2_with fail
  clear p0 p1 p2 p3 p4 p5 q0 q1 q2 q3 q4 q5 r0 r1 r2 r3 r4 r5
  refine (right_any k2 n2 s2 _).mono ?_
  rw [h2]
  rintro e w2 ⟨rfl, hb⟩
  replace S3 := S3.later hb (by omega)
  replace S4 := S4.later hb (by omega)
  replace S6 := S6.later hb (by omega)
  replace hw := hw.trans (Below.mono hb (by omega))
  replace hz := Nat.le_trans hz (Below.size hb)
  clear hb
  obtain ⟨p0, p1, p2, p3, p4, p5⟩ := id S3
  obtain ⟨q0, q1, q2, q3, q4, q5⟩ := id S4
  obtain ⟨r0, r1, r2, r3, r4, r5⟩ := id S6
  go_wp2_with fail
  clear p0 p1 p2 p3 p4 p5 q0 q1 q2 q3 q4 q5 r0 r1 r2 r3 r4 r5
  refine (isNumeric_any k1 n1 s1 _).mono ?_
  rw [h3]
  rintro e w3 ⟨rfl, hb⟩
  replace S3 := S3.later hb (by omega)
  replace S4 := S4.later hb (by omega)
  replace S6 := S6.later hb (by omega)
  replace hw := hw.trans (Below.mono hb (by omega))
  replace hz := Nat.le_trans hz (Below.size hb)
  clear hb
  obtain ⟨p0, p1, p2, p3, p4, p5⟩ := id S3
  obtain ⟨q0, q1, q2, q3, q4, q5⟩ := id S4
  obtain ⟨r0, r1, r2, r3, r4, r5⟩ := id S6
  go_wp2_with fail
  clear p0 p1 p2 p3 p4 p5 q0 q1 q2 q3 q4 q5 r0 r1 r2 r3 r4 r5
  refine (isNumeric_any k2 n2 s2 _).mono ?_
  rw [h4]
  rintro e w4 ⟨rfl, hb⟩
  replace S3 := S3.later hb (by omega)
  replace S4 := S4.later hb (by omega)
  replace S6 := S6.later hb (by omega)
  replace hw := hw.trans (Below.mono hb (by omega))
  replace hz := Nat.le_trans hz (Below.size hb)
  clear hb
  go_wp2_with fail
  refine (null_any _).mono ?_
  rintro e w5 ⟨rfl, hb⟩
  replace S3 := S3.later hb (by omega)
  replace S4 := S4.later hb (by omega)
  replace S6 := S6.later hb (by omega)
  replace hw := hw.trans (Below.mono hb (by omega))
  replace hz := Nat.le_trans hz (Below.size hb)
  clear hb
  obtain ⟨p0, p1, p2, p3, p4, p5⟩ := id S3
  obtain ⟨q0, q1, q2, q3, q4, q5⟩ := id S4
  obtain ⟨r0, r1, r2, r3, r4, r5⟩ := id S6
  go_wp2
  refine bodyPost_ret (v := .tuple #[.agg #[.int .u8 0, .int .i64 0, .string ⟨#[]⟩], .int .i64 20]) (by simp [results, Try.results34, go_sem, *]) rfl ⟨rfl, ?_⟩
  exact ((hw.setCell (by simp; omega) _).setCell (by simp; omega) _).setCell (by simp; omega) _

end Go.Proofs.Ytipeinkogoghnaa
