/- Several texts of one proof, one behind the other. -/
import Derived.Test.YthfgjkmfabmipaaJQk7
import Derived.Laws.StructEq
import Derived.Lib.Hide
set_option linter.unusedSimpArgs false
set_option linter.unusedVariables false

/- '==' of two values of SQL. -/
set_option linter.unusedSimpArgs false
set_option linter.unusedVariables false
set_option maxRecDepth 100000
namespace Go.Proofs.Ythfgjkmfabmipaa
open Go.RowKit

theorem isEmpty_size (s : ByteArray) : s.toList.isEmpty = decide (s.size = 0) := by
  have : s.toList = s.data.toList := ByteArray.toList_eq s
  rw [this]
  cases h : s.data.toList with
  | nil => simp [ByteArray.size, ← Array.length_toList, h]
  | cons x r => simp [ByteArray.size, ← Array.length_toList, h]
end Go.Proofs.Ythfgjkmfabmipaa

/- The walk of cell.Right. -/
set_option linter.unusedSimpArgs false
set_option linter.unusedVariables false
set_option maxRecDepth 100000
namespace Go.Proofs.Ythfgjkmfabmipaa
open Go.RowKit

/-- A boxed value is there in every later world. -/
theorem box_later (w : World) (T : TypeId) (v0 v1 v2 : Value) : ∀ W, Later (w.alloc (.cells #[v0, v1, v2] T)) W →
    W.cell? ⟨w.heap.size, 0, none⟩ = some v0 ∧ W.cell? ⟨w.heap.size, 1, none⟩ = some v1 ∧ W.cell? ⟨w.heap.size, 2, none⟩ = some v2 := by
  intro W h
  have hs : (w.alloc (.cells #[v0, v1, v2] T)).heap.size = w.heap.size + 1 := by simp
  refine ⟨?_, ?_, ?_⟩
  · rw [h.cell (p := ⟨w.heap.size, 0, none⟩) (by rw [hs]; simp), World.cell?_alloc_new]; rfl
  · rw [h.cell (p := ⟨w.heap.size, 1, none⟩) (by rw [hs]; simp), World.cell?_alloc_new]; rfl
  · rw [h.cell (p := ⟨w.heap.size, 2, none⟩) (by rw [hs]; simp), World.cell?_alloc_new]; rfl

theorem Later.undrew {w W : World} (h : Later w.drew W) : Later w W := (Below.refl _ _).drew.trans h

/-- What holds in every later world goes on holding. -/
theorem later_next {w w1 : World} {p : World → Prop} (h : ∀ W, Later w W → p W) (hl : Later w w1) : ∀ W, Later w1 W → p W := fun W hW => h W (hl.trans hW)

end Go.Proofs.Ythfgjkmfabmipaa

/- The walks of cell.add, sub, mul, div, mod: int64s. -/
set_option linter.unusedSimpArgs false
set_option linter.unusedVariables false
set_option maxRecDepth 100000
namespace Go.Proofs.Ythfgjkmfabmipaa
open Go.RowKit

theorem fits_yes {n : Int} (h1 : -9223372036854775808 ≤ n) (h2 : n ≤ 9223372036854775807) : fits n = true := (fits_iff n).2 ⟨h1, h2⟩
theorem fits_no {n : Int} (h : n < -9223372036854775808 ∨ 9223372036854775807 < n) : fits n = false := by
  cases hf : fits n with
  | false => rfl
  | true => have := (fits_iff n).1 hf; omega

theorem div_fits (x y : Int) (hx1 : -9223372036854775808 ≤ x) (hx2 : x ≤ 9223372036854775807) (hy : y ≠ 0) (h : ¬ (x = -9223372036854775808 ∧ y = -1)) : -9223372036854775808 ≤ x.tdiv y ∧ x.tdiv y ≤ 9223372036854775807 := by
  have h1 : (x.tdiv y).natAbs = x.natAbs / y.natAbs := Int.natAbs_tdiv x y
  by_cases hy1 : y = -1
  · subst hy1
    rw [Int.tdiv_neg, Int.tdiv_one]; omega
  · by_cases hy2 : y = 1
    · subst hy2; rw [Int.tdiv_one]; omega
    · have : x.natAbs / y.natAbs ≤ x.natAbs / 2 := Nat.div_le_div_left (by omega) (by omega)
      omega

theorem mod_fits (x y : Int) (hx1 : -9223372036854775808 ≤ x) (hx2 : x ≤ 9223372036854775807) : -9223372036854775808 ≤ x.tmod y ∧ x.tmod y ≤ 9223372036854775807 := by
  have h1 : (x.tmod y).natAbs = x.natAbs % y.natAbs := Int.natAbs_tmod x y
  have h2 : x.natAbs % y.natAbs ≤ x.natAbs := Nat.mod_le _ _
  have h3 : 0 ≤ x → 0 ≤ x.tmod y := fun h => Int.tmod_nonneg y h
  by_cases h : 0 ≤ x
  · have := h3 h; omega
  · have h4 : x.tmod y = -((-x).tmod y) := by rw [Int.neg_tmod]; simp
    have h5 := Int.tmod_nonneg y (show 0 ≤ -x by omega)
    omega

end Go.Proofs.Ythfgjkmfabmipaa

/- The walks of cell.arith at its five operations. -/
set_option linter.unusedSimpArgs false
set_option linter.unusedVariables false
set_option maxRecDepth 100000
namespace Go.Proofs.Ythfgjkmfabmipaa
open Go.RowKit

/-- A variable of three cells, which may be written. -/
def Slot (w : World) (b : Nat) (v0 v1 v2 : Value) : Prop :=
  w.cell? ⟨b, 0, none⟩ = some v0 ∧ w.cell? ⟨b, 1, none⟩ = some v1 ∧ w.cell? ⟨b, 2, none⟩ = some v2 ∧ w.frozen? ⟨b, 0, none⟩ = false ∧ w.frozen? ⟨b, 1, none⟩ = false ∧ w.frozen? ⟨b, 2, none⟩ = false

theorem Slot.later {w w' : World} {b : Nat} {v0 v1 v2 : Value} (h : Slot w b v0 v1 v2) (hl : Later w w') (hb : b < w.heap.size) : Slot w' b v0 v1 v2 := by
  obtain ⟨h0, h1, h2, f0, f1, f2⟩ := h
  exact ⟨(hl.cell (p := ⟨b, 0, none⟩) hb).trans h0, (hl.cell (p := ⟨b, 1, none⟩) hb).trans h1, (hl.cell (p := ⟨b, 2, none⟩) hb).trans h2,
    (hl.frozen (p := ⟨b, 0, none⟩) hb).trans f0, (hl.frozen (p := ⟨b, 1, none⟩) hb).trans f1, (hl.frozen (p := ⟨b, 2, none⟩) hb).trans f2⟩

theorem Slot.new (w : World) (T : TypeId) (v0 v1 v2 : Value) : Slot (w.alloc (.cells #[v0, v1, v2] T)) w.heap.size v0 v1 v2 := by
  refine ⟨?_, ?_, ?_, ?_, ?_, ?_⟩
  · rw [World.cell?_alloc_new]; rfl
  · rw [World.cell?_alloc_new]; rfl
  · rw [World.cell?_alloc_new]; rfl
  · simp only [World.frozen?]; rw [heap_alloc_new]; simp
  · simp only [World.frozen?]; rw [heap_alloc_new]; simp
  · simp only [World.frozen?]; rw [heap_alloc_new]; simp

/-- Three variables, one behind the other. -/
theorem slots3 (w : World) (T : TypeId) (a0 a1 a2 b0 b1 b2 c0 c1 c2 : Value) (w' : World) (hl : Later (((w.alloc (.cells #[a0, a1, a2] T)).alloc (.cells #[b0, b1, b2] T)).alloc (.cells #[c0, c1, c2] T)) w') :
    Slot w' w.heap.size a0 a1 a2 ∧ Slot w' (w.heap.size + 1) b0 b1 b2 ∧ Slot w' (w.heap.size + 1 + 1) c0 c1 c2 ∧ w.heap.size + 3 ≤ w'.heap.size := by
  have e1 : (w.alloc (.cells #[a0, a1, a2] T)).heap.size = w.heap.size + 1 := by simp
  have e2 : ((w.alloc (.cells #[a0, a1, a2] T)).alloc (.cells #[b0, b1, b2] T)).heap.size = w.heap.size + 1 + 1 := by simp
  have e3 : (((w.alloc (.cells #[a0, a1, a2] T)).alloc (.cells #[b0, b1, b2] T)).alloc (.cells #[c0, c1, c2] T)).heap.size = w.heap.size + 1 + 1 + 1 := by simp
  have l1 : Later (w.alloc (.cells #[a0, a1, a2] T)) ((w.alloc (.cells #[a0, a1, a2] T)).alloc (.cells #[b0, b1, b2] T)) := (Below.refl _ _).alloc (Nat.le_refl _) _
  have l2 : Later ((w.alloc (.cells #[a0, a1, a2] T)).alloc (.cells #[b0, b1, b2] T)) (((w.alloc (.cells #[a0, a1, a2] T)).alloc (.cells #[b0, b1, b2] T)).alloc (.cells #[c0, c1, c2] T)) := (Below.refl _ _).alloc (Nat.le_refl _) _
  refine ⟨(((Slot.new w T a0 a1 a2).later l1 (by rw [e1]; omega)).later l2 (by rw [e2]; omega)).later hl (by rw [e3]; omega), ?_, ?_, ?_⟩
  · have := (Slot.new (w.alloc (.cells #[a0, a1, a2] T)) T b0 b1 b2)
    rw [e1] at this
    exact (this.later l2 (by rw [e2]; omega)).later hl (by rw [e3]; omega)
  · have := (Slot.new ((w.alloc (.cells #[a0, a1, a2] T)).alloc (.cells #[b0, b1, b2] T)) T c0 c1 c2)
    rw [e2] at this
    exact this.later hl (by rw [e3]; omega)
  · have := hl.size
    rw [e3] at this; omega

/-- A call hands back a value and an error. -/
def RetV (w : World) (r : Vl × Int) (e : Ending) (w' : World) : Prop :=
  e = .returned (.tuple #[.agg #[.int .u8 r.1.k, .int .i64 r.1.n, .string r.1.s], .int .i64 r.2]) ∧ Below w.heap.size w w'

theorem right_null {n : Int} {s : ByteArray} (h : Vl.right ⟨0, n, s⟩ = true) : n = 0 ∧ s = ⟨#[]⟩ := by
  simp [Vl.right] at h
  exact ⟨h.1, h.2⟩
theorem right_num {n : Int} {s : ByteArray} (h : Vl.right ⟨1, n, s⟩ = true) : s = ⟨#[]⟩ := by
  simp [Vl.right] at h
  exact h

end Go.Proofs.Ythfgjkmfabmipaa

/- Plain mathematics of layer 3: the bytes of a row, and the row of bytes. -/
set_option linter.unusedSimpArgs false
set_option linter.unusedVariables false
set_option maxRecDepth 100000
namespace Go.Proofs.Ythfgjkmfabmipaa
open Go.RowKit

theorem getS_bound : ∀ (D : List Nat) (i v0 v n : Nat), (∀ c ∈ D, c < 256) → i ≤ 9 → v0 < 128 ^ i → getS D i v0 = (v, n, 0) → v < 18446744073709551616
  | [], i, v0, v, n, _, _, _, h => by simp [getS] at h
  | c :: r, i, v0, v, n, hD, hi, hv, h => by
    have hc := hD c (by simp)
    unfold getS at h
    split at h
    · simp at h
    · split at h
      · simp at h
      · split at h
        · rename_i h1 h2 h3
          simp only [Prod.mk.injEq, and_true] at h
          have := fits7 c i v0 hv (by omega)
          rw [Nat.mod_eq_of_lt h3] at this
          omega
        · rename_i h1 h2 h3
          have h9 : i ≠ 9 := by omega
          have hg := grow7 c i v0 hv
          rw [show c % 128 = c - 128 by omega] at hg
          exact getS_bound r (i + 1) _ v n (fun d hd => hD d (by simp [hd])) (by omega) (by omega) h
/-- The bytes of a value. -/
def encV (x : Vl) : List Nat := if x.k = 0 then [0] else if x.k = 1 then 1 :: putL (zigN x.n) else x.k :: textL x.s

/-- The bytes of values. -/
def encL (l : List Vl) : List Nat := l.flatMap encV

/-- The value that begins at an index, and the index behind it. -/
def decV (l : List Nat) (p : Nat) : Option (Vl × Nat) :=
  match l[p]? with
  | none => none
  | some k =>
    if k = 0 then some (⟨0, 0, ⟨#[]⟩⟩, p + 1)
    else if k = 1 then (if (getR l ((p + 1 : Nat) : Int)).2.2 = 0 then some (⟨1, zagZ (getR l ((p + 1 : Nat) : Int)).1, ⟨#[]⟩⟩, (getR l ((p + 1 : Nat) : Int)).2.1.toNat) else none)
    else if k = 2 ∨ k = 3 then (if (textR l ((p + 1 : Nat) : Int)).2.2 = 0 then some (⟨k, 0, (textR l ((p + 1 : Nat) : Int)).1⟩, (textR l ((p + 1 : Nat) : Int)).2.1.toNat) else none)
    else none

/-- The value's text is short enough for a machine, its integer an int64. -/
def Vl.fair (x : Vl) : Prop := x.k < 256 ∧ (-9223372036854775808 ≤ x.n ∧ x.n ≤ 9223372036854775807) ∧ x.s.size < 18446744073709551616

theorem textR_at (A B : List Nat) (s : ByteArray) (hs : s.size < 18446744073709551616) : textR (A ++ (textL s ++ B)) (A.length : Nat) = (s, (A.length : Int) + (textL s).length, 0) := by
  unfold textR textL
  rw [List.append_assoc, getR_put A (bytesOf s ++ B) s.size hs]
  simp only [ne_eq, not_true_eq_false, if_false]
  rw [if_neg (by simp [bytesOf_len]; omega)]
  have e : ((A.length : Int) + (putL s.size).length).toNat = A.length + (putL s.size).length := by omega
  have e2 : List.drop (A.length + (putL s.size).length) (A ++ (putL s.size ++ (bytesOf s ++ B))) = bytesOf s ++ B := by
    rw [← List.append_assoc, ← List.length_append, List.drop_left]
  rw [e, e2, List.take_left' (bytesOf_len s), strN_bytesOf]
  simp [bytesOf_len]; omega

theorem right_kind {x : Vl} (h : x.right = true) : (x = ⟨0, 0, ⟨#[]⟩⟩) ∨ (x = ⟨1, x.n, ⟨#[]⟩⟩) ∨ ((x.k = 2 ∨ x.k = 3) ∧ x = ⟨x.k, 0, x.s⟩) := by
  obtain ⟨k, n, s⟩ := x
  unfold Vl.right at h
  by_cases h0 : k = 0
  · subst h0
    have := right_null (n := n) (s := s) (by unfold Vl.right; exact h)
    rw [this.1, this.2]; exact .inl rfl
  · by_cases h1 : k = 1
    · subst h1
      have := right_num (n := n) (s := s) (by unfold Vl.right; exact h)
      rw [this]; exact .inr (.inl rfl)
    · simp only [if_neg h0, if_neg h1] at h
      by_cases h2 : k = 2 ∨ k = 3
      · simp only [if_pos h2, decide_eq_true_eq] at h
        subst h
        exact .inr (.inr ⟨h2, rfl⟩)
      · simp only [if_neg h2] at h; cases h

theorem decV_enc (A B : List Nat) (x : Vl) (hr : x.right = true) (hf : x.fair) : decV (A ++ (encV x ++ B)) A.length = some (x, A.length + (encV x).length) := by
  rcases right_kind hr with h | h | ⟨hk, h⟩
  · rw [h]; unfold decV encV; simp
  · obtain ⟨k, n, s⟩ := x
    simp only [Vl.mk.injEq] at h
    obtain ⟨rfl, -, rfl⟩ := h
    have hg := getR_put (A ++ [1]) B (zigN n) (zigN_lt n hf.2.1.1 hf.2.1.2)
    unfold decV encV
    simp only [List.append_assoc, List.cons_append, List.nil_append, List.length_append, List.length_cons, List.length_nil] at hg
    simp only [List.getElem?_append_right (Nat.le_refl _), Nat.sub_self, List.cons_append, List.getElem?_cons_zero, if_neg (show ¬ 1 = 0 by omega), if_true]
    rw [Nat.zero_add] at hg
    rw [hg]
    simp only [if_true, zag_zig, Option.some.injEq, Prod.mk.injEq, true_and, List.length_cons]
    omega
  · obtain ⟨k, n, s⟩ := x
    simp only [Vl.mk.injEq] at h
    obtain ⟨-, rfl, -⟩ := h
    simp only at hk
    have hg := textR_at (A ++ [k]) B s hf.2.2
    unfold decV encV
    simp only [List.append_assoc, List.cons_append, List.nil_append, List.length_append, List.length_cons, List.length_nil] at hg
    rw [Nat.zero_add] at hg
    simp only [List.getElem?_append_right (Nat.le_refl _), Nat.sub_self, if_neg (show ¬ k = 0 by omega), if_neg (show ¬ k = 1 by omega), List.cons_append, List.getElem?_cons_zero, if_pos hk]
    rw [hg]
    simp only [if_true, Option.some.injEq, Prod.mk.injEq, true_and, List.length_cons]
    omega

theorem textR_only (l : List Nat) (h256 : ∀ c ∈ l, c < 256) (p : Nat) (s : ByteArray) (n : Int) (h : textR l (p : Nat) = (s, n, 0)) :
    ∃ m : Nat, n = m ∧ p < m ∧ m ≤ l.length ∧ s.size ≤ l.length ∧ textL s = (l.drop p).take (m - p) := by
  unfold textR at h
  obtain ⟨G, hG⟩ : ∃ G, getR l (p : Nat) = G := ⟨_, rfl⟩
  obtain ⟨v, gn, ge⟩ := G
  simp only [hG] at h
  by_cases h0 : ge ≠ 0
  · rw [if_pos h0] at h
    simp only [Prod.mk.injEq] at h
    exact absurd h.2.2 h0
  · rw [if_neg h0] at h
    by_cases h1 : (l.length : Int) - gn < (v : Int)
    · rw [if_pos h1] at h
      simp at h
    · rw [if_neg h1] at h
      simp only [Prod.mk.injEq, and_true] at h
      have h0' : ge = 0 := by omega
      subst h0'
      obtain ⟨_, m, rfl, h3, h4, h5⟩ := getR_only l h256 p v gn hG
      have hs : s.size = v := by
        rw [← h.1, strN_size, List.length_take, List.length_drop]; omega
      have hb : bytesOf s = (l.drop m).take v := by
        rw [← h.1]
        unfold bytesOf strN
        simp only [List.map_map, Int.toNat_natCast]
        conv => rhs; rw [← List.map_id ((l.drop m).take v)]
        apply List.map_congr_left
        intro c hc
        have := h256 c (List.mem_of_mem_drop (List.mem_of_mem_take hc))
        simp [Nat.mod_eq_of_lt this]
      refine ⟨m + v, by omega, by omega, by omega, by omega, ?_⟩
      unfold textL
      rw [hs, hb, h5]
      rw [Int.toNat_natCast]
      have e : l.drop m = (l.drop p).drop (m - p) := by rw [List.drop_drop]; congr 1; omega
      rw [e, ← List.take_add]
      congr 1; omega

theorem enc_decV (l : List Nat) (h256 : ∀ c ∈ l, c < 256) (hl : l.length < 18446744073709551616) (p : Nat) (x : Vl) (n : Nat) (h : decV l p = some (x, n)) :
    x.right = true ∧ x.fair ∧ x.s.size ≤ l.length ∧ p < n ∧ n ≤ l.length ∧ encV x = (l.drop p).take (n - p) := by
  unfold decV at h
  cases hk : l[p]? with
  | none => rw [hk] at h; cases h
  | some k =>
    rw [hk] at h
    simp only [] at h
    have hp : p < l.length := by
      by_cases hp : p < l.length
      · exact hp
      · rw [List.getElem?_eq_none (by omega)] at hk; cases hk
    have hd : l.drop p = k :: l.drop (p + 1) := by
      rw [List.drop_eq_getElem_cons hp]
      rw [List.getElem?_eq_getElem hp] at hk
      simp only [Option.some.injEq] at hk
      rw [hk]
    by_cases h0 : k = 0
    · rw [if_pos h0] at h
      simp only [Option.some.injEq, Prod.mk.injEq] at h
      obtain ⟨rfl, rfl⟩ := h
      refine ⟨rfl, ⟨by simp, by simp, by decide⟩, by simp [ByteArray.size], by omega, by omega, ?_⟩
      rw [hd, h0, show p + 1 - p = 1 by omega]; rfl
    · rw [if_neg h0] at h
      by_cases h1 : k = 1
      · rw [if_pos h1] at h
        by_cases he : (getR l ((p + 1 : Nat) : Int)).2.2 = 0
        · rw [if_pos he] at h
          obtain ⟨G, hG⟩ : ∃ G, getR l ((p + 1 : Nat) : Int) = G := ⟨_, rfl⟩
          obtain ⟨v, gn, ge⟩ := G
          rw [hG] at h he
          simp only at he
          subst he
          simp only [Option.some.injEq, Prod.mk.injEq] at h
          obtain ⟨rfl, rfl⟩ := h
          obtain ⟨_, m, rfl, h3, h4, h5⟩ := getR_only l h256 _ v gn hG
          have hv : v < 18446744073709551616 := by
            unfold getR at hG
            rw [if_neg (by omega)] at hG
            simp only [Int.toNat_natCast] at hG
            obtain ⟨S, hS⟩ : ∃ S, getS (l.drop (p + 1)) 0 0 = S := ⟨_, rfl⟩
            obtain ⟨sv, sn, se⟩ := S
            rw [hS] at hG
            simp only [] at hG
            by_cases hse : se = 0
            · rw [if_pos hse] at hG
              subst hse
              have hb := getS_bound (l.drop (p + 1)) 0 0 sv sn (fun c hc => h256 c (List.mem_of_mem_drop hc)) (by omega) (by simp) hS
              simp only [Prod.mk.injEq, and_true] at hG
              omega
            · rw [if_neg hse] at hG
              simp only [Prod.mk.injEq] at hG
              omega
          have hb := zagZ_bd v hv
          refine ⟨rfl, ⟨by simp, hb, by simp [ByteArray.size]⟩, by simp [ByteArray.size], by simp only [Int.toNat_natCast]; omega, by simp only [Int.toNat_natCast]; omega, ?_⟩
          unfold encV
          simp only [if_neg (show ¬ 1 = 0 by omega), if_true, zig_zag]
          rw [hd, h5, h1]
          simp only [Int.toNat_natCast]
          rw [show m - p = (m - (p + 1)) + 1 by omega, List.take_succ_cons]
        · rw [if_neg he] at h; cases h
      · rw [if_neg h1] at h
        by_cases h2 : k = 2 ∨ k = 3
        · rw [if_pos h2] at h
          by_cases he : (textR l ((p + 1 : Nat) : Int)).2.2 = 0
          · rw [if_pos he] at h
            obtain ⟨G, hG⟩ : ∃ G, textR l ((p + 1 : Nat) : Int) = G := ⟨_, rfl⟩
            obtain ⟨v, gn, ge⟩ := G
            rw [hG] at h he
            simp only at he
            subst he
            simp only [Option.some.injEq, Prod.mk.injEq] at h
            obtain ⟨rfl, rfl⟩ := h
            obtain ⟨m, rfl, h3, h4, h5, h6⟩ := textR_only l h256 _ v gn hG
            refine ⟨?_, ⟨by simp only; omega, by simp, by simp only; omega⟩, h5, by simp only [Int.toNat_natCast]; omega, by simp only [Int.toNat_natCast]; omega, ?_⟩
            · unfold Vl.right
              simp only [if_neg h0, if_neg h1, if_pos h2]; rfl
            · unfold encV
              simp only [if_neg h0, if_neg h1]
              rw [hd, h6]
              simp only [Int.toNat_natCast]
              rw [show m - p = (m - (p + 1)) + 1 by omega, List.take_succ_cons]
          · rw [if_neg he] at h; cases h
        · rw [if_neg h2] at h; cases h

/-- The first i values from index p on. -/
def readN (l : List Nat) (p : Nat) : Nat → Option (List Vl × Nat)
  | 0 => some ([], p)
  | i + 1 => match readN l p i with
    | none => none
    | some (acc, q) => match decV l q with
      | none => none
      | some (x, n) => some (acc ++ [x], n)

theorem readN_none {l : List Nat} {p i : Nat} (h : readN l p i = none) : ∀ j, i ≤ j → readN l p j = none := by
  intro j hj
  induction j with
  | zero => rw [show i = 0 by omega] at h; exact h
  | succ j ih =>
    by_cases e : i = j + 1
    · rw [← e]; exact h
    · rw [readN, ih (by omega)]

theorem encL_snoc (l : List Vl) (x : Vl) : encL (l ++ [x]) = encL l ++ encV x := by simp [encL]

theorem encL_take (l : List Vl) (i : Nat) (h : i < l.length) : encL (l.take (i + 1)) = encL (l.take i) ++ encV l[i] := by
  rw [List.take_succ_eq_append_getElem h, encL_snoc]

theorem encL_split (l : List Vl) (i : Nat) (h : i < l.length) : encL l = encL (l.take i) ++ (encV l[i] ++ encL (l.drop (i + 1))) := by
  unfold encL
  conv => lhs; rw [← List.take_append_drop i l, List.drop_eq_getElem_cons h]
  rw [List.flatMap_append, List.flatMap_cons]

theorem readN_enc (A B : List Nat) (l : List Vl) (hr : ∀ x ∈ l, x.right = true) (hf : ∀ x ∈ l, x.fair) : ∀ i, i ≤ l.length → readN (A ++ (encL l ++ B)) A.length i = some (l.take i, A.length + (encL (l.take i)).length) := by
  intro i
  induction i with
  | zero => intro _; simp [readN, encL]
  | succ i ih =>
    intro hi
    have hi' : i < l.length := by omega
    rw [readN, ih (by omega)]
    simp only []
    have h := decV_enc (A ++ encL (l.take i)) (encL (l.drop (i + 1)) ++ B) l[i] (hr _ (List.getElem_mem hi')) (hf _ (List.getElem_mem hi'))
    have e : (A ++ encL (l.take i)) ++ (encV l[i] ++ (encL (l.drop (i + 1)) ++ B)) = A ++ (encL l ++ B) := by
      rw [encL_split l i hi']; simp
    rw [e, List.length_append] at h
    rw [h]
    simp only [Option.some.injEq, Prod.mk.injEq]
    rw [encL_take l i hi', List.length_append, List.take_succ_eq_append_getElem hi']
    exact ⟨rfl, by omega⟩

theorem take_more (l : List Nat) (p q n : Nat) (h1 : p ≤ q) (h2 : q ≤ n) : (l.drop p).take (q - p) ++ (l.drop q).take (n - q) = (l.drop p).take (n - p) := by
  have e : l.drop q = (l.drop p).drop (q - p) := by rw [List.drop_drop]; congr 1; omega
  rw [e, ← List.take_add]
  congr 1; omega

theorem enc_readN (l : List Nat) (h256 : ∀ c ∈ l, c < 256) (hl : l.length < 18446744073709551616) (p : Nat) (hp : p ≤ l.length) : ∀ (i : Nat) (acc : List Vl) (q : Nat), readN l p i = some (acc, q) →
    acc.length = i ∧ (∀ x ∈ acc, x.right = true) ∧ (∀ x ∈ acc, x.fair) ∧ (∀ x ∈ acc, x.s.size ≤ l.length) ∧ p + i ≤ q ∧ q ≤ l.length ∧ encL acc = (l.drop p).take (q - p) := by
  intro i
  induction i with
  | zero =>
    intro acc q h
    simp only [readN, Option.some.injEq, Prod.mk.injEq] at h
    obtain ⟨rfl, rfl⟩ := h
    exact ⟨rfl, by simp, by simp, by simp, by omega, hp, by simp [encL]⟩
  | succ i ih =>
    intro acc q h
    rw [readN] at h
    cases hR : readN l p i with
    | none => rw [hR] at h; cases h
    | some R =>
      obtain ⟨acc0, q0⟩ := R
      rw [hR] at h
      simp only [] at h
      obtain ⟨a1, a2, a3, a4, a5, a6, a7⟩ := ih acc0 q0 hR
      cases hD : decV l q0 with
      | none => rw [hD] at h; cases h
      | some D =>
        obtain ⟨x, n⟩ := D
        rw [hD] at h
        simp only [Option.some.injEq, Prod.mk.injEq] at h
        obtain ⟨rfl, rfl⟩ := h
        obtain ⟨b1, b2, b3, b4, b5, b6⟩ := enc_decV l h256 hl q0 x n hD
        refine ⟨by simp [a1], ?_, ?_, ?_, by omega, b5, ?_⟩
        · intro y hy; rcases List.mem_append.1 hy with hy | hy
          · exact a2 y hy
          · rw [List.mem_singleton.1 hy]; exact b1
        · intro y hy; rcases List.mem_append.1 hy with hy | hy
          · exact a3 y hy
          · rw [List.mem_singleton.1 hy]; exact b2
        · intro y hy; rcases List.mem_append.1 hy with hy | hy
          · exact a4 y hy
          · rw [List.mem_singleton.1 hy]; exact b3
        · rw [encL_snoc, a7, b6]
          exact take_more l p q0 n (by omega) (by omega)

/-- May be a row? -/
def rowOk (l : List Vl) : Bool := decide (l.length ≤ 16) && l.all Vl.right

/-- What is written of a row: its bytes, the error. -/
def writeV (l : List Vl) : List Nat × Int :=
  if rowOk l = false then ([], 3) else if 8192 < 1 + (encL l).length then ([], 2) else (l.length :: encL l, 0)

/-- What is read of bytes: the row, the error. -/
def readV (l : List Nat) : List Vl × Int :=
  if 8192 < l.length then ([], 2)
  else if (getR l 0).2.2 ≠ 0 ∨ 16 < (getR l 0).1 then ([], 3)
  else match readN l (getR l 0).2.1.toNat (getR l 0).1 with
    | none => ([], 3)
    | some (acc, q) => if q ≠ l.length then ([], 3) else (acc, 0)

theorem rowOk_iff (l : List Vl) : rowOk l = true ↔ l.length ≤ 16 ∧ ∀ x ∈ l, x.right = true := by
  simp [rowOk]

theorem encV_lt (x : Vl) (hk : x.k < 256) : ∀ c ∈ encV x, c < 256 := by
  intro c hc
  unfold encV at hc
  split at hc
  · simp at hc; omega
  · split at hc
    · rcases List.mem_cons.1 hc with rfl | hc
      · omega
      · exact putL_byte _ c hc
    · rcases List.mem_cons.1 hc with rfl | hc
      · exact hk
      · rcases List.mem_append.1 hc with hc | hc
        · exact putL_byte _ c hc
        · exact bytesOf_lt _ c hc

theorem encL_lt (l : List Vl) (hk : ∀ x ∈ l, x.k < 256) : ∀ c ∈ encL l, c < 256 := by
  intro c hc
  obtain ⟨x, hx, hc⟩ := List.mem_flatMap.1 hc
  exact encV_lt x (hk x hx) c hc

/-- The first byte says how many values there are. -/
theorem first_byte (l : List Nat) (h256 : ∀ c ∈ l, c < 256) : (l = [] ∧ (getR l 0).2.2 ≠ 0) ∨
    (∃ c r, l = c :: r ∧ c ≤ 16 ∧ getR l 0 = (c, 1, 0)) ∨ (∃ c r, l = c :: r ∧ 16 < c ∧ ((getR l 0).2.2 ≠ 0 ∨ 16 < (getR l 0).1)) := by
  cases l with
  | nil => left; exact ⟨rfl, by decide⟩
  | cons c r =>
    right
    have hc := h256 c (by simp)
    by_cases h : c < 128
    · have hg : getR (c :: r) 0 = (c, 1, 0) := by
        unfold getR
        rw [if_neg (by simp; omega)]
        simp [getS, h]
      by_cases h16 : c ≤ 16
      · exact .inl ⟨c, r, rfl, h16, hg⟩
      · exact .inr ⟨c, r, rfl, by omega, .inr (by rw [hg]; simp only; omega)⟩
    · refine .inr ⟨c, r, rfl, by omega, ?_⟩
      obtain ⟨G, hG⟩ : ∃ G, getR (c :: r) 0 = G := ⟨_, rfl⟩
      obtain ⟨v, n, e⟩ := G
      by_cases he : e = 0
      · subst he
        obtain ⟨_, m, rfl, h3, h4, h5⟩ := getR_only (c :: r) h256 0 v n hG
        rw [hG]
        right
        by_cases hv : v < 128
        · rw [putL_small hv] at h5
          simp only [Int.toNat_zero, List.drop_zero, Nat.sub_zero] at h5
          obtain ⟨m', rfl⟩ : ∃ m', m = m' + 1 := ⟨m - 1, by omega⟩
          rw [List.take_succ_cons] at h5
          simp only [List.cons.injEq] at h5
          omega
        · simp only; omega
      · left; rw [hG]; exact he
end Go.Proofs.Ythfgjkmfabmipaa

/- Plain mathematics of layer 4: the bytes of a key, and the tuple of bytes. -/
set_option linter.unusedSimpArgs false
set_option linter.unusedVariables false
set_option maxRecDepth 100000
namespace Go.Proofs.Ythfgjkmfabmipaa
open Go.RowKit


/-- An integer, moved so that none is negative. -/
def up64 (n : Int) : Nat := (n + 9223372036854775808).toNat

/-- Eight bytes, the greatest first. -/
def whole8 (m : Nat) : List Nat := [m / 72057594037927936 % 256, m / 281474976710656 % 256, m / 1099511627776 % 256, m / 4294967296 % 256, m / 16777216 % 256, m / 65536 % 256, m / 256 % 256, m % 256]

/-- The number that bytes are, the greatest first. -/
def unB (l : List Nat) : Nat := l.foldl (fun n c => n * 256 + c) 0

/-- A string's bytes, each 0 marked. -/
def escL (l : List Nat) : List Nat := l.flatMap fun c => if c = 0 then [0, 255] else [c]

/-- The part of a key for a value. -/
def encK (x : Vl) : List Nat := if x.k = 0 then [16] else if x.k = 1 then 17 :: whole8 (up64 x.n) else (16 + x.k) :: (escL (bytesOf x.s) ++ [0, 1])
def keyL (l : List Vl) : List Nat := l.flatMap encK

def writeK (l : List Vl) : List Nat × Int := if rowOk l = false then ([], 3) else if 100 < (keyL l).length then ([], 2) else (keyL l, 0)

/-- The string whose marked form bytes begin with, and how many bytes that form has. -/
def unesc : List Nat → Option (List Nat × Nat)
  | [] => none
  | [_] => none
  | c :: d :: r => if c = 0 then (if d = 1 then some ([], 2) else if d = 255 then (unesc r).map (fun p => (0 :: p.1, p.2 + 2)) else none) else (unesc (d :: r)).map (fun p => (c :: p.1, p.2 + 1))

/-- The value that a key begins with, and how many bytes it has. -/
def decK : List Nat → Option (Vl × Nat)
  | [] => none
  | k :: r =>
    if k = 16 then some (⟨0, 0, ⟨#[]⟩⟩, 1)
    else if k = 17 then (if 8 ≤ r.length then some (⟨1, (unB (r.take 8) : Int) - 9223372036854775808, ⟨#[]⟩⟩, 9) else none)
    else if k = 18 ∨ k = 19 then (match unesc r with | none => none | some (s, n) => some (⟨k - 16, 0, strN s⟩, 1 + n))
    else none

/-- The tuple of a key; fuel: no less than its bytes. -/
def tupF : Nat → List Vl → List Nat → Option (List Vl)
  | 0, acc, b => if b = [] then some acc else none
  | f + 1, acc, b => if b = [] then some acc else match decK b with
    | none => none
    | some (x, n) => if acc.length = 16 then none else tupF f (acc ++ [x]) (b.drop n)

def tupK (b : List Nat) : Option (List Vl) := tupF b.length [] b

def readK (b : List Nat) : List Vl × Int := if 100 < b.length then ([], 2) else match tupK b with | none => ([], 3) | some l => (l, 0)

theorem unesc_cons {c : Nat} (h : c ≠ 0) (r : List Nat) : unesc (c :: r) = (unesc r).map (fun p => (c :: p.1, p.2 + 1)) := by
  cases r with
  | nil => rfl
  | cons d r => rw [unesc, if_neg h]

theorem unesc_zero (d : Nat) (r : List Nat) : unesc (0 :: d :: r) = if d = 1 then some ([], 2) else if d = 255 then (unesc r).map (fun p => (0 :: p.1, p.2 + 2)) else none := by
  rw [unesc, if_pos rfl]

theorem escL_cons0 (l : List Nat) : escL (0 :: l) = 0 :: 255 :: escL l := rfl
theorem escL_cons {c : Nat} (h : c ≠ 0) (l : List Nat) : escL (c :: l) = c :: escL l := by
  unfold escL; rw [List.flatMap_cons, if_neg h]; rfl

theorem unesc_esc (B : List Nat) : ∀ (l : List Nat), unesc (escL l ++ (0 :: 1 :: B)) = some (l, (escL l).length + 2)
  | [] => by rw [show escL [] = [] from rfl, List.nil_append, unesc_zero, if_pos rfl]; try rfl
  | c :: l => by
    have ih := unesc_esc B l
    by_cases h : c = 0
    · subst h
      rw [escL_cons0, List.cons_append, List.cons_append, unesc_zero, if_neg (by omega), if_pos rfl, ih]
      simp
    · rw [escL_cons h, List.cons_append, unesc_cons h, ih]
      simp

theorem esc_unesc : ∀ (n : Nat) (b : List Nat), b.length ≤ n → ∀ (s : List Nat) (m : Nat), unesc b = some (s, m) → m ≤ b.length ∧ 2 ≤ m ∧ escL s ++ [0, 1] = b.take m ∧ (∀ c ∈ s, c ∈ b)
  | 0, b, hn, s, m, h => by
    have : b = [] := List.length_eq_zero_iff.1 (by omega)
    subst this; simp [unesc] at h
  | n + 1, [], hn, s, m, h => by simp [unesc] at h
  | n + 1, c :: r, hn, s, m, h => by
    by_cases hc : c = 0
    · subst hc
      cases r with
      | nil => simp [unesc] at h
      | cons d r =>
        rw [unesc_zero] at h
        by_cases h1 : d = 1
        · rw [if_pos h1] at h
          simp only [Option.some.injEq, Prod.mk.injEq] at h
          obtain ⟨rfl, rfl⟩ := h
          subst h1
          refine ⟨by simp, by omega, ?_, by simp⟩
          simp [escL]
        · rw [if_neg h1] at h
          by_cases h2 : d = 255
          · rw [if_pos h2] at h
            subst h2
            cases hu : unesc r with
            | none => rw [hu] at h; simp at h
            | some p =>
              obtain ⟨s', m'⟩ := p
              rw [hu] at h
              simp only [Option.map_some, Option.some.injEq, Prod.mk.injEq] at h
              obtain ⟨rfl, rfl⟩ := h
              obtain ⟨i1, i2, i3, i4⟩ := esc_unesc n r (by simp at hn; omega) s' m' hu
              refine ⟨by simp; omega, by omega, ?_, ?_⟩
              · rw [escL_cons0, show m' + 2 = m' + 1 + 1 by omega, List.take_succ_cons, List.take_succ_cons, ← i3]; rfl
              · intro x hx
                rcases List.mem_cons.1 hx with rfl | hx
                · simp
                · simp [i4 x hx]
          · rw [if_neg h2] at h; cases h
    · rw [unesc_cons hc] at h
      cases hu : unesc r with
      | none => rw [hu] at h; simp at h
      | some p =>
        obtain ⟨s', m'⟩ := p
        rw [hu] at h
        simp only [Option.map_some, Option.some.injEq, Prod.mk.injEq] at h
        obtain ⟨rfl, rfl⟩ := h
        obtain ⟨i1, i2, i3, i4⟩ := esc_unesc n r (by simp at hn; omega) s' m' hu
        refine ⟨by simp; omega, by omega, ?_, ?_⟩
        · rw [escL_cons hc, List.take_succ_cons, ← i3]; rfl
        · intro x hx
          rcases List.mem_cons.1 hx with rfl | hx
          · simp
          · simp [i4 x hx]

theorem unB_whole8 (m : Nat) (h : m < 18446744073709551616) : unB (whole8 m) = m := by
  simp only [unB, whole8, List.foldl_cons, List.foldl_nil]
  omega

theorem whole8_lt (m : Nat) : ∀ c ∈ whole8 m, c < 256 := by
  intro c hc
  simp only [whole8, List.mem_cons, List.not_mem_nil, or_false] at hc
  omega

theorem whole8_unB (l : List Nat) (h8 : l.length = 8) (h : ∀ c ∈ l, c < 256) : whole8 (unB l) = l ∧ unB l < 18446744073709551616 := by
  match l, h8 with
  | [a, b, c, d, e, f, g, i], _ =>
    have ha := h a (by simp)
    have hb := h b (by simp)
    have hc := h c (by simp)
    have hd := h d (by simp)
    have he := h e (by simp)
    have hf := h f (by simp)
    have hg := h g (by simp)
    have hi := h i (by simp)
    simp only [unB, whole8, List.foldl_cons, List.foldl_nil, List.cons.injEq, and_true]
    omega

theorem encK_pos (x : Vl) : 0 < (encK x).length := by
  unfold encK; split
  · simp
  · split <;> simp

theorem encK_lt (x : Vl) (hk : x.k < 240) : ∀ c ∈ encK x, c < 256 := by
  intro c hc
  unfold encK at hc
  split at hc
  · simp at hc; omega
  · split at hc
    · rcases List.mem_cons.1 hc with rfl | hc
      · omega
      · exact whole8_lt _ c hc
    · rcases List.mem_cons.1 hc with rfl | hc
      · omega
      · rcases List.mem_append.1 hc with hc | hc
        · obtain ⟨d, hd, hc⟩ := List.mem_flatMap.1 hc
          have := bytesOf_lt _ d hd
          split at hc
          · simp at hc; omega
          · simp at hc; omega
        · simp at hc; omega

theorem decK_enc (B : List Nat) (x : Vl) (hr : x.right = true) (hf : x.fair) : decK (encK x ++ B) = some (x, (encK x).length) := by
  rcases right_kind hr with h | h | ⟨hk, h⟩
  · rw [h]; rfl
  · obtain ⟨k, n, s⟩ := x
    simp only [Vl.mk.injEq] at h
    obtain ⟨rfl, -, rfl⟩ := h
    have h1 := hf.2.1.1
    have h2 := hf.2.1.2
    simp only at h1 h2
    have hm : up64 n < 18446744073709551616 := by unfold up64; omega
    have e : encK ⟨1, n, ⟨#[]⟩⟩ = 17 :: whole8 (up64 n) := rfl
    rw [e, List.cons_append, decK, if_neg (by omega), if_pos rfl, if_pos (by simp [whole8])]
    have e8 : (whole8 (up64 n)).length = 8 := rfl
    rw [List.take_left' e8, unB_whole8 _ hm]
    simp only [List.length_cons, e8, Option.some.injEq, Prod.mk.injEq, Vl.mk.injEq, and_true, true_and]
    unfold up64; omega
  · obtain ⟨k, n, s⟩ := x
    simp only [Vl.mk.injEq] at h
    obtain ⟨-, rfl, -⟩ := h
    simp only at hk
    have e : encK ⟨k, 0, s⟩ = (16 + k) :: (escL (bytesOf s) ++ [0, 1]) := by unfold encK; rw [if_neg (by simp only; omega), if_neg (by simp only; omega)]
    rw [e, List.cons_append, decK, if_neg (by omega), if_neg (by omega), if_pos (by omega)]
    have e2 : escL (bytesOf s) ++ [0, 1] ++ B = escL (bytesOf s) ++ (0 :: 1 :: B) := by simp
    rw [e2, unesc_esc]
    simp only [strN_bytesOf, List.length_cons, List.length_append, List.length_nil, Option.some.injEq, Prod.mk.injEq, Vl.mk.injEq, and_true]
    omega

theorem bytesOf_strN (l : List Nat) (h : ∀ c ∈ l, c < 256) : bytesOf (strN l) = l := by
  unfold bytesOf strN
  simp only [List.map_map]
  conv => rhs; rw [← List.map_id l]
  apply List.map_congr_left
  intro c hc
  simp [Nat.mod_eq_of_lt (h c hc)]

theorem enc_decK (b : List Nat) (h256 : ∀ c ∈ b, c < 256) (hl : b.length < 18446744073709551616) (x : Vl) (n : Nat) (h : decK b = some (x, n)) :
    x.right = true ∧ x.fair ∧ 0 < n ∧ n ≤ b.length ∧ encK x = b.take n ∧ x.s.size ≤ b.length := by
  cases b with
  | nil => simp [decK] at h
  | cons k r =>
    rw [decK] at h
    by_cases h16 : k = 16
    · rw [if_pos h16] at h
      simp only [Option.some.injEq, Prod.mk.injEq] at h
      obtain ⟨rfl, rfl⟩ := h
      subst h16
      exact ⟨rfl, ⟨by simp, by simp, by simp [ByteArray.size]⟩, by omega, by simp, by simp [encK], by simp [ByteArray.size]⟩
    · rw [if_neg h16] at h
      by_cases h17 : k = 17
      · rw [if_pos h17] at h
        by_cases h8 : 8 ≤ r.length
        · rw [if_pos h8] at h
          simp only [Option.some.injEq, Prod.mk.injEq] at h
          obtain ⟨rfl, rfl⟩ := h
          obtain ⟨w1, w2⟩ := whole8_unB (r.take 8) (by rw [List.length_take]; omega) (fun c hc => h256 c (by simp [List.mem_of_mem_take hc]))
          refine ⟨rfl, ⟨by simp, ⟨by simp only; omega, by simp only; omega⟩, by simp [ByteArray.size]⟩, by omega, by simp; omega, ?_, by simp [ByteArray.size]⟩
          unfold encK
          rw [if_neg (by simp), if_pos rfl, List.take_succ_cons, h17]
          have : up64 ((unB (r.take 8) : Int) - 9223372036854775808) = unB (r.take 8) := by unfold up64; omega
          rw [this, w1]
        · rw [if_neg h8] at h; cases h
      · rw [if_neg h17] at h
        by_cases h18 : k = 18 ∨ k = 19
        · rw [if_pos h18] at h
          cases hu : unesc r with
          | none => rw [hu] at h; cases h
          | some p =>
            obtain ⟨s, m⟩ := p
            rw [hu] at h
            simp only [Option.some.injEq, Prod.mk.injEq] at h
            obtain ⟨rfl, rfl⟩ := h
            obtain ⟨i1, i2, i3, i4⟩ := esc_unesc r.length r (Nat.le_refl _) s m hu
            have hs256 : ∀ c ∈ s, c < 256 := fun c hc => h256 c (by simp [i4 c hc])
            have hsl : s.length ≤ r.length := by
              have e := congrArg List.length i3
              rw [List.length_append, List.length_take] at e
              have hesc : s.length ≤ (escL s).length := by
                clear e i3 i4 hu hs256
                induction s with
                | nil => simp
                | cons c s ih =>
                  by_cases hc : c = 0
                  · subst hc; rw [escL_cons0]; simp; omega
                  · rw [escL_cons hc]; simp; omega
              simp only [List.length_cons, List.length_nil] at e
              omega
            refine ⟨?_, ⟨by simp only; omega, by simp, by rw [strN_size]; simp at hl; omega⟩, by omega, by simp; omega, ?_, by rw [strN_size]; simp; omega⟩
            · unfold Vl.right
              rw [if_neg (by simp only; omega), if_neg (by simp only; omega), if_pos (by simp only; omega)]; rfl
            · have e0 : ¬ (k - 16 = 0) := by omega
              have e1 : ¬ (k - 16 = 1) := by omega
              unfold encK
              simp only [if_neg e0, if_neg e1]
              rw [bytesOf_strN s hs256, show 1 + m = m + 1 by omega, List.take_succ_cons, i3]
              congr 1; omega
        · rw [if_neg h18] at h; cases h

theorem keyL_cons (x : Vl) (l : List Vl) : keyL (x :: l) = encK x ++ keyL l := rfl
theorem keyL_snoc (l : List Vl) (x : Vl) : keyL (l ++ [x]) = keyL l ++ encK x := by simp [keyL]
theorem keyL_take (l : List Vl) (i : Nat) (h : i < l.length) : keyL (l.take (i + 1)) = keyL (l.take i) ++ encK l[i] := by
  rw [List.take_succ_eq_append_getElem h, keyL_snoc]

theorem tup_enc : ∀ (l : List Vl) (acc : List Vl) (f : Nat), (∀ x ∈ l, x.right = true) → (∀ x ∈ l, x.fair) → acc.length + l.length ≤ 16 → (keyL l).length ≤ f → tupF f acc (keyL l) = some (acc ++ l)
  | [], acc, f, _, _, _, _ => by
    cases f with
    | zero => simp [tupF, keyL]
    | succ f => simp [tupF, keyL]
  | x :: l, acc, f, hr, hf, h16, hlen => by
    have hp := encK_pos x
    rw [keyL_cons] at hlen ⊢
    rw [List.length_append] at hlen
    have hne : encK x ++ keyL l ≠ [] := by intro h; have := congrArg List.length h; rw [List.length_append] at this; simp only [List.length_nil] at this; omega
    cases f with
    | zero => omega
    | succ f =>
      rw [tupF, if_neg hne, decK_enc (keyL l) x (hr x (by simp)) (hf x (by simp))]
      simp only []
      rw [if_neg (by simp at h16; omega), List.drop_left]
      rw [tup_enc l (acc ++ [x]) f (fun y hy => hr y (by simp [hy])) (fun y hy => hf y (by simp [hy])) (by simp at h16 ⊢; omega) (by omega)]
      simp

theorem enc_tup : ∀ (f : Nat) (acc : List Vl) (b : List Nat), (∀ c ∈ b, c < 256) → b.length ≤ f → b.length < 18446744073709551616 → acc.length ≤ 16 → ∀ L, tupF f acc b = some L →
    ∃ M, L = acc ++ M ∧ keyL M = b ∧ (∀ x ∈ M, x.right = true) ∧ (∀ x ∈ M, x.fair) ∧ L.length ≤ 16 ∧ (∀ x ∈ M, x.s.size ≤ b.length)
  | 0, acc, b, _, _, _, ha, L, h => by
    rw [tupF] at h
    by_cases hb : b = []
    · rw [if_pos hb] at h
      simp only [Option.some.injEq] at h
      subst h hb
      exact ⟨[], by simp, rfl, by simp, by simp, ha, by simp⟩
    · rw [if_neg hb] at h; cases h
  | f + 1, acc, b, h256, hlen, hl, ha, L, h => by
    rw [tupF] at h
    by_cases hb : b = []
    · rw [if_pos hb] at h
      simp only [Option.some.injEq] at h
      subst h hb
      exact ⟨[], by simp, rfl, by simp, by simp, ha, by simp⟩
    · rw [if_neg hb] at h
      cases hd : decK b with
      | none => rw [hd] at h; cases h
      | some p =>
        obtain ⟨x, n⟩ := p
        rw [hd] at h
        simp only [] at h
        by_cases h16 : acc.length = 16
        · rw [if_pos h16] at h; cases h
        · rw [if_neg h16] at h
          obtain ⟨d1, d2, d3, d4, d5, d6⟩ := enc_decK b h256 hl x n hd
          obtain ⟨M, e1, e2, e3, e4, e5, e6⟩ := enc_tup f (acc ++ [x]) (b.drop n) (fun c hc => h256 c (List.mem_of_mem_drop hc)) (by rw [List.length_drop]; omega) (by rw [List.length_drop]; omega) (by simp; omega) L h
          refine ⟨x :: M, by simp [e1], by rw [keyL_cons, e2, d5, List.take_append_drop], ?_, ?_, e5, ?_⟩
          · intro y hy; rcases List.mem_cons.1 hy with rfl | hy
            · exact d1
            · exact e3 y hy
          · intro y hy; rcases List.mem_cons.1 hy with rfl | hy
            · exact d2
            · exact e4 y hy
          · intro y hy; rcases List.mem_cons.1 hy with rfl | hy
            · exact d6
            · have := e6 y hy; rw [List.length_drop] at this; omega
end Go.Proofs.Ythfgjkmfabmipaa
