/- Several texts of one proof, one behind the other. -/
import Derived.Test.YtlcphgomhhejbaaNPk20
import Derived.Laws.StructEq
import Derived.Deep.Cut
import Derived.IntWalk
set_option linter.unusedSimpArgs false
set_option linter.unusedVariables false

/- The walks of slices.Equal over strings, cells and integers, and of node.Same. -/
namespace Go.Proofs.Ytlcphgomhhejbaa
open Go.RowKit

theorem take_stepG {α : Type} {l m : List α} {k : Nat} (hk : k < l.length) (hm : k < m.length) (h : l.take k = m.take k) (he : l[k] = m[k]) : l.take (k + 1) = m.take (k + 1) := by
  rw [List.take_succ_eq_append_getElem hk, List.take_succ_eq_append_getElem hm, h, he]
theorem ne_of_getG {α : Type} {l m : List α} {k : Nat} (hk : k < l.length) (hm : k < m.length) (he : l[k] ≠ m[k]) : l ≠ m := by
  rintro rfl; exact he rfl

@[go_sem high] theorem eqCell (n n' p p' : Int) (s s' : ByteArray) (w : World) : (Op.equalIn 10000 63 (.agg #[.int .i64 n, .string s, .int .i64 p]) (.agg #[.int .i64 n', .string s', .int .i64 p'])).run Try.prog w = .ok (n == n' && (s.toList == s'.toList && p == p')) w := by
  have hS : Try.prog.underlying 63 = some (.struct (Try.prog.fieldsOf 63)) := by kernel_rfl
  have hp : Try.prog.stoodInHeld 63 = false := by kernel_rfl
  rw [show (10000 : Nat) = 9999 + 1 from rfl, run_equalIn_agg w 9999 63 _ _ hS hp]
  simp only [Program.fieldsOf, Try.underlying63]
  go_simp
  by_cases h1 : n = n' <;> by_cases h2 : s.toList = s'.toList <;> by_cases h3 : p = p' <;> simp [h1, h2, h3]
@[go_sem] theorem eqGuardCell : Try.prog.eqGuardType Try.prog.depth 63 = false := by kernel_rfl

theorem ne_cell (n n' p p' : Int) (s s' : ByteArray) (h : (⟨n, s, p⟩ : Cl) ≠ ⟨n', s', p'⟩) : (n == n' && (s.toList == s'.toList && p == p')) = false := by
  rw [Bool.eq_false_iff]
  intro hb
  simp only [Bool.and_eq_true, beq_iff_eq] at hb
  obtain ⟨rfl, h2, rfl⟩ := hb
  exact h (by rw [toList_inj h2])

set_option maxHeartbeats 2000000 in
theorem equalS_any (l m : List ByteArray) (a : Option Addr) (len cap : Nat) (a' : Option Addr) (len' cap' : Nat) (w : World) (hV : Arr w.heap.size w a (cellsS l)) (hlen : len = l.length) (hV' : Arr w.heap.size w a' (cellsS m)) (hlen' : len' = m.length)
    (hmax : len ≤ 140737488355328) (hmax' : len' ≤ 140737488355328) :
    Calls Try.prog 44 #[.slice a len cap, .slice a' len' cap'] w fun e w' => e = .returned (.bool (decide (l = m))) ∧ Below w.heap.size w w' := by
  have HV := Lib.hid hV
  have HV' := Lib.hid hV'
  have HL := Lib.hid hlen
  have HL' := Lib.hid hlen'
  by_cases hne : len = len'
  · subst hne
    clear hV hV' hlen hlen'
    go_enter Try.func44, Try.ntmps44
    go_wp2
    go_loopw [13] (fun i wr => ∃ k : Nat, k ≤ len ∧ i = .int .i64 k ∧ Hid (l.take k = m.take k) ∧ Below w.heap.size w wr) (fun i _ => len - (intOf i).toNat)
    case atStart => exact ⟨0, by omega, rfl, by simp [Hid], Below.refl _ _⟩
    case round =>
      obtain ⟨k, hk, rfl, HI, hb⟩ := hrel
      have hsz := hb.size
      by_cases hlt : k < len
      · have hkl : k < l.length := by have := HL.out; omega
        have hkm : k < m.length := by have := HL'.out; omega
        obtain ⟨b, o, rfl, hbN, c0⟩ := strAt HV.out hkl
        obtain ⟨b', o', rfl, hbN', g0⟩ := strAt HV'.out hkm
        have d0 : ∀ W, Later wr.drew W → W.cell? ⟨b, o + k, none⟩ = some (.string l[k]) := fun W h => ((Later.undrew h : Below wr.heap.size wr W).cell (p := ⟨b, o + k, none⟩) (by show b < wr.heap.size; omega)).trans ((hb.cell (p := ⟨b, o + k, none⟩) hbN).trans c0)
        have e0 : ∀ W, Later wr.drew W → W.cell? ⟨b', o' + k, none⟩ = some (.string m[k]) := fun W h => ((Later.undrew h : Below wr.heap.size wr W).cell (p := ⟨b', o' + k, none⟩) (by show b' < wr.heap.size; omega)).trans ((hb.cell (p := ⟨b', o' + k, none⟩) hbN').trans g0)
        clear c0 g0
        have HT : Hid (l[k] = m[k] → l.take (k + 1) = m.take (k + 1)) := fun h => take_stepG hkl hkm HI.out h
        have HF : Hid (l[k] ≠ m[k] → decide (l = m) = false) := fun h => decide_eq_false (ne_of_getG hkl hkm h)
        obtain ⟨x, hx⟩ : ∃ x, x = l[k] := ⟨_, rfl⟩
        obtain ⟨y, hy⟩ : ∃ y, y = m[k] := ⟨_, rfl⟩
        rw [← hx] at d0 HT HF
        rw [← hy] at e0 HT HF
        clear hx hy
        by_cases hxy : x = y
        · subst hxy
          have HT2 := Lib.hid (HT.out rfl)
          clear HT HF
          go_wp2_with fail
          refine wp_region_ord [(0, true), (1, true), (2, true), (3, true), (4, true), (5, true), (6, true), (7, true), (8, true)] (by kernel_rfl) (by kernel_rfl) (by kernel_rfl) (by kernel_rfl) ?_
          repeat (first | (refine wpO_F (v := ?_) rfl (by rfl) (fun w' hL => ?_) ?_; rotate_left; (solve | (go_simp; with_reducible rfl) | go_simp); try simp only [Act.put, List.setIfInBounds_toArray, List.set_cons_zero, List.set_cons_succ]) | (refine wpO_G rfl (by rfl) ?_; try simp only [Act.put, List.setIfInBounds_toArray, List.set_cons_zero, List.set_cons_succ]))
          refine wpO_nil ?_
          clear d0 e0
          go_wp2
          go_roundw
          case rel => exact ⟨k + 1, by omega, by go_num, HT2, hb.drew⟩
          case measure => simp [intOf]; omega
        · have HF2 := Lib.hid (HF.out hxy)
          have hnb : (x.toList == y.toList) = false := by rw [beq_eq_false_iff_ne]; exact fun h => hxy (toList_inj h)
          have hnb2 : ¬ x.toList = y.toList := fun h => hxy (toList_inj h)
          clear HT HF hxy
          go_wp2_with fail
          refine wp_region_ord [(0, true), (1, true), (2, true), (3, true), (4, true), (5, true), (6, true), (7, true), (8, true)] (by kernel_rfl) (by kernel_rfl) (by kernel_rfl) (by kernel_rfl) ?_
          repeat (first | (refine wpO_F (v := ?_) rfl (by rfl) (fun w' hL => ?_) ?_; rotate_left; (solve | (go_simp; with_reducible rfl) | go_simp); try simp only [Act.put, List.setIfInBounds_toArray, List.set_cons_zero, List.set_cons_succ]) | (refine wpO_G rfl (by rfl) ?_; try simp only [Act.put, List.setIfInBounds_toArray, List.set_cons_zero, List.set_cons_succ]))
          refine wpO_nil ?_
          clear d0 e0
          go_wp2
          go_ret
          exact ⟨ret_b HF2.out.symm, hb.drew⟩
      · have hall : l = m := by
          have h1 : l.take k = l := List.take_of_length_le (by have := HL.out; omega)
          have h2 : m.take k = m := List.take_of_length_le (by have := HL'.out; omega)
          have := HI.out
          rw [h1, h2] at this; exact this
        have HA : Hid (decide (l = m) = true) := decide_eq_true hall
        clear hall
        go_wp2
        go_ret
        exact ⟨ret_b HA.out.symm, hb⟩
  · have HA : Hid (decide (l = m) = false) := decide_eq_false (by rintro rfl; exact hne (hlen.trans hlen'.symm))
    have hne' : ((len : Int) != (len' : Int)) = true := by simp; omega
    clear hV hV' hlen hlen'
    go_enter Try.func44, Try.ntmps44
    go_wp2
    go_ret
    exact ⟨ret_b HA.out.symm, Below.refl _ _⟩

set_option maxHeartbeats 2000000 in
theorem equalI_any (l m : List Int) (a : Option Addr) (len cap : Nat) (a' : Option Addr) (len' cap' : Nat) (w : World) (hV : Arr w.heap.size w a (cellsI l)) (hlen : len = l.length) (hV' : Arr w.heap.size w a' (cellsI m)) (hlen' : len' = m.length)
    (hmax : len ≤ 140737488355328) (hmax' : len' ≤ 140737488355328) :
    Calls Try.prog 46 #[.slice a len cap, .slice a' len' cap'] w fun e w' => e = .returned (.bool (decide (l = m))) ∧ Below w.heap.size w w' := by
  have HV := Lib.hid hV
  have HV' := Lib.hid hV'
  have HL := Lib.hid hlen
  have HL' := Lib.hid hlen'
  by_cases hne : len = len'
  · subst hne
    clear hV hV' hlen hlen'
    go_enter Try.func46, Try.ntmps46
    go_wp2
    go_loopw [13] (fun i wr => ∃ k : Nat, k ≤ len ∧ i = .int .i64 k ∧ Hid (l.take k = m.take k) ∧ Below w.heap.size w wr) (fun i _ => len - (intOf i).toNat)
    case atStart => exact ⟨0, by omega, rfl, by simp [Hid], Below.refl _ _⟩
    case round =>
      obtain ⟨k, hk, rfl, HI, hb⟩ := hrel
      have hsz := hb.size
      by_cases hlt : k < len
      · have hkl : k < l.length := by have := HL.out; omega
        have hkm : k < m.length := by have := HL'.out; omega
        obtain ⟨b, o, rfl, hbN, c0⟩ := intAt HV.out hkl
        obtain ⟨b', o', rfl, hbN', g0⟩ := intAt HV'.out hkm
        have d0 : ∀ W, Later wr.drew W → W.cell? ⟨b, o + k, none⟩ = some (.int .i64 l[k]) := fun W h => ((Later.undrew h : Below wr.heap.size wr W).cell (p := ⟨b, o + k, none⟩) (by show b < wr.heap.size; omega)).trans ((hb.cell (p := ⟨b, o + k, none⟩) hbN).trans c0)
        have e0 : ∀ W, Later wr.drew W → W.cell? ⟨b', o' + k, none⟩ = some (.int .i64 m[k]) := fun W h => ((Later.undrew h : Below wr.heap.size wr W).cell (p := ⟨b', o' + k, none⟩) (by show b' < wr.heap.size; omega)).trans ((hb.cell (p := ⟨b', o' + k, none⟩) hbN').trans g0)
        clear c0 g0
        have HT : Hid (l[k] = m[k] → l.take (k + 1) = m.take (k + 1)) := fun h => take_stepG hkl hkm HI.out h
        have HF : Hid (l[k] ≠ m[k] → decide (l = m) = false) := fun h => decide_eq_false (ne_of_getG hkl hkm h)
        obtain ⟨x, hx⟩ : ∃ x, x = l[k] := ⟨_, rfl⟩
        obtain ⟨y, hy⟩ : ∃ y, y = m[k] := ⟨_, rfl⟩
        rw [← hx] at d0 HT HF
        rw [← hy] at e0 HT HF
        clear hx hy
        by_cases hxy : x = y
        · subst hxy
          have HT2 := Lib.hid (HT.out rfl)
          clear HT HF
          go_wp2_with fail
          refine wp_region_ord [(0, true), (1, true), (2, true), (3, true), (4, true), (5, true), (6, true), (7, true), (8, true)] (by kernel_rfl) (by kernel_rfl) (by kernel_rfl) (by kernel_rfl) ?_
          repeat (first | (refine wpO_F (v := ?_) rfl (by rfl) (fun w' hL => ?_) ?_; rotate_left; (solve | (go_simp; with_reducible rfl) | go_simp); try simp only [Act.put, List.setIfInBounds_toArray, List.set_cons_zero, List.set_cons_succ]) | (refine wpO_G rfl (by rfl) ?_; try simp only [Act.put, List.setIfInBounds_toArray, List.set_cons_zero, List.set_cons_succ]))
          refine wpO_nil ?_
          clear d0 e0
          go_wp2
          go_roundw
          case rel => exact ⟨k + 1, by omega, by go_num, HT2, hb.drew⟩
          case measure => simp [intOf]; omega
        · have HF2 := Lib.hid (HF.out hxy)
          have hnb : (x == y) = false := by simpa using hxy
          have hnb2 : (x != y) = true := by simpa using hxy
          clear HT HF hxy
          go_wp2_with fail
          refine wp_region_ord [(0, true), (1, true), (2, true), (3, true), (4, true), (5, true), (6, true), (7, true), (8, true)] (by kernel_rfl) (by kernel_rfl) (by kernel_rfl) (by kernel_rfl) ?_
          repeat (first | (refine wpO_F (v := ?_) rfl (by rfl) (fun w' hL => ?_) ?_; rotate_left; (solve | (go_simp; with_reducible rfl) | go_simp); try simp only [Act.put, List.setIfInBounds_toArray, List.set_cons_zero, List.set_cons_succ]) | (refine wpO_G rfl (by rfl) ?_; try simp only [Act.put, List.setIfInBounds_toArray, List.set_cons_zero, List.set_cons_succ]))
          refine wpO_nil ?_
          clear d0 e0
          go_wp2
          go_ret
          exact ⟨ret_b HF2.out.symm, hb.drew⟩
      · have hall : l = m := by
          have h1 : l.take k = l := List.take_of_length_le (by have := HL.out; omega)
          have h2 : m.take k = m := List.take_of_length_le (by have := HL'.out; omega)
          have := HI.out
          rw [h1, h2] at this; exact this
        have HA : Hid (decide (l = m) = true) := decide_eq_true hall
        clear hall
        go_wp2
        go_ret
        exact ⟨ret_b HA.out.symm, hb⟩
  · have HA : Hid (decide (l = m) = false) := decide_eq_false (by rintro rfl; exact hne (hlen.trans hlen'.symm))
    have hne' : ((len : Int) != (len' : Int)) = true := by simp; omega
    clear hV hV' hlen hlen'
    go_enter Try.func46, Try.ntmps46
    go_wp2
    go_ret
    exact ⟨ret_b HA.out.symm, Below.refl _ _⟩

set_option maxHeartbeats 2000000 in
theorem equalC_any (l m : List Cl) (a : Option Addr) (len cap : Nat) (a' : Option Addr) (len' cap' : Nat) (w : World) (hV : Arr w.heap.size w a (cellsC l)) (hlen : len = l.length) (hV' : Arr w.heap.size w a' (cellsC m)) (hlen' : len' = m.length)
    (hmax : len ≤ 140737488355328) (hmax' : len' ≤ 140737488355328) :
    Calls Try.prog 45 #[.slice a len cap, .slice a' len' cap'] w fun e w' => e = .returned (.bool (decide (l = m))) ∧ Below w.heap.size w w' := by
  have HV := Lib.hid hV
  have HV' := Lib.hid hV'
  have HL := Lib.hid hlen
  have HL' := Lib.hid hlen'
  by_cases hne : len = len'
  · subst hne
    clear hV hV' hlen hlen'
    go_enter Try.func45, Try.ntmps45
    go_wp2
    go_loopw [13] (fun i wr => ∃ k : Nat, k ≤ len ∧ i = .int .i64 k ∧ Hid (l.take k = m.take k) ∧ Below w.heap.size w wr) (fun i _ => len - (intOf i).toNat)
    case atStart => exact ⟨0, by omega, rfl, by simp [Hid], Below.refl _ _⟩
    case round =>
      obtain ⟨k, hk, rfl, HI, hb⟩ := hrel
      have hsz := hb.size
      by_cases hlt : k < len
      · have hkl : k < l.length := by have := HL.out; omega
        have hkm : k < m.length := by have := HL'.out; omega
        obtain ⟨b, o, rfl, hbN, c0, c1, c2⟩ := cellAt HV.out hkl
        obtain ⟨b', o', rfl, hbN', g0, g1, g2⟩ := cellAt HV'.out hkm
        have d0 : ∀ W, Later wr.drew W → W.cell? ⟨b, o + k * 3, none⟩ = some (.int .i64 l[k].len) := fun W h => ((Later.undrew h : Below wr.heap.size wr W).cell (p := ⟨b, o + k * 3, none⟩) (by show b < wr.heap.size; omega)).trans ((hb.cell (p := ⟨b, o + k * 3, none⟩) hbN).trans c0)
        have d1 : ∀ W, Later wr.drew W → W.cell? ⟨b, o + k * 3 + 1, none⟩ = some (.string l[k].data) := fun W h => ((Later.undrew h : Below wr.heap.size wr W).cell (p := ⟨b, o + k * 3 + 1, none⟩) (by show b < wr.heap.size; omega)).trans ((hb.cell (p := ⟨b, o + k * 3 + 1, none⟩) hbN).trans c1)
        have d2 : ∀ W, Later wr.drew W → W.cell? ⟨b, o + k * 3 + 2, none⟩ = some (.int .i64 l[k].page) := fun W h => ((Later.undrew h : Below wr.heap.size wr W).cell (p := ⟨b, o + k * 3 + 2, none⟩) (by show b < wr.heap.size; omega)).trans ((hb.cell (p := ⟨b, o + k * 3 + 2, none⟩) hbN).trans c2)
        have e0 : ∀ W, Later wr.drew W → W.cell? ⟨b', o' + k * 3, none⟩ = some (.int .i64 m[k].len) := fun W h => ((Later.undrew h : Below wr.heap.size wr W).cell (p := ⟨b', o' + k * 3, none⟩) (by show b' < wr.heap.size; omega)).trans ((hb.cell (p := ⟨b', o' + k * 3, none⟩) hbN').trans g0)
        have e1 : ∀ W, Later wr.drew W → W.cell? ⟨b', o' + k * 3 + 1, none⟩ = some (.string m[k].data) := fun W h => ((Later.undrew h : Below wr.heap.size wr W).cell (p := ⟨b', o' + k * 3 + 1, none⟩) (by show b' < wr.heap.size; omega)).trans ((hb.cell (p := ⟨b', o' + k * 3 + 1, none⟩) hbN').trans g1)
        have e2 : ∀ W, Later wr.drew W → W.cell? ⟨b', o' + k * 3 + 2, none⟩ = some (.int .i64 m[k].page) := fun W h => ((Later.undrew h : Below wr.heap.size wr W).cell (p := ⟨b', o' + k * 3 + 2, none⟩) (by show b' < wr.heap.size; omega)).trans ((hb.cell (p := ⟨b', o' + k * 3 + 2, none⟩) hbN').trans g2)
        clear c0 g0 c1 g1 c2 g2
        have HT : Hid (l[k] = m[k] → l.take (k + 1) = m.take (k + 1)) := fun h => take_stepG hkl hkm HI.out h
        have HF : Hid (l[k] ≠ m[k] → decide (l = m) = false) := fun h => decide_eq_false (ne_of_getG hkl hkm h)
        obtain ⟨x, hx⟩ : ∃ x, x = l[k] := ⟨_, rfl⟩
        obtain ⟨y, hy⟩ : ∃ y, y = m[k] := ⟨_, rfl⟩
        rw [← hx] at d0 d1 d2 HT HF
        rw [← hy] at e0 e1 e2 HT HF
        clear hx hy
        by_cases hxy : x = y
        · subst hxy
          have HT2 := Lib.hid (HT.out rfl)
          clear HT HF
          go_wp2_with fail
          refine wp_region_ord [(0, true), (1, true), (2, true), (3, true), (4, true), (5, true), (6, true), (7, true), (8, true)] (by kernel_rfl) (by kernel_rfl) (by kernel_rfl) (by kernel_rfl) ?_
          repeat (first | (refine wpO_F (v := ?_) rfl (by rfl) (fun w' hL => ?_) ?_; rotate_left; (solve | (go_simp; with_reducible rfl) | go_simp); try simp only [Act.put, List.setIfInBounds_toArray, List.set_cons_zero, List.set_cons_succ]) | (refine wpO_G rfl (by rfl) ?_; try simp only [Act.put, List.setIfInBounds_toArray, List.set_cons_zero, List.set_cons_succ]))
          refine wpO_nil ?_
          clear d0 d1 d2 e0 e1 e2
          go_wp2
          go_roundw
          case rel => exact ⟨k + 1, by omega, by go_num, HT2, hb.drew⟩
          case measure => simp [intOf]; omega
        · have HF2 := Lib.hid (HF.out hxy)
          obtain ⟨xn, xs, xp⟩ := x
          obtain ⟨yn, ys, yp⟩ := y
          have hnb := ne_cell xn yn xp yp xs ys hxy
          simp only at d0 d1 d2 e0 e1 e2
          clear HT HF hxy
          go_wp2_with fail
          refine wp_region_ord [(0, true), (1, true), (2, true), (3, true), (4, true), (5, true), (6, true), (7, true), (8, true)] (by kernel_rfl) (by kernel_rfl) (by kernel_rfl) (by kernel_rfl) ?_
          repeat (first | (refine wpO_F (v := ?_) rfl (by rfl) (fun w' hL => ?_) ?_; rotate_left; (solve | (go_simp; with_reducible rfl) | go_simp); try simp only [Act.put, List.setIfInBounds_toArray, List.set_cons_zero, List.set_cons_succ]) | (refine wpO_G rfl (by rfl) ?_; try simp only [Act.put, List.setIfInBounds_toArray, List.set_cons_zero, List.set_cons_succ]))
          refine wpO_nil ?_
          clear d0 d1 d2 e0 e1 e2
          go_wp2
          go_ret
          exact ⟨ret_b HF2.out.symm, hb.drew⟩
      · have hall : l = m := by
          have h1 : l.take k = l := List.take_of_length_le (by have := HL.out; omega)
          have h2 : m.take k = m := List.take_of_length_le (by have := HL'.out; omega)
          have := HI.out
          rw [h1, h2] at this; exact this
        have HA : Hid (decide (l = m) = true) := decide_eq_true hall
        clear hall
        go_wp2
        go_ret
        exact ⟨ret_b HA.out.symm, hb⟩
  · have HA : Hid (decide (l = m) = false) := decide_eq_false (by rintro rfl; exact hne (hlen.trans hlen'.symm))
    have hne' : ((len : Int) != (len' : Int)) = true := by simp; omega
    clear hV hV' hlen hlen'
    go_enter Try.func45, Try.ntmps45
    go_wp2
    go_ret
    exact ⟨ret_b HA.out.symm, Below.refl _ _⟩

set_option maxHeartbeats 4000000 in
theorem NSame_any (n n' : Nd) (m m' : NB) (w : World) (h : NAt w n m) (h' : NAt w n' m') :
    Calls Try.prog 20 #[m.v n.leaf, m'.v n'.leaf] w fun e w' => e = .returned (.bool (decide (n = n'))) ∧ Below w.heap.size w w' := by
  have HS := Lib.hid (fun W (hb : Below w.heap.size w W) => equalS_any n.keys n'.keys m.ka m.kl m.kc m'.ka m'.kl m'.kc W (h.later hb).karr h.hk (h'.later hb).karr h'.hk h.kmax h'.kmax)
  have HC := Lib.hid (fun W (hb : Below w.heap.size w W) => equalC_any n.cells n'.cells m.ca m.cl m.cc m'.ca m'.cl m'.cc W (h.later hb).carr h.hc (h'.later hb).carr h'.hc h.cmax h'.cmax)
  have HI := Lib.hid (fun W (hb : Below w.heap.size w W) => equalI_any n.kids n'.kids m.da m.dl m.dc m'.da m'.dl m'.dc W (h.later hb).darr h.hd (h'.later hb).darr h'.hd h.dmax h'.dmax)
  have hd : decide (n = n') = (n.leaf == n'.leaf && (decide (n.keys = n'.keys) && (decide (n.cells = n'.cells) && decide (n.kids = n'.kids)))) := by
    obtain ⟨l, ks, cs, ps⟩ := n
    obtain ⟨l', ks', cs', ps'⟩ := n'
    rw [Bool.eq_iff_iff]
    simp
  rw [hd]
  clear hd h h'
  obtain ⟨l, ks, cs, ps⟩ := n
  obtain ⟨l', ks', cs', ps'⟩ := n'
  obtain ⟨ka, kl, kc, ca, cl, cc, da, dl, dc⟩ := m
  obtain ⟨ka', kl', kc', ca', cl', cc', da', dl', dc'⟩ := m'
  simp only at *
  generalize decide (ks = ks') = r1 at *
  generalize decide (cs = cs') = r2 at *
  generalize decide (ps = ps') = r3 at *
  have hB0 := ((Below.refl _ w).alloc (Nat.le_refl _) (.cells #[.bool l, .slice ka kl kc, .slice ca cl cc, .slice da dl dc] 26)).alloc (by simp) (.cells #[.bool l', .slice ka' kl' kc', .slice ca' cl' cc', .slice da' dl' dc'] 26)
  have HB0 := Lib.hid hB0
  have hlp : Hid (∀ W, Below (w.heap.size + 2) ((w.alloc (.cells #[.bool l, .slice ka kl kc, .slice ca cl cc, .slice da dl dc] 26)).alloc (.cells #[.bool l', .slice ka' kl' kc', .slice ca' cl' cc', .slice da' dl' dc'] 26)) W →
      W.cell? ⟨w.heap.size, 2, none⟩ = some (.slice ca cl cc) ∧ W.cell? ⟨w.heap.size, 3, none⟩ = some (.slice da dl dc) ∧ W.cell? ⟨w.heap.size + 1, 2, none⟩ = some (.slice ca' cl' cc') ∧ W.cell? ⟨w.heap.size + 1, 3, none⟩ = some (.slice da' dl' dc')) := by
    intro W hb
    refine ⟨(hb.cell (p := ⟨w.heap.size, 2, none⟩) (by show w.heap.size < _; omega)).trans (by simp), (hb.cell (p := ⟨w.heap.size, 3, none⟩) (by show w.heap.size < _; omega)).trans (by simp), (hb.cell (p := ⟨w.heap.size + 1, 2, none⟩) (by show w.heap.size + 1 < _; omega)).trans (by simp), (hb.cell (p := ⟨w.heap.size + 1, 3, none⟩) (by show w.heap.size + 1 < _; omega)).trans (by simp)⟩
  clear hB0
  by_cases hll : l = l'
  · subst hll
    cases r1 with
    | false =>
      go_enter Try.func20, Try.ntmps20
      go_wp2_with fail
      refine (HS.out _ HB0.out).mono ?_
      rintro e w1 ⟨rfl, hb⟩
      go_wp2
      go_ret
      exact ⟨by cases l <;> rfl, HB0.out.trans (hb.mono HB0.out.size)⟩
    | true =>
      go_enter Try.func20, Try.ntmps20
      go_wp2_with fail
      refine (HS.out _ HB0.out).mono ?_
      rintro e w1 ⟨rfl, hb⟩
      have hb1 := HB0.out.trans (hb.mono HB0.out.size)
      have hbx : Below (w.heap.size + 2) _ w1 := hb.mono (by simp)
      obtain ⟨p2, p3, q2, q3⟩ := hlp.out _ hbx
      clear HS hb
      cases r2 with
      | false =>
        go_wp2_with fail
        refine (HC.out _ hb1).mono ?_
        rintro e w2 ⟨rfl, hb⟩
        go_wp2
        go_ret
        exact ⟨by cases l <;> rfl, hb1.trans (hb.mono hb1.size)⟩
      | true =>
        go_wp2_with fail
        refine (HC.out _ hb1).mono ?_
        rintro e w2 ⟨rfl, hb⟩
        have hb2 := hb1.trans (hb.mono hb1.size)
        have hszw : w.heap.size + 2 ≤ w1.heap.size := by have := hbx.size; simp at this; omega
        have hbx2 := hbx.trans (hb.mono hszw)
        clear p2 p3 q2 q3
        obtain ⟨p2, p3, q2, q3⟩ := hlp.out _ hbx2
        clear HC hb hbx hbx2 hszw
        go_wp2_with fail
        refine (HI.out _ hb2).mono ?_
        rintro e w3 ⟨rfl, hb⟩
        go_wp2
        go_ret
        exact ⟨by cases l <;> cases r3 <;> rfl, hb2.trans (hb.mono hb2.size)⟩
  · have hlb : (l == l') = false := by simpa using hll
    go_enter Try.func20, Try.ntmps20
    go_wp2
    go_ret
    exact ⟨ret_b (by rw [hlb]; simp), HB0.out⟩
end Go.Proofs.Ytlcphgomhhejbaa

/- The walk of the law's alive. -/
namespace Go.Proofs.Ytlcphgomhhejbaa
open Go.RowKit

/-- Read of any bytes. -/
theorem NRead_any (b : List Nat) (a : Option Addr) (n cap : Nat) (w : World) (hB : Bs w.heap.size w a b) (hn : n = b.length) (hcap : n ≤ cap) (hmax : n ≤ 9223372036854775807) :
    Calls Try.prog 17 #[.slice a n cap] w (RetRd w b) := by
  by_cases hl : b.length = 512
  · have h5 : n = 512 := by omega
    subst h5
    by_cases h1 : valL (cutL b 0 1) = 1
    · exact read_leaf b a cap w hB hl hcap h1
    · by_cases h2 : valL (cutL b 0 1) = 2
      · exact read_inner b a cap w hB hl hcap h2
      · exact read_other b a cap w hB hl hcap h1 h2
  · exact read_len b a n cap w hn hl hmax

def n0 : Nd := ⟨true, [⟨#[97]⟩, ⟨#[98]⟩], [⟨1, ⟨#[120]⟩, 0⟩, ⟨200, ⟨#[]⟩, 7⟩], []⟩
theorem n0_ok : n0.Ok := by
  refine ⟨?_, ?_⟩
  · intro i k hi
    have hlt : i < 2 := (List.getElem?_eq_some_iff.1 hi).1
    have hc : i = 0 ∨ i = 1 := by omega
    rcases hc with rfl | rfl
    · simp [n0] at hi; subst hi
      exact ⟨by decide, by omega⟩
    · simp [n0] at hi; subst hi
      refine ⟨by decide, fun _ p hp => ?_⟩
      simp [n0] at hp; subst hp
      simp [lessK, ByteArray.toList_eq, Op.bytesLess]
  · simp [n0, Cl.ok]
    decide
theorem n0_enc : encN n0.asR = [1, 0, 2, 1, 0, 1, 97, 120, 1, 0, 200, 98, 0, 0, 0, 7] := by decide
theorem zeroN_no : zeroN.ok = false := by
  refine Nd.ok_eq ?_
  simp [Nd.Ok, zeroN]
theorem n0_write : writeN n0 = (pageN n0.asR, 0) := by
  unfold writeN
  rw [Nd.ok_eq (n := n0) (b := true) (by simp [n0_ok]), if_pos rfl, if_pos (by rw [n0_enc]; decide)]
theorem zeroN_write : writeN zeroN = ([], 3) := by
  unfold writeN
  rw [zeroN_no]; rfl
theorem n0_read : rdNd (pageN n0.asR) = (n0, 0) := by
  rw [rdNd_yes (decN_page n0_ok.asR (by rw [n0_enc]; decide)), (asN_asR n0_ok.shaped).1]
theorem n0_page : (pageN n0.asR)[0]? = some 1 ∧ (pageN n0.asR)[2]? = some 2 ∧ (pageN n0.asR)[6]? = some 97 ∧ (pageN n0.asR)[7]? = some 120 ∧ (pageN n0.asR).length = 512 := by
  refine ⟨?_, ?_, ?_, ?_, pageN_len (by rw [n0_enc]; decide)⟩ <;> (unfold pageN; rw [n0_enc]; rfl)
theorem n0_half {a b : Nd} {k : ByteArray} (h : IsHalf n0 a k b) : a.keys.length = 1 ∧ k = ⟨#[98]⟩ ∧ b.keys.length = 1 := by
  rcases h with ⟨h, _⟩ | ⟨_, _, i, hi, rfl, hk, rfl⟩
  · exact absurd ⟨n0_ok, by decide⟩ h
  · have h1 := hi.bd
    have hi1 : i = 1 := by
      have : n0.keys.length - 1 - movedN n0 = 1 := by decide
      omega
    subst hi1
    refine ⟨by decide, ?_, by decide⟩
    have : n0.keys[1]? = some ⟨#[98]⟩ := rfl
    rw [this] at hk
    exact (Option.some.inj hk).symm

def m0 (s : Nat) : NB := ⟨some ⟨s, 0, none⟩, 2, 2, some ⟨s + 1, 0, none⟩, 2, 2, none, 0, 0⟩
theorem alive_start (w : World) : ∃ W, (((w.alloc (.cells #[.string ⟨#[97]⟩, .string ⟨#[98]⟩] 9)).alloc (.cells #[.int .i64 1, .string ⟨#[120]⟩, .int .i64 0, .int .i64 200, .string ⟨#[]⟩, .int .i64 7] 63)).alloc (.cells #[.bool true, .slice (some ⟨w.heap.size, 0, none⟩) 2 2, .slice (some ⟨w.heap.size + 1, 0, none⟩) 2 2, .slice none 0 0] 26)) = W ∧
    NAt W n0 (m0 w.heap.size) ∧ Blk W (w.heap.size + 1 + 1) 26 #[.bool true, .slice (some ⟨w.heap.size, 0, none⟩) 2 2, .slice (some ⟨w.heap.size + 1, 0, none⟩) 2 2, .slice none 0 0] ∧ Below w.heap.size w W := by
  refine ⟨_, rfl, ?_, ?_, (((Below.refl _ w).alloc (Nat.le_refl _) _).alloc (by simp) _).alloc (by simp; omega) _⟩
  · have h1 := ((Blk.new w 9 #[.string ⟨#[97]⟩, .string ⟨#[98]⟩]).alloc (.cells #[.int .i64 1, .string ⟨#[120]⟩, .int .i64 0, .int .i64 200, .string ⟨#[]⟩, .int .i64 7] 63)).alloc (.cells #[.bool true, .slice (some ⟨w.heap.size, 0, none⟩) 2 2, .slice (some ⟨w.heap.size + 1, 0, none⟩) 2 2, .slice none 0 0] 26)
    have h2 := (Blk.new (w.alloc (.cells #[.string ⟨#[97]⟩, .string ⟨#[98]⟩] 9)) 63 #[.int .i64 1, .string ⟨#[120]⟩, .int .i64 0, .int .i64 200, .string ⟨#[]⟩, .int .i64 7]).alloc (.cells #[.bool true, .slice (some ⟨w.heap.size, 0, none⟩) 2 2, .slice (some ⟨w.heap.size + 1, 0, none⟩) 2 2, .slice none 0 0] 26)
    have e : (w.alloc (.cells #[.string ⟨#[97]⟩, .string ⟨#[98]⟩] 9)).heap.size = w.heap.size + 1 := by simp
    rw [e] at h2
    refine ⟨rfl, rfl, rfl, by simp [m0], by simp [m0], by simp [m0], by simp [m0], by simp [m0], by simp [m0], .inr ⟨_, 0, rfl, h1.lt, fun i v hi => ?_⟩, .inr ⟨_, 0, rfl, h2.lt, fun i v hi => ?_⟩, .inl rfl, ?_, ?_, ?_⟩
    · rw [Nat.zero_add, h1.cell i]
      have : (#[.string ⟨#[97]⟩, .string ⟨#[98]⟩] : Array Value)[i]? = (cellsS n0.keys)[i]? := by rw [← Array.getElem?_toList]; rfl
      rw [this]; exact hi
    · rw [Nat.zero_add, h2.cell i]
      have : (#[.int .i64 1, .string ⟨#[120]⟩, .int .i64 0, .int .i64 200, .string ⟨#[]⟩, .int .i64 7] : Array Value)[i]? = (cellsC n0.cells)[i]? := by rw [← Array.getElem?_toList]; rfl
      rw [this]; exact hi
    · intro k hk
      simp [n0] at hk
      rcases hk with rfl | rfl <;> simp [ByteArray.size]
    · intro c hc
      simp [n0] at hc
      rcases hc with rfl | rfl <;> simp [Cl.fair, ByteArray.size]
    · simp [n0]
  · have h3 := Blk.new ((w.alloc (.cells #[.string ⟨#[97]⟩, .string ⟨#[98]⟩] 9)).alloc (.cells #[.int .i64 1, .string ⟨#[120]⟩, .int .i64 0, .int .i64 200, .string ⟨#[]⟩, .int .i64 7] 63)) 26 #[.bool true, .slice (some ⟨w.heap.size, 0, none⟩) 2 2, .slice (some ⟨w.heap.size + 1, 0, none⟩) 2 2, .slice none 0 0]
    have e : ((w.alloc (.cells #[.string ⟨#[97]⟩, .string ⟨#[98]⟩] 9)).alloc (.cells #[.int .i64 1, .string ⟨#[120]⟩, .int .i64 0, .int .i64 200, .string ⟨#[]⟩, .int .i64 7] 63)).heap.size = w.heap.size + 1 + 1 := by simp
    rw [e] at h3
    exact h3

set_option maxRecDepth 100000 in
set_option maxHeartbeats 8000000 in
theorem alive_any10 (w : World) :
    Calls Try.prog 9 #[] w fun e w' => e = .returned (.bool true) ∧ Below w.heap.size w w' := by
  go_enter Try.func9, Try.ntmps9
  go_upto_region 2 with (fail)
  obtain ⟨W, hW, hNA, hBn, hBel⟩ := alive_start w
  rw [hW]
  clear hW
  obtain ⟨B, hB⟩ : ∃ B, w.heap.size + 1 + 1 = B := ⟨_, rfl⟩
  have hsB : w.heap.size < B := by omega
  rw [hB] at hBn ⊢
  have HBn := Lib.hid hBn
  have HNA := Lib.hid hNA
  have HBel := Lib.hid hBel
  have n0_ : W.cell? ⟨B, 0, none⟩ = some (.bool true) := hBn.cell 0
  have n1_ : W.cell? ⟨B, 1, none⟩ = some (.slice (some ⟨w.heap.size, 0, none⟩) 2 2) := hBn.cell 1
  have n2_ : W.cell? ⟨B, 2, none⟩ = some (.slice (some ⟨w.heap.size + 1, 0, none⟩) 2 2) := hBn.cell 2
  have n3_ : W.cell? ⟨B, 3, none⟩ = some (.slice none 0 0) := hBn.cell 3
  have hBW : B < W.heap.size := hBn.lt
  clear hB hBn hNA hBel
  have HW := fun X (hb : Below W.heap.size W X) => NWrite_any n0 (m0 w.heap.size) X (HNA.out.later hb) (by simp [m0])
  rw [n0_write] at HW
  have HW := Lib.hid HW
  go_wp2_with fail
  refine (HW.out _ (Below.refl _ _)).mono ?_
  rintro e w1 ⟨a, cap, rfl, hcap, hcm, hBs, hb1⟩
  obtain ⟨p0, p2, p6, p7, pl⟩ := n0_page
  rw [show ((pageN n0.asR, (0 : Int)).1).length = 512 from pl] at hcap ⊢
  have HBs := Lib.hid hBs
  have HRd := NRead_any (pageN n0.asR) a 512 cap w1 hBs pl.symm hcap (by omega)
  have HRd := Lib.hid HRd
  have Hb1 := Lib.hid hb1
  clear hBs hb1 HW
  go_wp2_with fail
  refine HRd.out.mono ?_
  rintro e w2 ⟨m, rfl, hN2, hm, hb2⟩
  rw [n0_read] at hN2 ⊢
  rw [show ((n0, (0 : Int)).1).leaf = true from rfl]
  replace hN2 : NAt w2 n0 m := hN2
  have L02 : Later W w2 := Later.trans Hb1.out hb2
  have hB2 := HBn.out.bel L02 hBW
  have x0 : w2.cell? ⟨B, 0, none⟩ = some (.bool true) := hB2.cell 0
  have x1 : w2.cell? ⟨B, 1, none⟩ = some (.slice (some ⟨w.heap.size, 0, none⟩) 2 2) := hB2.cell 1
  have x2 : w2.cell? ⟨B, 2, none⟩ = some (.slice (some ⟨w.heap.size + 1, 0, none⟩) 2 2) := hB2.cell 2
  have x3 : w2.cell? ⟨B, 3, none⟩ = some (.slice none 0 0) := hB2.cell 3
  have hBw2 : B < w2.heap.size := hB2.lt
  have L23 : Later w2 (w2.alloc (.cells #[.bool true, .slice m.ka m.kl m.kc, .slice m.ca m.cl m.cc, .slice m.da m.dl m.dc] 26)) := Below.box _ _
  have HHv := Lib.hid (NHalve_any n0 (m0 w.heap.size) _ (HNA.out.later (L02.trans L23)) (by simp [m0]))
  have HN2 := Lib.hid hN2
  have HL02 := Lib.hid L02
  have HL12 : Hid (Later w1 w2) := hb2
  have HL23 := Lib.hid L23
  have HB2 := Lib.hid hB2
  clear hN2 L02 L23 hb2 hB2 HRd n0_ n1_ n2_ n3_
  go_wp2_with fail
  refine HHv.out.mono ?_
  rintro e w4 ⟨a1, b1, k1, ma, mb, rfl, hH, hA, hBb, L34⟩
  obtain ⟨ha, rfl, hbk⟩ := n0_half hH
  have hka := hA.hk
  have hkb := hBb.hk
  rw [ha] at hka
  rw [hbk] at hkb
  obtain ⟨ka, kl, kc, ca, cl, cc, da, dl, dc⟩ := ma
  obtain ⟨ka', kl', kc', ca', cl', cc', da', dl', dc'⟩ := mb
  simp only at hka hkb
  subst hka hkb
  have L45 : Later w4 ((w4.alloc (.cells #[.bool a1.leaf, .slice ka 1 kc, .slice ca cl cc, .slice da dl dc] 26)).alloc (.cells #[.bool b1.leaf, .slice ka' 1 kc', .slice ca' cl' cc', .slice da' dl' dc'] 26)) := ((Below.refl _ _).alloc (Nat.le_refl _) _).alloc (by simp) _
  have HWz := NWrite_any zeroN zeroNB ((w4.alloc (.cells #[.bool a1.leaf, .slice ka 1 kc, .slice ca cl cc, .slice da dl dc] 26)).alloc (.cells #[.bool b1.leaf, .slice ka' 1 kc', .slice ca' cl' cc', .slice da' dl' dc'] 26)) (NAt_zero _) (by simp [zeroNB])
  rw [zeroN_write] at HWz
  have HWz := Lib.hid HWz
  have HL34 : Hid (Later _ w4) := L34
  have HL45 := Lib.hid L45
  clear hH hA hBb L34 L45 HHv ha hbk x0 x1 x2 x3
  go_wp2_with fail
  refine HWz.out.mono ?_
  rintro e w6 ⟨az, capz, rfl, _, _, _, L56⟩
  have L46 : Later w4 w6 := Later.trans HL45.out L56
  have L36 : Later _ w6 := Later.trans HL34.out L46
  have L26 : Later w2 w6 := Later.trans HL23.out L36
  have L16 : Later w1 w6 := Later.trans HL12.out L26
  have L06 : Later W w6 := Later.trans HL02.out L26
  have hne : pageN n0.asR ≠ [] := by intro h0; rw [h0] at pl; simp at pl
  obtain ⟨bb, o, rfl, hbb, hcell⟩ := (HBs.out.2.resolve_left hne)
  have y0 : w6.cell? ⟨bb, o + 0, none⟩ = some (.int .u8 1) := (Below.cell (p := ⟨bb, o + 0, none⟩) L16 hbb).trans (hcell 0 1 p0)
  have y2 : w6.cell? ⟨bb, o + 2, none⟩ = some (.int .u8 2) := (Below.cell (p := ⟨bb, o + 2, none⟩) L16 hbb).trans (hcell 2 2 p2)
  have y6 : w6.cell? ⟨bb, o + 6, none⟩ = some (.int .u8 97) := (Below.cell (p := ⟨bb, o + 6, none⟩) L16 hbb).trans (hcell 6 97 p6)
  have y7 : w6.cell? ⟨bb, o + 7, none⟩ = some (.int .u8 120) := (Below.cell (p := ⟨bb, o + 7, none⟩) L16 hbb).trans (hcell 7 120 p7)
  rw [Nat.add_zero] at y0
  have hB6 := HB2.out.bel L26 HB2.out.lt
  have b0 : w6.cell? ⟨B, 0, none⟩ = some (.bool true) := hB6.cell 0
  have b1_ : w6.cell? ⟨B, 1, none⟩ = some (.slice (some ⟨w.heap.size, 0, none⟩) 2 2) := hB6.cell 1
  have b2 : w6.cell? ⟨B, 2, none⟩ = some (.slice (some ⟨w.heap.size + 1, 0, none⟩) 2 2) := hB6.cell 2
  have b3 : w6.cell? ⟨B, 3, none⟩ = some (.slice none 0 0) := hB6.cell 3
  have hT := (Blk.new w2 26 #[.bool true, .slice m.ka m.kl m.kc, .slice m.ca m.cl m.cc, .slice m.da m.dl m.dc]).bel L36 (by simp)
  have t0 : w6.cell? ⟨w2.heap.size, 0, none⟩ = some (.bool true) := hT.cell 0
  have t1 : w6.cell? ⟨w2.heap.size, 1, none⟩ = some (.slice m.ka m.kl m.kc) := hT.cell 1
  have t2 : w6.cell? ⟨w2.heap.size, 2, none⟩ = some (.slice m.ca m.cl m.cc) := hT.cell 2
  have t3 : w6.cell? ⟨w2.heap.size, 3, none⟩ = some (.slice m.da m.dl m.dc) := hT.cell 3
  have hU := ((Blk.new w4 26 #[.bool a1.leaf, .slice ka 1 kc, .slice ca cl cc, .slice da dl dc]).alloc (.cells #[.bool b1.leaf, .slice ka' 1 kc', .slice ca' cl' cc', .slice da' dl' dc'] 26)).bel L56 (by simp; omega)
  have hV := (Blk.new (w4.alloc (.cells #[.bool a1.leaf, .slice ka 1 kc, .slice ca cl cc, .slice da dl dc] 26)) 26 #[.bool b1.leaf, .slice ka' 1 kc', .slice ca' cl' cc', .slice da' dl' dc']).bel L56 (by simp)
  rw [show (w4.alloc (.cells #[.bool a1.leaf, .slice ka 1 kc, .slice ca cl cc, .slice da dl dc] 26)).heap.size = w4.heap.size + 1 by simp] at hV
  have HU := Lib.hid hU
  have HV := Lib.hid hV
  have HB6 := Lib.hid hB6
  have HSm := NSame_any n0 n0 (m0 w.heap.size) m w6 (HNA.out.later L06) (HN2.out.later L26)
  rw [decide_eq_true rfl] at HSm
  have HSm := Lib.hid HSm
  have HSz := fun X (hb : Below w6.heap.size w6 X) => NSize_any n0 (m0 w.heap.size) X (HNA.out.later (L06.trans hb)) (by simp [m0])
  rw [Nd.ok_eq (n := n0) (b := true) (by simp [n0_ok]), if_pos rfl, n0_enc] at HSz
  have HSz := Lib.hid HSz
  have HBe : Hid (Below w.heap.size w w6) := HBel.out.trans (Below.mono L06 HBel.out.size)
  clear L46 L36 L26 L16 L06 L56 hne hcell hbb p0 p2 p6 p7 pl hB6 hT hU hV HWz
  go_wp2_with fail
  refine HSm.out.mono ?_
  rintro e w7 ⟨rfl, L67⟩
  have hU := HU.out.bel L67 HU.out.lt
  have u1 : w7.cell? ⟨w4.heap.size, 1, none⟩ = some (.slice ka 1 kc) := hU.cell 1
  have hV := HV.out.bel L67 HV.out.lt
  have v1 : w7.cell? ⟨w4.heap.size + 1, 1, none⟩ = some (.slice ka' 1 kc') := hV.cell 1
  have hB7 := HB6.out.bel L67 HB6.out.lt
  have b0 : w7.cell? ⟨B, 0, none⟩ = some (.bool true) := hB7.cell 0
  have b1_ : w7.cell? ⟨B, 1, none⟩ = some (.slice (some ⟨w.heap.size, 0, none⟩) 2 2) := hB7.cell 1
  have b2 : w7.cell? ⟨B, 2, none⟩ = some (.slice (some ⟨w.heap.size + 1, 0, none⟩) 2 2) := hB7.cell 2
  have b3 : w7.cell? ⟨B, 3, none⟩ = some (.slice none 0 0) := hB7.cell 3
  have HB7 : Hid (Below w.heap.size w w7) := HBe.out.trans (Below.mono L67 HBe.out.size)
  have HSz7 := Lib.hid (HSz.out w7 L67)
  clear L67 hU hV hB7 t0 t1 t2 t3 y0 y2 y6 y7
  go_wp2_with fail
  refine HSz7.out.mono ?_
  rintro e w8 ⟨rfl, L78⟩
  have HB8 : Hid (Below w.heap.size w w8) := HB7.out.trans (Below.mono L78 HB7.out.size)
  clear L78
  go_wp2
  go_ret
  exact ⟨ret_b (by rfl), HB8.out⟩
end Go.Proofs.Ytlcphgomhhejbaa

/- What the walk of the reference's Bytes stands on. -/
namespace Go.Proofs.Ytlcphgomhhejbaa
open Go.RowKit

/-- 'append(b, s...)' of a string. -/
theorem wpList_appT {P : Program} {ops : Array Oper} {rest : List Oper} {o : Oper} {a : Act} {Q : Exit → Act → World → Prop} (hgd : o.guard = none) (sl x : Operand) (t u : TypeId)
    (ho : o.op = .call { callee := .builtin .append, args := #[sl, x], argTypes := #[t, u] })
    (base : Nat) (e : TypeId) (i : TypeInfo) (ht : P.underlying t = some (.slice e)) (hu : P.underlying u = some .string) (hi : P.info? e = some i) (hz : i.zero = some (.int .u8 0))
    (hsize : i.size = 1) (hby : i.bytes = 1)
    (v : Value) (n : Nat) (l : List Value) (w : World) (hown : w.ownsRow base e 1 v n l) (hs : a.eval sl = v) (s : ByteArray) (hx : a.eval x = .string s)
    (hlen : n + s.size < 100000000000000) (hbase : base ≤ w.heap.size)
    (h : ∀ v' w', w'.ownsRow base e 1 v' (n + s.size) (l ++ cellsU (bytesOf s)) → Chg v.ownBlock.toList w w' → wpList P ops Q rest (a.put o.dst v') w') : wpList P ops Q (o :: rest) a w := by
  refine Lib.wpList_append_own_string w hgd sl x t u ho base e i ht hu hi hz hsize hby v n l hs hown s hx (by unfold maxLen; omega) (by omega) hbase ?_
  intro v' w' h2 h3 _
  rw [strCells_bytes] at h2
  exact h v' w' h2 ⟨h3.os, h3.tape, h3.output, h3.size, fun k hk hn => h3.block k hk (by intro he; apply hn; rw [Option.mem_toList]; exact he.symm)⟩

/-- Where the bytes that Bytes makes stand. -/
structure BHd (w W : World) (bx : Array Value) (a : Option Addr) (n cap : Nat) (L : List Nat) : Prop where
  box : Blk W w.heap.size 32 bx
  row : W.ownsRow (w.heap.size + 1) 5 1 (.slice a n cap) n (cellsU L)
  bel : Below w.heap.size w W

theorem BHd.lat {w W W' : World} {bx : Array Value} {a : Option Addr} {n cap : Nat} {L : List Nat} (h : BHd w W bx a n cap L) (hl : Later W W') : BHd w W' bx a n cap L :=
  ⟨h.box.bel hl h.box.lt, own_below h.row (Nat.le_refl _) hl, h.bel.trans (Below.mono hl h.bel.size)⟩
theorem BHd.len {w W : World} {bx : Array Value} {a : Option Addr} {n cap : Nat} {L : List Nat} (h : BHd w W bx a n cap L) : L.length = n := by
  have := h.row.1
  rw [cellsU_len] at this
  omega
theorem BHd.base {w W : World} {bx : Array Value} {a : Option Addr} {n cap : Nat} {L : List Nat} (h : BHd w W bx a n cap L) : w.heap.size + 1 ≤ W.heap.size := h.box.lt
theorem BHd.app {w W W' : World} {bx : Array Value} {a : Option Addr} {n cap n' : Nat} {L M : List Nat} {v' : Value} (h : BHd w W bx a n cap L) (hown : W'.ownsRow (w.heap.size + 1) 5 1 v' n' (cellsU L ++ cellsU M)) (hc : Chg (Value.slice a n cap).ownBlock.toList W W') :
    ∃ a' m' cap', v' = .slice a' m' cap' ∧ m' ≤ n' ∧ BHd w W' bx a' m' cap' (L ++ M) := by
  obtain ⟨a', cap', rfl, _, _, _⟩ := own_slice hown
  have h1 := own_ne h.row h.box (by decide)
  refine ⟨a', n', cap', rfl, Nat.le_refl _, h.box.chg hc (fun hm => h1 (by rw [Option.mem_toList] at hm; exact hm)), ?_, h.bel.trans (hc.below h.bel.size (fun k hk => ?_))⟩
  · have e : cellsU (L ++ M) = cellsU L ++ cellsU M := by simp [cellsU]
    rw [e]; exact hown
  · rw [Option.mem_toList] at hk
    have := (h.row.lt k hk).1
    omega
theorem BHd.blk {w W W' : World} {bx cs : Array Value} {a : Option Addr} {n cap g : Nat} {L : List Nat} (h : BHd w W bx a n cap L) (hP : Blk W g 65 cs) (hc : Chg (Value.slice a n cap).ownBlock.toList W W') : Blk W' g 65 cs :=
  hP.chg hc (fun hm => own_ne h.row hP (by decide) (by rw [Option.mem_toList] at hm; exact hm))
/-- A number's bytes, one of them. -/
theorem one_byte (w : World) (c : Nat) : Arr (w.alloc (.cells #[.int .u8 (c : Int)] 5)).heap.size (w.alloc (.cells #[.int .u8 (c : Int)] 5)) (some ⟨w.heap.size, 0, none⟩) (cellsU [c]) := by
  have hB := Blk.new w 5 #[.int .u8 (c : Int)]
  exact .inr ⟨_, 0, rfl, hB.lt, fun i v hi => by rw [Nat.zero_add, hB.cell i, ← Array.getElem?_toList]; exact hi⟩
theorem chg_top (w : World) (o : Obj) (T : TypeId) (a b : Array Value) : Chg [w.heap.size + 1] ((w.alloc o).alloc (.cells a T)).drew ((w.alloc o).alloc (.cells b T)).drew := by
  have e : (w.alloc o).heap.size = w.heap.size + 1 := by simp
  refine ⟨rfl, rfl, rfl, by simp, fun k hk hn => ?_⟩
  have hk2 : k < (w.alloc o).heap.size := by
    have h1 : ((w.alloc o).alloc (.cells a T)).drew.heap.size = w.heap.size + 1 + 1 := by simp
    rw [h1] at hk
    simp only [List.mem_singleton] at hn
    omega
  exact (Below.heap_alloc _ _ k hk2).trans (Below.heap_alloc _ _ k hk2).symm
theorem own_mono {w : World} {b b' : Nat} {e : TypeId} {z n : Nat} {v : Value} {xs : List Value} (h : w.ownsRow b e z v n xs) (hb : b' ≤ b) : w.ownsRow b' e z v n xs := by
  obtain ⟨h0, h2⟩ := h
  refine ⟨h0, ?_⟩
  rcases h2 with h2 | ⟨g, c, cur, hv, hg, rest⟩
  · exact .inl h2
  · exact .inr ⟨g, c, cur, hv, by omega, rest⟩
theorem headN_lenTo (x : Rn) (k : Nat) : (headN x ++ encPs x.leaf (x.l.take k)).length = lenTo x k := by
  unfold lenTo; rw [List.length_append, headN_len]
end Go.Proofs.Ytlcphgomhhejbaa

/- The walk of the reference's Bytes of a leaf. -/
namespace Go.Proofs.Ytlcphgomhhejbaa
open Go.RowKit

set_option maxRecDepth 100000 in
set_option maxHeartbeats 8000000 in
theorem rBytesL_any (x : Rn) (m : RB) (w : World) (h : RAt w x m) (hok : x.Ok) (hl : x.leaf = true) (hbig : m.ll ≤ 60000) :
    Calls Try.prog 14 #[m.v true x.kid] w (RetOwn w (encN x)) := by
  obtain ⟨i0, hi0, hz0, hz1, hz2⟩ := info_parts Try.info5
  have HLt : Hid (∀ c ∈ encN x, c < 256) := encN_lt hok
  have HX : Hid (∀ v W, W.ownsRow (w.heap.size + 1) 5 1 v (encN x).length (cellsU (encN x)) → Below w.heap.size w W → RetOwn w (encN x) (.returned v) W) := by
    intro v W h1 h2
    refine ⟨v, rfl, HLt.out, ?_, h2⟩
    exact own_mono h1 (Nat.le_succ _)
  have HArr := Lib.hid h.arr
  have HFair := Lib.hid h.fair
  have HLL : Hid (m.ll = x.l.length) := h.hl
  have HOk := Lib.hid hok
  have hll := h.hl
  have HEnd : Hid (headN x ++ encPs x.leaf (x.l.take m.ll) = encN x) := by
    show _ = _
    rw [hll, List.take_length]; rfl
  have HBd := Lib.hid (fun i hi => lenTo_bd hok i hi)
  have HHead : Hid (headN x = [1, m.ll / 256 % 256, m.ll % 256]) := by
    show _ = _
    unfold headN; rw [hl, ← hll]; rfl
  clear h hok hll
  obtain ⟨la, ll, lc⟩ := m
  obtain ⟨xleaf, kid, l⟩ := x
  simp only at *
  subst hl
  generalize hRR : RetOwn w (encN ⟨true, kid, l⟩) = RR at *
  clear hRR
  go_enter Try.func14, Try.ntmps14
  go_upto_region 4 with (fail)
  have D : Hid (∀ W, Chg [w.heap.size + 1] ((w.alloc (.cells #[.bool true, .int .i64 kid, .slice la ll lc] 32)).alloc (.cells #[.int .u8 1, .int .u8 0, .int .u8 0] 5)).drew W → W.cell? ⟨w.heap.size, 2, none⟩ = some (.slice la ll lc)) := by
    intro W hW
    have hB := ((Blk.new w 32 #[.bool true, .int .i64 kid, .slice la ll lc]).alloc (.cells #[.int .u8 1, .int .u8 0, .int .u8 0] 5)).chg hW.undrew (by simp)
    exact hB.cell 2
  have d2 : ∀ W, Chg [w.heap.size + 1] ((w.alloc (.cells #[.bool true, .int .i64 kid, .slice la ll lc] 32)).alloc (.cells #[.int .u8 1, .int .u8 0, .int .u8 0] 5)).drew W → W.cell? ⟨w.heap.size, 2, none⟩ = some (.slice la ll lc) := fun W h => D.out W h
  refine wp_region_ordS [w.heap.size + 1] [(0, true), (1, true), (2, true), (3, true), (4, true), (5, true), (6, true), (7, true), (8, true), (9, true), (10, true), (11, true), (12, true), (13, false), (14, true), (15, false)] (by kernel_rfl) (by kernel_rfl) (by kernel_rfl) (by kernel_rfl) ?_
  repeat (first | (refine wpO_F (v := ?_) rfl (by rfl) (fun w' hL => ?_) ?_; rotate_left; (solve | (go_simp; with_reducible rfl) | go_simp); try simp only [Act.put, List.setIfInBounds_toArray, List.set_cons_zero, List.set_cons_succ]) | (refine wpO_G' (Chg.refl _) rfl (by rfl) ?_; try simp only [Act.put, List.setIfInBounds_toArray, List.set_cons_zero, List.set_cons_succ]))
  refine wpO_C rfl (by rfl) ?_
  go_simp
  refine ⟨chg_top _ _ _ _ _, ?_⟩
  try simp only [Act.put, List.setIfInBounds_toArray, List.set_cons_zero, List.set_cons_succ]
  repeat (first | (refine wpO_F (v := ?_) rfl (by rfl) (fun w' hL => ?_) ?_; rotate_left; (solve | (go_simp; with_reducible rfl) | go_simp); try simp only [Act.put, List.setIfInBounds_toArray, List.set_cons_zero, List.set_cons_succ]) | (refine wpO_G' (Chg.refl _) rfl (by rfl) ?_; try simp only [Act.put, List.setIfInBounds_toArray, List.set_cons_zero, List.set_cons_succ]))
  refine wpO_C rfl (by rfl) ?_
  go_simp
  refine ⟨chg_top _ _ _ _ _, ?_⟩
  try simp only [Act.put, List.setIfInBounds_toArray, List.set_cons_zero, List.set_cons_succ]
  refine wpO_nil ?_
  have e1 : IntKind.u8.wrap (IntKind.i64.wrap ((ll : Int) / 256)) = (ll : Int) / 256 % 256 := by
    rw [IntWalk.i64_in _ ⟨by omega, by omega⟩, IntWalk.u8_in _ ⟨by omega, by omega⟩]
    omega
  have e2 : IntKind.u8.wrap ((ll : Int).tmod 256) = (ll : Int) % 256 := by
    rw [IntWalk.rem_in _ _ (by omega), IntWalk.u8_in _ ⟨by omega, by omega⟩]
  have e3 : IntKind.i64.wrap ((ll : Int) / 256) = (ll : Int) / 256 := IntWalk.i64_in _ ⟨by omega, by omega⟩
  have e4 : (ll : Int).tmod 256 = (ll : Int) % 256 := IntWalk.rem_in _ _ (by omega)
  rw [e1, e2, e3, e4]
  obtain ⟨W0, hW0⟩ : ∃ W0, ((w.alloc (.cells #[.bool true, .int .i64 kid, .slice la ll lc] 32)).alloc (.cells #[.int .u8 1, .int .u8 ((ll : Int) / 256 % 256), .int .u8 ((ll : Int) % 256)] 5)).drew = W0 := ⟨_, rfl⟩
  have HB0 : Hid (BHd w W0 #[.bool true, .int .i64 kid, .slice la ll lc] (some ⟨w.heap.size + 1, 0, none⟩) 3 3 [1, ll / 256 % 256, ll % 256]) := by
    rw [← hW0]
    have e : (w.alloc (.cells #[.bool true, .int .i64 kid, .slice la ll lc] 32)).heap.size = w.heap.size + 1 := by simp
    have h1 := World.ownsRow_lit (base := w.heap.size + 1) (e := 5) (size := 1) (w.alloc (.cells #[.bool true, .int .i64 kid, .slice la ll lc] 32)) #[.int .u8 1, .int .u8 ((ll : Int) / 256 % 256), .int .u8 ((ll : Int) % 256)] 3 (by rw [e]; exact Nat.le_refl _) (by unfold maxLen; omega) rfl
    rw [e] at h1
    exact ⟨(Blk.new w 32 #[.bool true, .int .i64 kid, .slice la ll lc]).alloc _, h1, (((Below.refl _ w).alloc (Nat.le_refl _) _).alloc (by simp) _).drew⟩
  rw [hW0]
  clear hW0 e1 e2 e3 e4 d2 D
  have x0_h : W0.cell? ⟨w.heap.size, 0, none⟩ = some (.bool true) := HB0.out.box.cell 0
  have x1_h : W0.cell? ⟨w.heap.size, 1, none⟩ = some (.int .i64 kid) := HB0.out.box.cell 1
  have x2_h : W0.cell? ⟨w.heap.size, 2, none⟩ = some (.slice la ll lc) := HB0.out.box.cell 2
  have xl_h : w.heap.size < W0.heap.size := HB0.out.box.lt
  go_wp2_with fail
  have HL0 : Hid ([1, ll / 256 % 256, ll % 256] = headN ⟨true, kid, l⟩ ++ encPs true (l.take 0)) := by
    show _ = _
    rw [HHead.out]; simp [encPs]
  go_loopw [3, 4] (fun v i wr => ∃ (k : Nat) (a : Option Addr) (n cap : Nat), k ≤ ll ∧ i = .int .i64 k ∧ v = .slice a n cap ∧ Hid (BHd w wr #[.bool true, .int .i64 kid, .slice la ll lc] a n cap (headN ⟨true, kid, l⟩ ++ encPs true (l.take k)))) (fun _ i _ => ll - (intOf i).toNat)
  case atStart => exact ⟨0, _, _, _, by omega, rfl, rfl, by rw [← HL0.out]; exact HB0.out⟩
  case round =>
    obtain ⟨k, a, n, cap, hk, rfl, rfl, HI⟩ := hrel
    clear x0_h x1_h x2_h xl_h
    have hn : n ≤ 14000000 := by
      have h1 := HI.out.len
      rw [headN_lenTo ⟨true, kid, l⟩ k] at h1
      have h2 := HBd.out k (by have := HLL.out; omega)
      omega
    have x0_r : wr.cell? ⟨w.heap.size, 0, none⟩ = some (.bool true) := HI.out.box.cell 0
    have x1_r : wr.cell? ⟨w.heap.size, 1, none⟩ = some (.int .i64 kid) := HI.out.box.cell 1
    have x2_r : wr.cell? ⟨w.heap.size, 2, none⟩ = some (.slice la ll lc) := HI.out.box.cell 2
    have xl_r : w.heap.size < wr.heap.size := HI.out.box.lt
    by_cases hlt : k < ll
    · have hkl : k < l.length := by have := HLL.out; omega
      have hx := List.getElem?_eq_getElem hkl
      have hfr := HFair.out _ (List.getElem_mem hkl)
      have hkey := HOk.out.key hx
      have hok := HOk.out.okL rfl (List.mem_of_getElem? hx)
      obtain ⟨b, o, rfl, hb, c0, c1, c2, c3⟩ := partAt HArr.out hkl
      have HXk := Lib.hid hx
      obtain ⟨⟨xk, xl, xd, xp⟩, hxx⟩ : ∃ x, l[k] = x := ⟨_, rfl⟩
      rw [hxx] at c0 c1 c2 c3 HXk hfr hkey hok
      clear hx hxx
      unfold Pt.fair at hfr
      replace hok := okL_bd hok
      simp only at c0 c1 c2 c3 hfr hkey hok
      obtain ⟨f1, f2, f3, f4⟩ := hfr
      have c0 : wr.cell? ⟨b, o + k * 4, none⟩ = some (.string xk) := (HI.out.bel.cell (p := ⟨b, o + k * 4, none⟩) hb).trans c0
      have c1 : wr.cell? ⟨b, o + k * 4 + 1, none⟩ = some (.int .i64 xl) := (HI.out.bel.cell (p := ⟨b, o + k * 4 + 1, none⟩) hb).trans c1
      have c2 : wr.cell? ⟨b, o + k * 4 + 2, none⟩ = some (.string xd) := (HI.out.bel.cell (p := ⟨b, o + k * 4 + 2, none⟩) hb).trans c2
      have c3 : wr.cell? ⟨b, o + k * 4 + 3, none⟩ = some (.int .i64 xp) := (HI.out.bel.cell (p := ⟨b, o + k * 4 + 3, none⟩) hb).trans c3
      have HBp := Lib.hid (HI.out.lat (Below.box wr (.cells #[.string xk, .int .i64 xl, .string xd, .int .i64 xp] 65)))
      have HPp := Lib.hid (Blk.new wr 65 #[.string xk, .int .i64 xl, .string xd, .int .i64 xp])
      obtain ⟨h1, h2, h3, h4⟩ := hok
      obtain ⟨xn, rfl⟩ : ∃ xn : Nat, xl = (xn : Int) := ⟨xl.toNat, by omega⟩
      by_cases h120 : (xn : Int) ≤ 120
      · have hxd := (h3 h120).1
        clear h3 h4
        have q1 : decide ((xn : Int) ≤ 120) = true := by simpa using h120
        have HX1 := Lib.hid (HBp.out.lat (Below.box (wr.alloc (.cells #[.string xk, .int .i64 (xn : Int), .string xd, .int .i64 xp] 65)) (.cells #[.int .u8 (xk.size : Int)] 5)))
        have HO1 : Hid (Arr ((wr.alloc (.cells #[.string xk, .int .i64 (xn : Int), .string xd, .int .i64 xp] 65)).alloc (.cells #[.int .u8 (xk.size : Int)] 5)).heap.size ((wr.alloc (.cells #[.string xk, .int .i64 (xn : Int), .string xd, .int .i64 xp] 65)).alloc (.cells #[.int .u8 (xk.size : Int)] 5)) (some ⟨wr.heap.size + 1, 0, none⟩) (cellsU [xk.size])) := by
          have h1 := one_byte (wr.alloc (.cells #[.string xk, .int .i64 (xn : Int), .string xd, .int .i64 xp] 65)) xk.size
          rw [show (some (⟨(wr.alloc (.cells #[.string xk, .int .i64 (xn : Int), .string xd, .int .i64 xp] 65)).heap.size, 0, none⟩ : Addr)) = some ⟨wr.heap.size + 1, 0, none⟩ by simp] at h1
          exact h1
        go_wp2_with (first | (at_builtin; have hbs1 := HX1.out.base; refine wpList_appS rfl (.tmp 45) (.tmp 50) 27 rfl (w.heap.size + 1) 5 i0 (.int .u8 0) 1 1 Try.underlying27 hi0 hz0 rfl hz1 (by omega) hz2 (by omega) (.slice a n cap) n _ _ HX1.out.row rfl _ (some ⟨wr.heap.size + 1, 0, none⟩) 1 1 (cellsU [xk.size]) HO1.out rfl (one_B _) rfl (by omega) hbs1 ?_; intro v1 W1 hown1 hc1 _; obtain ⟨a1, n1, cap1, rfl, hn1, hB1⟩ := HX1.out.app hown1 hc1; have HB1 := Lib.hid hB1; have HC1 := Lib.hid hc1; clear hown1 hB1 hc1 c0 c1 c2 c3; have HP1 := Lib.hid (HX1.out.blk (HPp.out.alloc (.cells #[.int .u8 (xk.size : Int)] 5)) HC1.out); have x0_1 : W1.cell? ⟨w.heap.size, 0, none⟩ = some (.bool true) := HB1.out.box.cell 0; have x1_1 : W1.cell? ⟨w.heap.size, 1, none⟩ = some (.int .i64 kid) := HB1.out.box.cell 1; have x2_1 : W1.cell? ⟨w.heap.size, 2, none⟩ = some (.slice (some ⟨b, o, none⟩) ll lc) := HB1.out.box.cell 2; have xl_1 : w.heap.size < W1.heap.size := HB1.out.box.lt; have p0_1 : W1.cell? ⟨wr.heap.size, 0, none⟩ = some (.string xk) := HP1.out.cell 0; have p1_1 : W1.cell? ⟨wr.heap.size, 1, none⟩ = some (.int .i64 (xn : Int)) := HP1.out.cell 1; have p2_1 : W1.cell? ⟨wr.heap.size, 2, none⟩ = some (.string xd) := HP1.out.cell 2; have p3_1 : W1.cell? ⟨wr.heap.size, 3, none⟩ = some (.int .i64 xp) := HP1.out.cell 3; have pl_1 : wr.heap.size < W1.heap.size := HP1.out.lt; clear x0_r x1_r x2_r xl_r))
        go_wp2_with fail
        refine (rnum_any xn 2 _ (by omega) (by omega)).mono ?_
        rintro e W2 ⟨v2, rfl, hlt2, hrow2, hL2⟩
        obtain ⟨ra2, rc2, rfl, _, _, harr2⟩ := own_slice hrow2
        have HAr2 := Lib.hid harr2
        have HB2 := Lib.hid (HB1.out.lat hL2)
        have HP2 := Lib.hid (HP1.out.bel hL2 HP1.out.lt)
        have x0_2 : W2.cell? ⟨w.heap.size, 0, none⟩ = some (.bool true) := HB2.out.box.cell 0
        have x1_2 : W2.cell? ⟨w.heap.size, 1, none⟩ = some (.int .i64 kid) := HB2.out.box.cell 1
        have x2_2 : W2.cell? ⟨w.heap.size, 2, none⟩ = some (.slice (some ⟨b, o, none⟩) ll lc) := HB2.out.box.cell 2
        have xl_2 : w.heap.size < W2.heap.size := HB2.out.box.lt
        have p0_2 : W2.cell? ⟨wr.heap.size, 0, none⟩ = some (.string xk) := HP2.out.cell 0
        have p1_2 : W2.cell? ⟨wr.heap.size, 1, none⟩ = some (.int .i64 (xn : Int)) := HP2.out.cell 1
        have p2_2 : W2.cell? ⟨wr.heap.size, 2, none⟩ = some (.string xd) := HP2.out.cell 2
        have p3_2 : W2.cell? ⟨wr.heap.size, 3, none⟩ = some (.int .i64 xp) := HP2.out.cell 3
        have pl_2 : wr.heap.size < W2.heap.size := HP2.out.lt
        clear hrow2 harr2 hL2 hlt2 x0_1 x1_1 x2_1 xl_1 p0_1 p1_1 p2_1 p3_1 pl_1
        rw [beL_len]
        go_wp2_with (first | (at_builtin; have hbs3 := HB2.out.base; refine wpList_appS rfl (.tmp 54) (.tmp 57) 27 rfl (w.heap.size + 1) 5 i0 (.int .u8 0) 1 1 Try.underlying27 hi0 hz0 rfl hz1 (by omega) hz2 (by omega) (.slice a1 n1 cap1) n1 _ _ HB2.out.row rfl _ ra2 2 rc2 (cellsU (beL 2 xn)) HAr2.out (by rw [cellsU_len, beL_len]) (one_B _) rfl (by omega) hbs3 ?_; intro v3 W3 hown3 hc3 _; obtain ⟨a3, n3, cap3, rfl, hn3, hB3⟩ := HB2.out.app hown3 hc3; have HB3 := Lib.hid hB3; have HC3 := Lib.hid hc3; clear hown3 hB3 hc3 ; have HP3 := Lib.hid (HB2.out.blk HP2.out HC3.out); have x0_3 : W3.cell? ⟨w.heap.size, 0, none⟩ = some (.bool true) := HB3.out.box.cell 0; have x1_3 : W3.cell? ⟨w.heap.size, 1, none⟩ = some (.int .i64 kid) := HB3.out.box.cell 1; have x2_3 : W3.cell? ⟨w.heap.size, 2, none⟩ = some (.slice (some ⟨b, o, none⟩) ll lc) := HB3.out.box.cell 2; have xl_3 : w.heap.size < W3.heap.size := HB3.out.box.lt; have p0_3 : W3.cell? ⟨wr.heap.size, 0, none⟩ = some (.string xk) := HP3.out.cell 0; have p1_3 : W3.cell? ⟨wr.heap.size, 1, none⟩ = some (.int .i64 (xn : Int)) := HP3.out.cell 1; have p2_3 : W3.cell? ⟨wr.heap.size, 2, none⟩ = some (.string xd) := HP3.out.cell 2; have p3_3 : W3.cell? ⟨wr.heap.size, 3, none⟩ = some (.int .i64 xp) := HP3.out.cell 3; have pl_3 : wr.heap.size < W3.heap.size := HP3.out.lt; clear x0_2 x1_2 x2_2 xl_2 p0_2 p1_2 p2_2 p3_2 pl_2) | (at_builtin; have hbs4 := HB3.out.base; refine wpList_appT rfl (.tmp 59) (.tmp 61) 27 9 rfl (w.heap.size + 1) 5 i0 Try.underlying27 Try.underlying9 hi0 hz0 hz1 hz2 (.slice a3 n3 cap3) n3 _ _ HB3.out.row rfl xk rfl (by omega) hbs4 ?_; intro v4 W4 hown4 hc4; obtain ⟨a4, n4, cap4, rfl, hn4, hB4⟩ := HB3.out.app hown4 hc4; have HB4 := Lib.hid hB4; have HC4 := Lib.hid hc4; clear hown4 hB4 hc4 ; have HP4 := Lib.hid (HB3.out.blk HP3.out HC4.out); have x0_4 : W4.cell? ⟨w.heap.size, 0, none⟩ = some (.bool true) := HB4.out.box.cell 0; have x1_4 : W4.cell? ⟨w.heap.size, 1, none⟩ = some (.int .i64 kid) := HB4.out.box.cell 1; have x2_4 : W4.cell? ⟨w.heap.size, 2, none⟩ = some (.slice (some ⟨b, o, none⟩) ll lc) := HB4.out.box.cell 2; have xl_4 : w.heap.size < W4.heap.size := HB4.out.box.lt; have p0_4 : W4.cell? ⟨wr.heap.size, 0, none⟩ = some (.string xk) := HP4.out.cell 0; have p1_4 : W4.cell? ⟨wr.heap.size, 1, none⟩ = some (.int .i64 (xn : Int)) := HP4.out.cell 1; have p2_4 : W4.cell? ⟨wr.heap.size, 2, none⟩ = some (.string xd) := HP4.out.cell 2; have p3_4 : W4.cell? ⟨wr.heap.size, 3, none⟩ = some (.int .i64 xp) := HP4.out.cell 3; have pl_4 : wr.heap.size < W4.heap.size := HP4.out.lt; clear x0_3 x1_3 x2_3 xl_3 p0_3 p1_3 p2_3 p3_3 pl_3) | (at_builtin; have hbs5 := HB4.out.base; refine wpList_appT rfl (.tmp 70) (.tmp 72) 27 9 rfl (w.heap.size + 1) 5 i0 Try.underlying27 Try.underlying9 hi0 hz0 hz1 hz2 (.slice a4 n4 cap4) n4 _ _ HB4.out.row rfl xd rfl (by omega) hbs5 ?_; intro v5 W5 hown5 hc5; obtain ⟨a5, n5, cap5, rfl, hn5, hB5⟩ := HB4.out.app hown5 hc5; have HB5 := Lib.hid hB5; have HC5 := Lib.hid hc5; clear hown5 hB5 hc5 ; have HP5 := Lib.hid (HB4.out.blk HP4.out HC5.out); have x0_5 : W5.cell? ⟨w.heap.size, 0, none⟩ = some (.bool true) := HB5.out.box.cell 0; have x1_5 : W5.cell? ⟨w.heap.size, 1, none⟩ = some (.int .i64 kid) := HB5.out.box.cell 1; have x2_5 : W5.cell? ⟨w.heap.size, 2, none⟩ = some (.slice (some ⟨b, o, none⟩) ll lc) := HB5.out.box.cell 2; have xl_5 : w.heap.size < W5.heap.size := HB5.out.box.lt; have p0_5 : W5.cell? ⟨wr.heap.size, 0, none⟩ = some (.string xk) := HP5.out.cell 0; have p1_5 : W5.cell? ⟨wr.heap.size, 1, none⟩ = some (.int .i64 (xn : Int)) := HP5.out.cell 1; have p2_5 : W5.cell? ⟨wr.heap.size, 2, none⟩ = some (.string xd) := HP5.out.cell 2; have p3_5 : W5.cell? ⟨wr.heap.size, 3, none⟩ = some (.int .i64 xp) := HP5.out.cell 3; have pl_5 : wr.heap.size < W5.heap.size := HP5.out.lt; clear x0_4 x1_4 x2_4 xl_4 p0_4 p1_4 p2_4 p3_4 pl_4))
        have HFin : Hid (BHd w W5 #[.bool true, .int .i64 kid, .slice (some ⟨b, o, none⟩) ll lc] a5 n5 cap5 (headN ⟨true, kid, l⟩ ++ encPs true (l.take (k + 1)))) := by
          have e : (((((headN ⟨true, kid, l⟩ ++ encPs true (l.take k)) ++ [xk.size]) ++ (beL 2 xn)) ++ bytesOf xk) ++ bytesOf xd) = headN ⟨true, kid, l⟩ ++ encPs true (l.take (k + 1)) := by
            rw [encPs_take _ _ _ _ HXk.out]
            unfold encPt
            simp [h120, List.append_assoc]
          rw [← e]; exact HB5.out
        go_roundw
        case rel => first | exact ⟨k + 1, _, _, _, by omega, by go_num, rfl, HFin⟩ | ((repeat apply Exists.intro); exact ⟨⟨k + 1, _, _, _, by omega, by go_num, rfl, HFin⟩, rfl⟩)
        case measure => simp [intOf]; omega
      · have hxp := h4 h120
        clear h3 h4
        have q1 : decide ((xn : Int) ≤ 120) = false := by simpa using h120
        obtain ⟨xq, rfl⟩ : ∃ xq : Nat, xp = (xq : Int) := ⟨xp.toNat, by omega⟩
        have HX6 := Lib.hid (HBp.out.lat (Below.box (wr.alloc (.cells #[.string xk, .int .i64 (xn : Int), .string xd, .int .i64 (xq : Int)] 65)) (.cells #[.int .u8 (xk.size : Int)] 5)))
        have HO6 : Hid (Arr ((wr.alloc (.cells #[.string xk, .int .i64 (xn : Int), .string xd, .int .i64 (xq : Int)] 65)).alloc (.cells #[.int .u8 (xk.size : Int)] 5)).heap.size ((wr.alloc (.cells #[.string xk, .int .i64 (xn : Int), .string xd, .int .i64 (xq : Int)] 65)).alloc (.cells #[.int .u8 (xk.size : Int)] 5)) (some ⟨wr.heap.size + 1, 0, none⟩) (cellsU [xk.size])) := by
          have h1 := one_byte (wr.alloc (.cells #[.string xk, .int .i64 (xn : Int), .string xd, .int .i64 (xq : Int)] 65)) xk.size
          rw [show (some (⟨(wr.alloc (.cells #[.string xk, .int .i64 (xn : Int), .string xd, .int .i64 (xq : Int)] 65)).heap.size, 0, none⟩ : Addr)) = some ⟨wr.heap.size + 1, 0, none⟩ by simp] at h1
          exact h1
        go_wp2_with (first | (at_builtin; have hbs6 := HX6.out.base; refine wpList_appS rfl (.tmp 45) (.tmp 50) 27 rfl (w.heap.size + 1) 5 i0 (.int .u8 0) 1 1 Try.underlying27 hi0 hz0 rfl hz1 (by omega) hz2 (by omega) (.slice a n cap) n _ _ HX6.out.row rfl _ (some ⟨wr.heap.size + 1, 0, none⟩) 1 1 (cellsU [xk.size]) HO6.out rfl (one_B _) rfl (by omega) hbs6 ?_; intro v6 W6 hown6 hc6 _; obtain ⟨a6, n6, cap6, rfl, hn6, hB6⟩ := HX6.out.app hown6 hc6; have HB6 := Lib.hid hB6; have HC6 := Lib.hid hc6; clear hown6 hB6 hc6 c0 c1 c2 c3; have HP6 := Lib.hid (HX6.out.blk (HPp.out.alloc (.cells #[.int .u8 (xk.size : Int)] 5)) HC6.out); have x0_6 : W6.cell? ⟨w.heap.size, 0, none⟩ = some (.bool true) := HB6.out.box.cell 0; have x1_6 : W6.cell? ⟨w.heap.size, 1, none⟩ = some (.int .i64 kid) := HB6.out.box.cell 1; have x2_6 : W6.cell? ⟨w.heap.size, 2, none⟩ = some (.slice (some ⟨b, o, none⟩) ll lc) := HB6.out.box.cell 2; have xl_6 : w.heap.size < W6.heap.size := HB6.out.box.lt; have p0_6 : W6.cell? ⟨wr.heap.size, 0, none⟩ = some (.string xk) := HP6.out.cell 0; have p1_6 : W6.cell? ⟨wr.heap.size, 1, none⟩ = some (.int .i64 (xn : Int)) := HP6.out.cell 1; have p2_6 : W6.cell? ⟨wr.heap.size, 2, none⟩ = some (.string xd) := HP6.out.cell 2; have p3_6 : W6.cell? ⟨wr.heap.size, 3, none⟩ = some (.int .i64 (xq : Int)) := HP6.out.cell 3; have pl_6 : wr.heap.size < W6.heap.size := HP6.out.lt; clear x0_r x1_r x2_r xl_r))
        go_wp2_with fail
        refine (rnum_any xn 2 _ (by omega) (by omega)).mono ?_
        rintro e W7 ⟨v7, rfl, hlt7, hrow7, hL7⟩
        obtain ⟨ra7, rc7, rfl, _, _, harr7⟩ := own_slice hrow7
        have HAr7 := Lib.hid harr7
        have HB7 := Lib.hid (HB6.out.lat hL7)
        have HP7 := Lib.hid (HP6.out.bel hL7 HP6.out.lt)
        have x0_7 : W7.cell? ⟨w.heap.size, 0, none⟩ = some (.bool true) := HB7.out.box.cell 0
        have x1_7 : W7.cell? ⟨w.heap.size, 1, none⟩ = some (.int .i64 kid) := HB7.out.box.cell 1
        have x2_7 : W7.cell? ⟨w.heap.size, 2, none⟩ = some (.slice (some ⟨b, o, none⟩) ll lc) := HB7.out.box.cell 2
        have xl_7 : w.heap.size < W7.heap.size := HB7.out.box.lt
        have p0_7 : W7.cell? ⟨wr.heap.size, 0, none⟩ = some (.string xk) := HP7.out.cell 0
        have p1_7 : W7.cell? ⟨wr.heap.size, 1, none⟩ = some (.int .i64 (xn : Int)) := HP7.out.cell 1
        have p2_7 : W7.cell? ⟨wr.heap.size, 2, none⟩ = some (.string xd) := HP7.out.cell 2
        have p3_7 : W7.cell? ⟨wr.heap.size, 3, none⟩ = some (.int .i64 (xq : Int)) := HP7.out.cell 3
        have pl_7 : wr.heap.size < W7.heap.size := HP7.out.lt
        clear hrow7 harr7 hL7 hlt7 x0_6 x1_6 x2_6 xl_6 p0_6 p1_6 p2_6 p3_6 pl_6
        rw [beL_len]
        go_wp2_with (first | (at_builtin; have hbs8 := HB7.out.base; refine wpList_appS rfl (.tmp 54) (.tmp 57) 27 rfl (w.heap.size + 1) 5 i0 (.int .u8 0) 1 1 Try.underlying27 hi0 hz0 rfl hz1 (by omega) hz2 (by omega) (.slice a6 n6 cap6) n6 _ _ HB7.out.row rfl _ ra7 2 rc7 (cellsU (beL 2 xn)) HAr7.out (by rw [cellsU_len, beL_len]) (one_B _) rfl (by omega) hbs8 ?_; intro v8 W8 hown8 hc8 _; obtain ⟨a8, n8, cap8, rfl, hn8, hB8⟩ := HB7.out.app hown8 hc8; have HB8 := Lib.hid hB8; have HC8 := Lib.hid hc8; clear hown8 hB8 hc8 ; have HP8 := Lib.hid (HB7.out.blk HP7.out HC8.out); have x0_8 : W8.cell? ⟨w.heap.size, 0, none⟩ = some (.bool true) := HB8.out.box.cell 0; have x1_8 : W8.cell? ⟨w.heap.size, 1, none⟩ = some (.int .i64 kid) := HB8.out.box.cell 1; have x2_8 : W8.cell? ⟨w.heap.size, 2, none⟩ = some (.slice (some ⟨b, o, none⟩) ll lc) := HB8.out.box.cell 2; have xl_8 : w.heap.size < W8.heap.size := HB8.out.box.lt; have p0_8 : W8.cell? ⟨wr.heap.size, 0, none⟩ = some (.string xk) := HP8.out.cell 0; have p1_8 : W8.cell? ⟨wr.heap.size, 1, none⟩ = some (.int .i64 (xn : Int)) := HP8.out.cell 1; have p2_8 : W8.cell? ⟨wr.heap.size, 2, none⟩ = some (.string xd) := HP8.out.cell 2; have p3_8 : W8.cell? ⟨wr.heap.size, 3, none⟩ = some (.int .i64 (xq : Int)) := HP8.out.cell 3; have pl_8 : wr.heap.size < W8.heap.size := HP8.out.lt; clear x0_7 x1_7 x2_7 xl_7 p0_7 p1_7 p2_7 p3_7 pl_7) | (at_builtin; have hbs9 := HB8.out.base; refine wpList_appT rfl (.tmp 59) (.tmp 61) 27 9 rfl (w.heap.size + 1) 5 i0 Try.underlying27 Try.underlying9 hi0 hz0 hz1 hz2 (.slice a8 n8 cap8) n8 _ _ HB8.out.row rfl xk rfl (by omega) hbs9 ?_; intro v9 W9 hown9 hc9; obtain ⟨a9, n9, cap9, rfl, hn9, hB9⟩ := HB8.out.app hown9 hc9; have HB9 := Lib.hid hB9; have HC9 := Lib.hid hc9; clear hown9 hB9 hc9 ; have HP9 := Lib.hid (HB8.out.blk HP8.out HC9.out); have x0_9 : W9.cell? ⟨w.heap.size, 0, none⟩ = some (.bool true) := HB9.out.box.cell 0; have x1_9 : W9.cell? ⟨w.heap.size, 1, none⟩ = some (.int .i64 kid) := HB9.out.box.cell 1; have x2_9 : W9.cell? ⟨w.heap.size, 2, none⟩ = some (.slice (some ⟨b, o, none⟩) ll lc) := HB9.out.box.cell 2; have xl_9 : w.heap.size < W9.heap.size := HB9.out.box.lt; have p0_9 : W9.cell? ⟨wr.heap.size, 0, none⟩ = some (.string xk) := HP9.out.cell 0; have p1_9 : W9.cell? ⟨wr.heap.size, 1, none⟩ = some (.int .i64 (xn : Int)) := HP9.out.cell 1; have p2_9 : W9.cell? ⟨wr.heap.size, 2, none⟩ = some (.string xd) := HP9.out.cell 2; have p3_9 : W9.cell? ⟨wr.heap.size, 3, none⟩ = some (.int .i64 (xq : Int)) := HP9.out.cell 3; have pl_9 : wr.heap.size < W9.heap.size := HP9.out.lt; clear x0_8 x1_8 x2_8 xl_8 p0_8 p1_8 p2_8 p3_8 pl_8))
        go_wp2_with fail
        refine (rnum_any xq 4 _ (by omega) (by omega)).mono ?_
        rintro e W10 ⟨v10, rfl, hlt10, hrow10, hL10⟩
        obtain ⟨ra10, rc10, rfl, _, _, harr10⟩ := own_slice hrow10
        have HAr10 := Lib.hid harr10
        have HB10 := Lib.hid (HB9.out.lat hL10)
        have HP10 := Lib.hid (HP9.out.bel hL10 HP9.out.lt)
        have x0_10 : W10.cell? ⟨w.heap.size, 0, none⟩ = some (.bool true) := HB10.out.box.cell 0
        have x1_10 : W10.cell? ⟨w.heap.size, 1, none⟩ = some (.int .i64 kid) := HB10.out.box.cell 1
        have x2_10 : W10.cell? ⟨w.heap.size, 2, none⟩ = some (.slice (some ⟨b, o, none⟩) ll lc) := HB10.out.box.cell 2
        have xl_10 : w.heap.size < W10.heap.size := HB10.out.box.lt
        have p0_10 : W10.cell? ⟨wr.heap.size, 0, none⟩ = some (.string xk) := HP10.out.cell 0
        have p1_10 : W10.cell? ⟨wr.heap.size, 1, none⟩ = some (.int .i64 (xn : Int)) := HP10.out.cell 1
        have p2_10 : W10.cell? ⟨wr.heap.size, 2, none⟩ = some (.string xd) := HP10.out.cell 2
        have p3_10 : W10.cell? ⟨wr.heap.size, 3, none⟩ = some (.int .i64 (xq : Int)) := HP10.out.cell 3
        have pl_10 : wr.heap.size < W10.heap.size := HP10.out.lt
        clear hrow10 harr10 hL10 hlt10 x0_9 x1_9 x2_9 xl_9 p0_9 p1_9 p2_9 p3_9 pl_9
        rw [beL_len]
        go_wp2_with (first | (at_builtin; have hbs11 := HB10.out.base; refine wpList_appS rfl (.tmp 74) (.tmp 77) 27 rfl (w.heap.size + 1) 5 i0 (.int .u8 0) 1 1 Try.underlying27 hi0 hz0 rfl hz1 (by omega) hz2 (by omega) (.slice a9 n9 cap9) n9 _ _ HB10.out.row rfl _ ra10 4 rc10 (cellsU (beL 4 xq)) HAr10.out (by rw [cellsU_len, beL_len]) (one_B _) rfl (by omega) hbs11 ?_; intro v11 W11 hown11 hc11 _; obtain ⟨a11, n11, cap11, rfl, hn11, hB11⟩ := HB10.out.app hown11 hc11; have HB11 := Lib.hid hB11; have HC11 := Lib.hid hc11; clear hown11 hB11 hc11 ; have HP11 := Lib.hid (HB10.out.blk HP10.out HC11.out); have x0_11 : W11.cell? ⟨w.heap.size, 0, none⟩ = some (.bool true) := HB11.out.box.cell 0; have x1_11 : W11.cell? ⟨w.heap.size, 1, none⟩ = some (.int .i64 kid) := HB11.out.box.cell 1; have x2_11 : W11.cell? ⟨w.heap.size, 2, none⟩ = some (.slice (some ⟨b, o, none⟩) ll lc) := HB11.out.box.cell 2; have xl_11 : w.heap.size < W11.heap.size := HB11.out.box.lt; have p0_11 : W11.cell? ⟨wr.heap.size, 0, none⟩ = some (.string xk) := HP11.out.cell 0; have p1_11 : W11.cell? ⟨wr.heap.size, 1, none⟩ = some (.int .i64 (xn : Int)) := HP11.out.cell 1; have p2_11 : W11.cell? ⟨wr.heap.size, 2, none⟩ = some (.string xd) := HP11.out.cell 2; have p3_11 : W11.cell? ⟨wr.heap.size, 3, none⟩ = some (.int .i64 (xq : Int)) := HP11.out.cell 3; have pl_11 : wr.heap.size < W11.heap.size := HP11.out.lt; clear x0_10 x1_10 x2_10 xl_10 p0_10 p1_10 p2_10 p3_10 pl_10))
        have HFin : Hid (BHd w W11 #[.bool true, .int .i64 kid, .slice (some ⟨b, o, none⟩) ll lc] a11 n11 cap11 (headN ⟨true, kid, l⟩ ++ encPs true (l.take (k + 1)))) := by
          have e : (((((headN ⟨true, kid, l⟩ ++ encPs true (l.take k)) ++ [xk.size]) ++ (beL 2 xn)) ++ bytesOf xk) ++ (beL 4 xq)) = headN ⟨true, kid, l⟩ ++ encPs true (l.take (k + 1)) := by
            rw [encPs_take _ _ _ _ HXk.out]
            unfold encPt
            simp [List.append_assoc]; intro hq; omega
          rw [← e]; exact HB11.out
        go_roundw
        case rel => first | exact ⟨k + 1, _, _, _, by omega, by go_num, rfl, HFin⟩ | ((repeat apply Exists.intro); exact ⟨⟨k + 1, _, _, _, by omega, by go_num, rfl, HFin⟩, rfl⟩)
        case measure => simp [intOf]; omega
    · have hkk : k = ll := by omega
      subst hkk
      have HE : Hid (RR (.returned (.slice a n cap)) wr) := by
        have h1 := HI.out.len
        have h2 := HI.out.row
        rw [HEnd.out] at h1 h2
        refine HX.out _ _ ?_ HI.out.bel
        rw [h1]; exact h2
      go_wp2
      exact HE.out
end Go.Proofs.Ytlcphgomhhejbaa
