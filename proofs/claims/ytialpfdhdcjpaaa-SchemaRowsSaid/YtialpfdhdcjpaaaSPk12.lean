/- Several texts of one proof, one behind the other. -/
import Derived.Test.YtialpfdhdcjpaaaSPk11
import Derived.Sort.Walk0
set_option linter.unusedSimpArgs false
set_option linter.unusedVariables false

/- The walk of cell.Compare. -/
set_option linter.unusedSimpArgs false
set_option linter.unusedVariables false
set_option maxRecDepth 100000
namespace Go.Proofs.Ytialpfdhdcjpaaa
open Go.RowKit

/-- What Compare answers. -/
def compareV (a b : Vl) : Int × Bool × Int :=
  if a.right = false ∨ b.right = false then (0, false, 3) else if a.k = 0 ∨ b.k = 0 then (0, false, 0) else if a.k ≠ b.k then (0, false, 20) else (orderV a b, true, 0)

def RetC (w : World) (r : Int × Bool × Int) (e : Ending) (w' : World) : Prop := e = .returned (.tuple #[.int .i64 r.1, .bool r.2.1, .int .i64 r.2.2]) ∧ Below w.heap.size w w'

theorem right_null0 (x : Vl) (h : x.right = true) (hk : x.k = 0) : x = ⟨0, 0, ⟨#[]⟩⟩ := by
  obtain ⟨k, n, s⟩ := x
  simp only at hk
  subst hk
  obtain ⟨rfl, rfl⟩ := right_null h
  rfl

end Go.Proofs.Ytialpfdhdcjpaaa

/- Plain mathematics of the order of values: it is total. -/
set_option linter.unusedSimpArgs false
set_option linter.unusedVariables false
set_option maxRecDepth 100000
namespace Go.Proofs.Ytialpfdhdcjpaaa
open Go.RowKit

def ltV (a b : Vl) : Prop := a.k < b.k ∨ (a.k = b.k ∧ (a.n < b.n ∨ (a.n = b.n ∧ a.s.toList < b.s.toList)))

theorem less_lt (s t : List UInt8) : Op.bytesLess s t = decide (s < t) := bytesLess_eq s t

theorem ltV_irrefl (a : Vl) : ¬ ltV a a := by
  rintro (h | ⟨_, h | ⟨_, h⟩⟩)
  · omega
  · omega
  · exact List.lt_irrefl _ h

theorem ltV_trans {a b c : Vl} (h : ltV a b) (k : ltV b c) : ltV a c := by
  rcases h with h | ⟨h1, h | ⟨h2, h⟩⟩ <;> rcases k with k | ⟨k1, k | ⟨k2, k⟩⟩
  · exact .inl (by omega)
  · exact .inl (by omega)
  · exact .inl (by omega)
  · exact .inl (by omega)
  · exact .inr ⟨by omega, .inl (by omega)⟩
  · exact .inr ⟨by omega, .inl (by omega)⟩
  · exact .inl (by omega)
  · exact .inr ⟨by omega, .inl (by omega)⟩
  · exact .inr ⟨by omega, .inr ⟨by omega, List.lt_trans h k⟩⟩

theorem list_tri (s t : List UInt8) (h : s ≠ t) : s < t ∨ t < s := by
  by_cases h1 : s < t
  · exact .inl h1
  · by_cases h2 : t < s
    · exact .inr h2
    · exact absurd (List.le_antisymm (List.not_lt.1 h2) (List.not_lt.1 h1)) h

theorem ltV_total (a b : Vl) (h : a ≠ b) : ltV a b ∨ ltV b a := by
  by_cases h1 : a.k = b.k
  · by_cases h2 : a.n = b.n
    · have hs : a.s.toList ≠ b.s.toList := by
        intro hs
        apply h
        obtain ⟨k, n, s⟩ := a
        obtain ⟨k', n', s'⟩ := b
        simp only at h1 h2 hs
        rw [h1, h2, toList_inj hs]
      rcases list_tri _ _ hs with h3 | h3
      · exact .inl (.inr ⟨h1, .inr ⟨h2, h3⟩⟩)
      · exact .inr (.inr ⟨h1.symm, .inr ⟨h2.symm, h3⟩⟩)
    · rcases Int.lt_or_gt_of_ne h2 with h3 | h3
      · exact .inl (.inr ⟨h1, .inl h3⟩)
      · exact .inr (.inr ⟨h1.symm, .inl h3⟩)
  · rcases Nat.lt_or_gt_of_ne h1 with h3 | h3
    · exact .inl (.inl h3)
    · exact .inr (.inl h3)

open Classical in
theorem orderV_lt (a b : Vl) (ha : a.right = true) (hb : b.right = true) : orderV a b = if a = b then 0 else if ltV a b then -1 else 1 := by
  unfold orderV
  by_cases hab : a = b
  · rw [if_pos (.inl hab), if_pos hab]
  · rw [if_neg (by simp [hab, ha, hb]), if_neg hab]
    by_cases h1 : a.k = b.k
    · rw [if_neg (by simp [h1])]
      by_cases h2 : a.n = b.n
      · rw [if_neg (by simp [h2])]
        have hs : a.s.toList ≠ b.s.toList := by
          intro hs
          apply hab
          obtain ⟨k, n, s⟩ := a
          obtain ⟨k', n', s'⟩ := b
          simp only at h1 h2 hs
          rw [h1, h2, toList_inj hs]
        unfold cmpS
        rw [less_lt]
        by_cases h3 : a.s.toList < b.s.toList
        · rw [if_pos (by simpa using h3), if_pos (.inr ⟨h1, .inr ⟨h2, h3⟩⟩)]
        · rw [if_neg (by simpa using h3), if_neg (by simpa using hs), if_neg]
          rintro (h | ⟨_, h | ⟨_, h⟩⟩)
          · omega
          · omega
          · exact h3 h
      · rw [if_pos (by simpa using h2)]
        unfold cmpI
        by_cases h3 : a.n < b.n
        · rw [if_pos h3, if_pos (.inr ⟨h1, .inl h3⟩)]
        · rw [if_neg h3, if_pos (by omega), if_neg]
          rintro (h | ⟨_, h | ⟨h, _⟩⟩) <;> omega
    · rw [if_pos (by simpa using h1)]
      unfold cmpI
      by_cases h3 : a.k < b.k
      · rw [if_pos (by omega), if_pos (.inl h3)]
      · rw [if_neg (by omega), if_pos (by omega), if_neg]
        rintro (h | ⟨h, _⟩) <;> omega

/-- What the law asks of the order. -/
theorem order_total (a b c : Vl) (ha : a.right = true) (hb : b.right = true) (hc : c.right = true) :
    orderV a b = -orderV b a ∧ (orderV a b = 0 ↔ a = b) ∧ ¬ (orderV a b < 0 ∧ orderV b c < 0 ∧ 0 ≤ orderV a c) ∧ ¬ (orderV a b ≤ 0 ∧ orderV b c ≤ 0 ∧ 0 < orderV a c) ∧ -1 ≤ orderV a b ∧ orderV a b ≤ 1 := by
  rw [orderV_lt a b ha hb, orderV_lt b a hb ha, orderV_lt b c hb hc, orderV_lt a c ha hc]
  by_cases hab : a = b
  · subst hab
    rw [if_pos rfl]
    refine ⟨by simp, by simp, by omega, ?_, by omega, by omega⟩
    intro h; omega
  · have hba : ¬ b = a := fun h => hab h.symm
    rw [if_neg hab, if_neg hba]
    rcases ltV_total a b hab with h1 | h1
    · have h1' : ¬ ltV b a := fun h => ltV_irrefl a (ltV_trans h1 h)
      rw [if_pos h1, if_neg h1']
      refine ⟨by omega, by simp [hab], ?_, ?_, by omega, by omega⟩
      · rintro ⟨_, h2, h3⟩
        by_cases hbc : b = c
        · rw [if_pos hbc] at h2; omega
        · rw [if_neg hbc] at h2
          by_cases hl : ltV b c
          · have hac := ltV_trans h1 hl
            have hne : a ≠ c := fun h => ltV_irrefl a (by rw [h] at hac ⊢; exact hac)
            rw [if_neg hne, if_pos hac] at h3; omega
          · rw [if_neg hl] at h2; omega
      · rintro ⟨_, h2, h3⟩
        by_cases hbc : b = c
        · subst hbc
          rw [if_neg hab, if_pos h1] at h3; omega
        · rw [if_neg hbc] at h2
          by_cases hl : ltV b c
          · have hac := ltV_trans h1 hl
            have hne : a ≠ c := fun h => ltV_irrefl a (by rw [h] at hac ⊢; exact hac)
            rw [if_neg hne, if_pos hac] at h3; omega
          · rw [if_neg hl] at h2; omega
    · have h1' : ¬ ltV a b := fun h => ltV_irrefl a (ltV_trans h h1)
      rw [if_neg h1', if_pos h1]
      refine ⟨by omega, by simp [hab], by omega, by omega, by omega, by omega⟩

end Go.Proofs.Ytialpfdhdcjpaaa

/- The walks of record.Same and the reference's Same. -/
set_option linter.unusedSimpArgs false
set_option linter.unusedVariables false
set_option maxRecDepth 100000
namespace Go.Proofs.Ytialpfdhdcjpaaa
open Go.RowKit

/-- Two values' cells in every later world. -/
theorem CellV.later {w : World} {b o : Nat} {x : Vl} (h : CellV w b o x) (hb : b < w.heap.size) : ∀ W, Later w.drew W → CellV W b o x := fun W hW => h.below (Later.undrew hW) hb

theorem take_step {α : Type} {l m : List α} {k : Nat} (hk : k < l.length) (hm : k < m.length) (h : l.take k = m.take k) (he : l[k] = m[k]) : l.take (k + 1) = m.take (k + 1) := by
  rw [List.take_succ_eq_append_getElem hk, List.take_succ_eq_append_getElem hm, h, he]

theorem ne_of_get {α : Type} {l m : List α} {k : Nat} (hk : k < l.length) (hm : k < m.length) (he : l[k] ≠ m[k]) : l ≠ m := by
  rintro rfl; exact he rfl

/-- A bool about two rows. -/
def RetS (w : World) (l m : List Vl) (e : Ending) (w' : World) : Prop := e = .returned (.bool (decide (l = m))) ∧ Below w.heap.size w w'

set_option maxHeartbeats 2000000 in
theorem equal_any (l m : List Vl) (a : Option Addr) (len cap : Nat) (a' : Option Addr) (len' cap' : Nat) (w : World) (hV : Vs w.heap.size w a l) (hlen : len = l.length) (hV' : Vs w.heap.size w a' m) (hlen' : len' = m.length)
    (hmax : len ≤ 140737488355328) (hmax' : len' ≤ 140737488355328) :
    Calls Try.prog 60 #[.slice a len cap, .slice a' len' cap'] w (RetS w l m) := by
  have HV := Lib.hid hV
  have HV' := Lib.hid hV'
  have HL := Lib.hid hlen
  have HL' := Lib.hid hlen'
  by_cases hne : len = len'
  · subst hne
    clear hV hV' hlen hlen'
    go_enter Try.func60, Try.ntmps60
    go_wp2
    go_loopw [13] (fun i wr => ∃ k : Nat, k ≤ len ∧ i = .int .i64 k ∧ Hid (l.take k = m.take k) ∧ Below w.heap.size w wr) (fun i _ => len - (intOf i).toNat)
    case atStart => exact ⟨0, by omega, rfl, by simp [Hid], Below.refl _ _⟩
    case round =>
      obtain ⟨k, hk, rfl, HI, hb⟩ := hrel
      have hsz := hb.size
      by_cases hlt : k < len
      · have hkl : k < l.length := by have := HL.out; omega
        have hkm : k < m.length := by have := HL'.out; omega
        obtain ⟨b, o, rfl, hbN, hc⟩ := HV.out.at_ hkl
        obtain ⟨b', o', rfl, hbN', hc'⟩ := HV'.out.at_ hkm
        have d0 := fun W h => ((hc.below hb hbN).later (by omega) W h).1
        have d1 := fun W h => ((hc.below hb hbN).later (by omega) W h).2.1
        have d2 := fun W h => ((hc.below hb hbN).later (by omega) W h).2.2
        have e0 := fun W h => ((hc'.below hb hbN').later (by omega) W h).1
        have e1 := fun W h => ((hc'.below hb hbN').later (by omega) W h).2.1
        have e2 := fun W h => ((hc'.below hb hbN').later (by omega) W h).2.2
        clear hc hc'
        have HT : Hid (l[k] = m[k] → l.take (k + 1) = m.take (k + 1)) := fun h => take_step hkl hkm HI.out h
        have HF : Hid (l[k] ≠ m[k] → decide (l = m) = false) := fun h => decide_eq_false (ne_of_get hkl hkm h)
        obtain ⟨x, hx⟩ : ∃ x, x = l[k] := ⟨_, rfl⟩
        obtain ⟨y, hy⟩ : ∃ y, y = m[k] := ⟨_, rfl⟩
        rw [← hx] at d0 d1 d2 HT HF
        rw [← hy] at e0 e1 e2 HT HF
        clear hx hy
        by_cases hxy : x = y
        · subst hxy
          have HT2 := Lib.hid (HT.out rfl)
          clear HT HF
          go_wp2_with fail
          refine wp_region_ord [(0, true), (1, true), (2, true), (3, true), (4, true), (5, true), (6, true), (7, true), (8, true)] (by kernel_rfl) (by kernel_rfl) (by kernel_rfl) (by kernel_rfl) ?_
          repeat (first | (refine wpO_F (v := ?_) rfl (by rfl) (fun w' hL => ?_) ?_; rotate_left; (solve | (go_simp; with_reducible rfl) | go_simp); try simp only [Act.put, List.setIfInBounds_toArray, List.set_cons_zero, List.set_cons_succ]) | (refine wpO_G rfl (by rfl) ?_; try simp only [Act.put, List.setIfInBounds_toArray, List.set_cons_zero, List.set_cons_succ]))
          refine wpO_nil ?_
          clear d0 d1 d2 e0 e1 e2
          go_wp2
          go_roundw
          case rel => exact ⟨k + 1, by omega, by go_num, HT2, hb.drew⟩
          case measure => simp [intOf]; omega
        · have HF2 := Lib.hid (HF.out hxy)
          obtain ⟨xk, xn, xs⟩ := x
          obtain ⟨yk, yn, ys⟩ := y
          have hnb := ne_bool xk yk xn yn xs ys hxy
          simp only at d0 d1 d2 e0 e1 e2
          clear HT HF hxy
          go_wp2_with fail
          refine wp_region_ord [(0, true), (1, true), (2, true), (3, true), (4, true), (5, true), (6, true), (7, true), (8, true)] (by kernel_rfl) (by kernel_rfl) (by kernel_rfl) (by kernel_rfl) ?_
          repeat (first | (refine wpO_F (v := ?_) rfl (by rfl) (fun w' hL => ?_) ?_; rotate_left; (solve | (go_simp; with_reducible rfl) | go_simp); try simp only [Act.put, List.setIfInBounds_toArray, List.set_cons_zero, List.set_cons_succ]) | (refine wpO_G rfl (by rfl) ?_; try simp only [Act.put, List.setIfInBounds_toArray, List.set_cons_zero, List.set_cons_succ]))
          refine wpO_nil ?_
          clear d0 d1 d2 e0 e1 e2
          go_wp2
          go_ret
          exact ⟨by rw [HF2.out]; rfl, hb.drew⟩
      · have hall : l = m := by
          have h1 : l.take k = l := List.take_of_length_le (by have := HL.out; omega)
          have h2 : m.take k = m := List.take_of_length_le (by have := HL'.out; omega)
          have := HI.out
          rw [h1, h2] at this; exact this
        have HA : Hid (decide (l = m) = true) := decide_eq_true hall
        clear hall
        go_wp2
        go_ret
        exact ⟨by rw [HA.out]; rfl, hb⟩
  · have HA : Hid (decide (l = m) = false) := decide_eq_false (by rintro rfl; exact hne (hlen.trans hlen'.symm))
    have hne' : ((len : Int) != (len' : Int)) = true := by simp; omega
    clear hV hV' hlen hlen'
    go_enter Try.func60, Try.ntmps60
    go_wp2
    go_ret
    exact ⟨by rw [HA.out]; rfl, Below.refl _ _⟩

theorem Same_any (l m : List Vl) (a : Option Addr) (len cap : Nat) (a' : Option Addr) (len' cap' : Nat) (w : World) (hV : Vs w.heap.size w a l) (hlen : len = l.length) (hV' : Vs w.heap.size w a' m) (hlen' : len' = m.length)
    (hmax : len ≤ 140737488355328) (hmax' : len' ≤ 140737488355328) :
    Calls Try.prog 28 #[.slice a len cap, .slice a' len' cap'] w (RetS w l m) := by
  have HC := Lib.hid (equal_any l m a len cap a' len' cap' w hV hlen hV' hlen' hmax hmax')
  clear hV hV' hlen hlen'
  obtain ⟨r, hr⟩ : ∃ r, decide (l = m) = r := ⟨_, rfl⟩
  unfold RetS at HC ⊢
  rw [hr] at HC ⊢
  clear hr
  go_enter Try.func28, Try.ntmps28
  go_wp2_with fail
  refine HC.out.mono ?_
  rintro e w1 ⟨rfl, hb⟩
  clear HC
  go_wp2
  go_ret
  exact ⟨rfl, hb⟩

end Go.Proofs.Ytialpfdhdcjpaaa

/- The walks of cell.arith at two integers, and at any values, at each of its operations. -/
set_option linter.unusedSimpArgs false
set_option linter.unusedVariables false
set_option maxRecDepth 100000
namespace Go.Proofs.Ytialpfdhdcjpaaa
open Go.RowKit

def pickV (v q : Int) : Vl × Int := if q ≠ 0 then (nullV, q) else (numV v, 0)

theorem arithV_ii (op : Int → Int → Int × Int) (n1 n2 : Int) : arithV op ⟨1, n1, ⟨#[]⟩⟩ ⟨1, n2, ⟨#[]⟩⟩ = pickV (op n1 n2).1 (op n1 n2).2 := by
  unfold arithV pickV
  rw [right_i, right_i]
  simp

end Go.Proofs.Ytialpfdhdcjpaaa

/- The walks of cell.Add, Sub, Mul, Div, Mod. -/
set_option linter.unusedSimpArgs false
set_option linter.unusedVariables false
set_option maxRecDepth 100000
namespace Go.Proofs.Ytialpfdhdcjpaaa
open Go.RowKit

end Go.Proofs.Ytialpfdhdcjpaaa

/- The walk of hindsightlaw02.alive. -/
set_option linter.unusedSimpArgs false
set_option linter.unusedVariables false
set_option maxRecDepth 100000
namespace Go.Proofs.Ytialpfdhdcjpaaa
open Go.RowKit

/-- Variables that stand are there in every later world. -/
theorem Slot.on {w w' : World} {b : Nat} {v0 v1 v2 : Value} (h : Slot w b v0 v1 v2) (hl : Later w w') : Slot w' b v0 v1 v2 := h.later hl (World.block_lt_of_cell? _ _ h.1)

theorem Slot.drew {w : World} {b : Nat} {v0 v1 v2 : Value} (h : Slot w b v0 v1 v2) : Slot w.drew b v0 v1 v2 := h

/-- A variable that a call's result is laid in: behind the next call. -/
theorem slotN (w : World) (T : TypeId) (a0 a1 a2 : Value) (w' : World) (hl : Later (w.alloc (.cells #[a0, a1, a2] T)) w') : Slot w' w.heap.size a0 a1 a2 ∧ Later w w' :=
  ⟨(slots1 w T a0 a1 a2 w' hl).1, Later.trans (Below.box w _) hl⟩

theorem ok_num (n : Int) (h1 : -9223372036854775808 ≤ n) (h2 : n ≤ 9223372036854775807) : (numV n).ok := ⟨by show 1 < 256; omega, h1, h2⟩
theorem ok_null : nullV.ok := ⟨by show 0 < 256; omega, by show -9223372036854775808 ≤ (0 : Int); omega, by show (0 : Int) ≤ 9223372036854775807; omega⟩

end Go.Proofs.Ytialpfdhdcjpaaa
