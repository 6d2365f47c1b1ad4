/- The walks of record.Same and the reference's Same. -/
import Derived.Test.YtipeinkogoghnaaRGreat
import Derived.Test.YtipeinkogoghnaaCTotM
namespace Go.Proofs.Ytipeinkogoghnaa
open Go.RowKit

/-- Two values' cells in every later world. -/
theorem CellV.later {w : World} {b o : Nat} {x : Vl} (h : CellV w b o x) (hb : b < w.heap.size) : ∀ W, Later w.drew W → CellV W b o x := fun W hW => h.below (Later.undrew hW) hb

theorem take_step {α : Type} {l m : List α} {k : Nat} (hk : k < l.length) (hm : k < m.length) (h : l.take k = m.take k) (he : l[k] = m[k]) : l.take (k + 1) = m.take (k + 1) := by
  rw [List.take_succ_eq_append_getElem hk, List.take_succ_eq_append_getElem hm, h, he]

theorem ne_of_get {α : Type} {l m : List α} {k : Nat} (hk : k < l.length) (hm : k < m.length) (he : l[k] ≠ m[k]) : l ≠ m := by
  rintro rfl; exact he rfl

/-- A bool about two rows. -/
def RetS (w : World) (l m : List Vl) (e : Ending) (w' : World) : Prop := e = .returned (.bool (decide (l = m))) ∧ Below w.heap.size w w'

set_option maxHeartbeats 2000000 in
theorem equal_any (l m : List Vl) (a : Option Addr) (len cap : Nat) (a' : Option Addr) (len' cap' : Nat) (w : World) (hV : Vs w.heap.size w a l) (hlen : len = l.length) (hV' : Vs w.heap.size w a' m) (hlen' : len' = m.length)
    (hmax : len ≤ 140737488355328) (hmax' : len' ≤ 140737488355328) :
    Calls Try.prog 51 #[.slice a len cap, .slice a' len' cap'] w (RetS w l m) := by
  have HV := Lib.hid hV
  have HV' := Lib.hid hV'
  have HL := Lib.hid hlen
  have HL' := Lib.hid hlen'
  by_cases hne : len = len'
  · subst hne
    clear hV hV' hlen hlen'
    go_enter Try.func51, Try.ntmps51
    go_wp2
    go_loopw [13] (fun i wr => ∃ k : Nat, k ≤ len ∧ i = .int .i64 k ∧ Hid (l.take k = m.take k) ∧ Below w.heap.size w wr) (fun i _ => len - (intOf i).toNat)
    case atStart => exact ⟨0, by omega, rfl, by simp [Hid], Below.refl _ _⟩
    case round =>
      obtain ⟨k, hk, rfl, HI, hb⟩ := hrel
      have hsz := hb.size
      by_cases hlt : k < len
      · have hkl : k < l.length := by have := HL.out; omega
        have hkm : k < m.length := by have := HL'.out; omega
        obtain ⟨b, o, rfl, hbN, hc⟩ := HV.out.at_ hkl
        obtain ⟨b', o', rfl, hbN', hc'⟩ := HV'.out.at_ hkm
        have d0 := fun W h => ((hc.below hb hbN).later (by omega) W h).1
        have d1 := fun W h => ((hc.below hb hbN).later (by omega) W h).2.1
        have d2 := fun W h => ((hc.below hb hbN).later (by omega) W h).2.2
        have e0 := fun W h => ((hc'.below hb hbN').later (by omega) W h).1
        have e1 := fun W h => ((hc'.below hb hbN').later (by omega) W h).2.1
        have e2 := fun W h => ((hc'.below hb hbN').later (by omega) W h).2.2
        clear hc hc'
        have HT : Hid (l[k] = m[k] → l.take (k + 1) = m.take (k + 1)) := fun h => take_step hkl hkm HI.out h
        have HF : Hid (l[k] ≠ m[k] → decide (l = m) = false) := fun h => decide_eq_false (ne_of_get hkl hkm h)
        obtain ⟨x, hx⟩ : ∃ x, x = l[k] := ⟨_, rfl⟩
        obtain ⟨y, hy⟩ : ∃ y, y = m[k] := ⟨_, rfl⟩
        rw [← hx] at d0 d1 d2 HT HF
        rw [← hy] at e0 e1 e2 HT HF
        clear hx hy
        by_cases hxy : x = y
        · subst hxy
          have HT2 := Lib.hid (HT.out rfl)
          clear HT HF
          go_wp2_with fail
          refine wp_region_ord [(0, true), (1, true), (2, true), (3, true), (4, true), (5, true), (6, true), (7, true), (8, true)] (by kernel_rfl) (by kernel_rfl) (by kernel_rfl) (by kernel_rfl) ?_
          repeat (first | (refine wpO_F (v := ?_) rfl (by rfl) (fun w' hL => ?_) ?_; rotate_left; (solve | (go_simp; with_reducible rfl) | go_simp); try simp only [Act.put, List.setIfInBounds_toArray, List.set_cons_zero, List.set_cons_succ]) | (refine wpO_G rfl (by rfl) ?_; try simp only [Act.put, List.setIfInBounds_toArray, List.set_cons_zero, List.set_cons_succ]))
          refine wpO_nil ?_
          clear d0 d1 d2 e0 e1 e2
          go_wp2
          go_roundw
          case rel => exact ⟨k + 1, by omega, by go_num, HT2, hb.drew⟩
          case measure => simp [intOf]; omega
        · have HF2 := Lib.hid (HF.out hxy)
          obtain ⟨xk, xn, xs⟩ := x
          obtain ⟨yk, yn, ys⟩ := y
          have hnb := ne_bool xk yk xn yn xs ys hxy
          simp only at d0 d1 d2 e0 e1 e2
          clear HT HF hxy
          go_wp2_with fail
          refine wp_region_ord [(0, true), (1, true), (2, true), (3, true), (4, true), (5, true), (6, true), (7, true), (8, true)] (by kernel_rfl) (by kernel_rfl) (by kernel_rfl) (by kernel_rfl) ?_
          repeat (first | (refine wpO_F (v := ?_) rfl (by rfl) (fun w' hL => ?_) ?_; rotate_left; (solve | (go_simp; with_reducible rfl) | go_simp); try simp only [Act.put, List.setIfInBounds_toArray, List.set_cons_zero, List.set_cons_succ]) | (refine wpO_G rfl (by rfl) ?_; try simp only [Act.put, List.setIfInBounds_toArray, List.set_cons_zero, List.set_cons_succ]))
          refine wpO_nil ?_
          clear d0 d1 d2 e0 e1 e2
          go_wp2
          go_ret
          exact ⟨by rw [HF2.out]; rfl, hb.drew⟩
      · have hall : l = m := by
          have h1 : l.take k = l := List.take_of_length_le (by have := HL.out; omega)
          have h2 : m.take k = m := List.take_of_length_le (by have := HL'.out; omega)
          have := HI.out
          rw [h1, h2] at this; exact this
        have HA : Hid (decide (l = m) = true) := decide_eq_true hall
        clear hall
        go_wp2
        go_ret
        exact ⟨by rw [HA.out]; rfl, hb⟩
  · have HA : Hid (decide (l = m) = false) := decide_eq_false (by rintro rfl; exact hne (hlen.trans hlen'.symm))
    have hne' : ((len : Int) != (len' : Int)) = true := by simp; omega
    clear hV hV' hlen hlen'
    go_enter Try.func51, Try.ntmps51
    go_wp2
    go_ret
    exact ⟨by rw [HA.out]; rfl, Below.refl _ _⟩

theorem Same_any (l m : List Vl) (a : Option Addr) (len cap : Nat) (a' : Option Addr) (len' cap' : Nat) (w : World) (hV : Vs w.heap.size w a l) (hlen : len = l.length) (hV' : Vs w.heap.size w a' m) (hlen' : len' = m.length)
    (hmax : len ≤ 140737488355328) (hmax' : len' ≤ 140737488355328) :
    Calls Try.prog 29 #[.slice a len cap, .slice a' len' cap'] w (RetS w l m) := by
  have HC := Lib.hid (equal_any l m a len cap a' len' cap' w hV hlen hV' hlen' hmax hmax')
  clear hV hV' hlen hlen'
  obtain ⟨r, hr⟩ : ∃ r, decide (l = m) = r := ⟨_, rfl⟩
  unfold RetS at HC ⊢
  rw [hr] at HC ⊢
  clear hr
  go_enter Try.func29, Try.ntmps29
  go_wp2_with fail
  refine HC.out.mono ?_
  rintro e w1 ⟨rfl, hb⟩
  clear HC
  go_wp2
  go_ret
  exact ⟨rfl, hb⟩

set_option maxHeartbeats 2000000 in
theorem rSame_any (l m : List Vl) (a : Option Addr) (len cap : Nat) (a' : Option Addr) (len' cap' : Nat) (w : World) (hV : Vs w.heap.size w a l) (hlen : len = l.length) (hV' : Vs w.heap.size w a' m) (hlen' : len' = m.length)
    (hmax : len ≤ 140737488355328) (hmax' : len' ≤ 140737488355328) :
    Calls Try.prog 27 #[.slice a len cap, .slice a' len' cap'] w (RetS w l m) := by
  have HV := Lib.hid hV
  have HV' := Lib.hid hV'
  have HL := Lib.hid hlen
  have HL' := Lib.hid hlen'
  by_cases hne : len = len'
  · subst hne
    clear hV hV' hlen hlen'
    go_enter Try.func27, Try.ntmps27
    go_wp2
    go_loopw [5] (fun i wr => ∃ k : Nat, k ≤ len ∧ i = .int .i64 k ∧ Hid (l.take k = m.take k) ∧ Below w.heap.size w wr) (fun i _ => len - (intOf i).toNat)
    case atStart => exact ⟨0, by omega, rfl, by simp [Hid], Below.refl _ _⟩
    case round =>
      obtain ⟨k, hk, rfl, HI, hb⟩ := hrel
      have hsz := hb.size
      by_cases hlt : k < len
      · have hkl : k < l.length := by have := HL.out; omega
        have hkm : k < m.length := by have := HL'.out; omega
        obtain ⟨b, o, rfl, hbN, hc⟩ := HV.out.at_ hkl
        obtain ⟨b', o', rfl, hbN', hc'⟩ := HV'.out.at_ hkm
        have d0 := fun W h => ((hc.below hb hbN).later (by omega) W h).1
        have d1 := fun W h => ((hc.below hb hbN).later (by omega) W h).2.1
        have d2 := fun W h => ((hc.below hb hbN).later (by omega) W h).2.2
        have e0 := fun W h => ((hc'.below hb hbN').later (by omega) W h).1
        have e1 := fun W h => ((hc'.below hb hbN').later (by omega) W h).2.1
        have e2 := fun W h => ((hc'.below hb hbN').later (by omega) W h).2.2
        clear hc hc'
        have HT : Hid (l[k] = m[k] → l.take (k + 1) = m.take (k + 1)) := fun h => take_step hkl hkm HI.out h
        have HF : Hid (l[k] ≠ m[k] → decide (l = m) = false) := fun h => decide_eq_false (ne_of_get hkl hkm h)
        obtain ⟨x, hx⟩ : ∃ x, x = l[k] := ⟨_, rfl⟩
        obtain ⟨y, hy⟩ : ∃ y, y = m[k] := ⟨_, rfl⟩
        rw [← hx] at d0 d1 d2 HT HF
        rw [← hy] at e0 e1 e2 HT HF
        clear hx hy
        by_cases hxy : x = y
        · subst hxy
          have HT2 := Lib.hid (HT.out rfl)
          clear HT HF
          go_wp2_with fail
          refine wp_region_ord [(0, true), (1, true), (2, true), (3, true), (4, true), (5, true), (6, true), (7, true), (8, true)] (by kernel_rfl) (by kernel_rfl) (by kernel_rfl) (by kernel_rfl) ?_
          repeat (first | (refine wpO_F (v := ?_) rfl (by rfl) (fun w' hL => ?_) ?_; rotate_left; (solve | (go_simp; with_reducible rfl) | go_simp); try simp only [Act.put, List.setIfInBounds_toArray, List.set_cons_zero, List.set_cons_succ]) | (refine wpO_G rfl (by rfl) ?_; try simp only [Act.put, List.setIfInBounds_toArray, List.set_cons_zero, List.set_cons_succ]))
          refine wpO_nil ?_
          clear d0 d1 d2 e0 e1 e2
          go_wp2
          go_roundw
          case rel => exact ⟨k + 1, by omega, by go_num, HT2, hb.drew⟩
          case measure => simp [intOf]; omega
        · have HF2 := Lib.hid (HF.out hxy)
          obtain ⟨xk, xn, xs⟩ := x
          obtain ⟨yk, yn, ys⟩ := y
          have hnb := ne_bool xk yk xn yn xs ys hxy
          simp only at d0 d1 d2 e0 e1 e2
          clear HT HF hxy
          go_wp2_with fail
          refine wp_region_ord [(0, true), (1, true), (2, true), (3, true), (4, true), (5, true), (6, true), (7, true), (8, true)] (by kernel_rfl) (by kernel_rfl) (by kernel_rfl) (by kernel_rfl) ?_
          repeat (first | (refine wpO_F (v := ?_) rfl (by rfl) (fun w' hL => ?_) ?_; rotate_left; (solve | (go_simp; with_reducible rfl) | go_simp); try simp only [Act.put, List.setIfInBounds_toArray, List.set_cons_zero, List.set_cons_succ]) | (refine wpO_G rfl (by rfl) ?_; try simp only [Act.put, List.setIfInBounds_toArray, List.set_cons_zero, List.set_cons_succ]))
          refine wpO_nil ?_
          clear d0 d1 d2 e0 e1 e2
          go_wp2
          go_ret
          exact ⟨by rw [HF2.out]; rfl, hb.drew⟩
      · have hall : l = m := by
          have h1 : l.take k = l := List.take_of_length_le (by have := HL.out; omega)
          have h2 : m.take k = m := List.take_of_length_le (by have := HL'.out; omega)
          have := HI.out
          rw [h1, h2] at this; exact this
        have HA : Hid (decide (l = m) = true) := decide_eq_true hall
        clear hall
        go_wp2
        go_ret
        exact ⟨by rw [HA.out]; rfl, hb⟩
  · have HA : Hid (decide (l = m) = false) := decide_eq_false (by rintro rfl; exact hne (hlen.trans hlen'.symm))
    have hne' : ((len : Int) != (len' : Int)) = true := by simp; omega
    clear hV hV' hlen hlen'
    go_enter Try.func27, Try.ntmps27
    go_wp2
    go_ret
    exact ⟨by rw [HA.out]; rfl, Below.refl _ _⟩
end Go.Proofs.Ytipeinkogoghnaa
