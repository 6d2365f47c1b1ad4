/- The walks of record.Order and the reference's Order of rows. -/
import Derived.Test.YtipeinkogoghnaaRSame
import Derived.Test.YtipeinkogoghnaaCRefC
namespace Go.Proofs.Ytipeinkogoghnaa
open Go.RowKit

/-- The order of two rows. -/
def lexO : List Vl → List Vl → Int
  | [], [] => 0
  | [], _ :: _ => -1
  | _ :: _, [] => 1
  | x :: l, y :: m => if orderV x y = 0 then lexO l m else orderV x y

theorem orderV_bd (x y : Vl) : -1 ≤ orderV x y ∧ orderV x y ≤ 1 := by
  unfold orderV cmpI cmpS
  repeat' split
  all_goals omega

theorem orderFn_any (x y : Vl) (w : World) : Calls Try.prog 53 #[.agg #[.int .u8 x.k, .int .i64 x.n, .string x.s], .agg #[.int .u8 y.k, .int .i64 y.n, .string y.s]] w (RetI w (orderV x y)) := by
  have HC := Lib.hid (fun W => Order_any x y W)
  obtain ⟨k1, n1, s1⟩ := x
  obtain ⟨k2, n2, s2⟩ := y
  obtain ⟨v, hv⟩ : ∃ v, orderV ⟨k1, n1, s1⟩ ⟨k2, n2, s2⟩ = v := ⟨_, rfl⟩
  rw [hv] at HC ⊢
  clear hv
  simp only at HC
  go_enter Try.func53, Try.ntmps53
  go_wp2_with fail
  refine (HC.out _).mono ?_
  rintro e w1 ⟨rfl, hb⟩
  obtain ⟨S3, S4, hz⟩ := slots2 _ _ _ _ _ _ _ _ _ hb
  have hw : Below w.heap.size w w1 := Below.trans (((Below.refl _ _).alloc (Nat.le_refl _) _).alloc (by simp) _) (Below.mono hb (by simp <;> omega))
  clear hb
  clear HC
  go_wp2
  go_ret
  exact ⟨rfl, hw⟩

theorem lexO_drop {l m : List Vl} {k : Nat} (hk : k < l.length) (hm : k < m.length) : lexO (l.drop k) (m.drop k) = if orderV l[k] m[k] = 0 then lexO (l.drop (k + 1)) (m.drop (k + 1)) else orderV l[k] m[k] := by
  rw [List.drop_eq_getElem_cons hk, List.drop_eq_getElem_cons hm, lexO]

set_option maxHeartbeats 2000000 in
theorem compareFunc_any (l m : List Vl) (a : Option Addr) (len cap : Nat) (a' : Option Addr) (len' cap' : Nat) (w : World) (hV : Vs w.heap.size w a l) (hlen : len = l.length) (hV' : Vs w.heap.size w a' m) (hlen' : len' = m.length)
    (hmax : len ≤ 140737488355328) (hmax' : len' ≤ 140737488355328) :
    Calls Try.prog 52 #[.slice a len cap, .slice a' len' cap', .func (.func 53) #[] #[]] w (RetI w (lexO l m)) := by
  have HV := Lib.hid hV
  have HV' := Lib.hid hV'
  have HL := Lib.hid hlen
  have HL' := Lib.hid hlen'
  clear hV hV' hlen hlen'
  go_enter Try.func52, Try.ntmps52
  go_wp2
  go_loopw [13] (fun i wr => ∃ k : Nat, k ≤ len ∧ k ≤ len' ∧ i = .int .i64 k ∧ Hid (lexO l m = lexO (l.drop k) (m.drop k)) ∧ Below w.heap.size w wr) (fun i _ => len - (intOf i).toNat)
  case atStart => exact ⟨0, by omega, by omega, rfl, by simp [Hid], Below.refl _ _⟩
  case round =>
    obtain ⟨k, hk, hk', rfl, HI, hb⟩ := hrel
    have hsz := hb.size
    by_cases hlt : k < len
    · have hkl : k < l.length := by have := HL.out; omega
      obtain ⟨b, o, rfl, hbN, hc⟩ := HV.out.at_ hkl
      obtain ⟨d0, d1, d2⟩ := hc.below hb hbN
      by_cases hlt' : k < len'
      · have hkm : k < m.length := by have := HL'.out; omega
        obtain ⟨b', o', rfl, hbN', hc'⟩ := HV'.out.at_ hkm
        obtain ⟨x, hx⟩ : ∃ x, x = l[k] := ⟨_, rfl⟩
        obtain ⟨y, hy⟩ : ∃ y, y = m[k] := ⟨_, rfl⟩
        have HD := Lib.hid (lexO_drop hkl hkm)
        rw [← hx] at d0 d1 d2 HD
        rw [← hy] at HD
        have HO := Lib.hid (fun W => orderFn_any x y W)
        have hbd := orderV_bd x y
        obtain ⟨v, hv⟩ : ∃ v, orderV x y = v := ⟨_, rfl⟩
        rw [hv] at HO HD hbd
        obtain ⟨e0, e1, e2⟩ := (hc'.below hb hbN').below (Below.box wr (.cells #[.int .u8 x.k, .int .i64 x.n, .string x.s] 23)) (by omega)
        rw [← hy] at e0 e1 e2
        clear hc hc' hx hy hv
        have hge : ¬ len' ≤ k := by omega
        go_wp2_with fail
        refine (HO.out _).mono ?_
        rintro e w1 ⟨rfl, hb1⟩
        have hb2 : Below w.heap.size w w1 := hb.trans ((((Below.refl _ _).alloc (Nat.le_refl _) _).alloc (by simp) _).trans (Below.mono hb1 (by simp; omega)) |>.mono hsz)
        clear HO hb1
        by_cases hv0 : v = 0
        · subst hv0
          have HE : Hid (lexO l m = lexO (l.drop (k + 1)) (m.drop (k + 1))) := by
            rw [HI.out, HD.out]; exact if_pos rfl
          go_wp2
          go_roundw
          case rel => exact ⟨k + 1, by omega, by omega, by go_num, HE, hb2⟩
          case measure => simp [intOf]; omega
        · have HE : Hid (lexO l m = v) := by
            rw [HI.out, HD.out]; exact if_neg hv0
          have q0 : (v != 0) = true := by simp [hv0]
          go_wp2
          go_ret
          exact ⟨by rw [HE.out]; rfl, hb2⟩
      · have HE : Hid (lexO l m = 1) := by
          rw [HI.out, List.drop_eq_getElem_cons hkl, List.drop_of_length_le (show m.length ≤ k by have := HL'.out; omega)]; rfl
        have hge : len' ≤ k := by omega
        obtain ⟨x, hx⟩ : ∃ x, x = l[k] := ⟨_, rfl⟩
        rw [← hx] at d0 d1 d2
        clear hc hx
        go_wp2
        go_ret
        exact ⟨by rw [HE.out]; rfl, hb.alloc (by omega) _⟩
    · have hkl : l.drop k = [] := List.drop_of_length_le (by have := HL.out; omega)
      by_cases hlt' : len < len'
      · have hkm : k < m.length := by have := HL'.out; omega
        have HE : Hid (lexO l m = -1) := by
          rw [HI.out, hkl, List.drop_eq_getElem_cons hkm]; rfl
        clear hkl
        go_wp2
        go_ret
        exact ⟨by rw [HE.out]; rfl, hb⟩
      · have HE : Hid (lexO l m = 0) := by
          rw [HI.out, hkl, List.drop_of_length_le (show m.length ≤ k by have := HL'.out; omega)]; rfl
        clear hkl
        go_wp2
        go_ret
        exact ⟨by rw [HE.out]; rfl, hb⟩

theorem ROrder_any (l m : List Vl) (a : Option Addr) (len cap : Nat) (a' : Option Addr) (len' cap' : Nat) (w : World) (hV : Vs w.heap.size w a l) (hlen : len = l.length) (hV' : Vs w.heap.size w a' m) (hlen' : len' = m.length)
    (hmax : len ≤ 140737488355328) (hmax' : len' ≤ 140737488355328) :
    Calls Try.prog 30 #[.slice a len cap, .slice a' len' cap'] w (RetI w (lexO l m)) := by
  have HC := Lib.hid (compareFunc_any l m a len cap a' len' cap' w hV hlen hV' hlen' hmax hmax')
  clear hV hV' hlen hlen'
  obtain ⟨r, hr⟩ : ∃ r, lexO l m = r := ⟨_, rfl⟩
  rw [hr] at HC ⊢
  clear hr
  go_enter Try.func30, Try.ntmps30
  go_wp2_with fail
  refine HC.out.mono ?_
  rintro e w1 ⟨rfl, hb⟩
  clear HC
  go_wp2
  go_ret
  exact ⟨rfl, hb⟩

set_option maxHeartbeats 2000000 in
theorem rROrder_any (l m : List Vl) (a : Option Addr) (len cap : Nat) (a' : Option Addr) (len' cap' : Nat) (w : World) (hV : Vs w.heap.size w a l) (hlen : len = l.length) (hV' : Vs w.heap.size w a' m) (hlen' : len' = m.length)
    (hmax : len ≤ 140737488355328) (hmax' : len' ≤ 140737488355328) :
    Calls Try.prog 31 #[.slice a len cap, .slice a' len' cap'] w (RetI w (lexO l m)) := by
  have HV := Lib.hid hV
  have HV' := Lib.hid hV'
  have HL := Lib.hid hlen
  have HL' := Lib.hid hlen'
  clear hV hV' hlen hlen'
  go_enter Try.func31, Try.ntmps31
  go_wp2
  go_loopw [5] (fun i wr => ∃ k : Nat, k ≤ len ∧ k ≤ len' ∧ i = .int .i64 k ∧ Hid (lexO l m = lexO (l.drop k) (m.drop k)) ∧ Below w.heap.size w wr) (fun i _ => len - (intOf i).toNat)
  case atStart => exact ⟨0, by omega, by omega, rfl, by simp [Hid], Below.refl _ _⟩
  case round =>
    obtain ⟨k, hk, hk', rfl, HI, hb⟩ := hrel
    have hsz := hb.size
    by_cases hlt : k < len
    · have hkl : k < l.length := by have := HL.out; omega
      obtain ⟨b, o, rfl, hbN, hc⟩ := HV.out.at_ hkl
      by_cases hlt' : k < len'
      · have hkm : k < m.length := by have := HL'.out; omega
        obtain ⟨b', o', rfl, hbN', hc'⟩ := HV'.out.at_ hkm
        have d0 := fun W h => ((hc.below hb hbN).later (by omega) W h).1
        have d1 := fun W h => ((hc.below hb hbN).later (by omega) W h).2.1
        have d2 := fun W h => ((hc.below hb hbN).later (by omega) W h).2.2
        have e0 := fun W h => ((hc'.below hb hbN').later (by omega) W h).1
        have e1 := fun W h => ((hc'.below hb hbN').later (by omega) W h).2.1
        have e2 := fun W h => ((hc'.below hb hbN').later (by omega) W h).2.2
        obtain ⟨x, hx⟩ : ∃ x, x = l[k] := ⟨_, rfl⟩
        obtain ⟨y, hy⟩ : ∃ y, y = m[k] := ⟨_, rfl⟩
        have HD := Lib.hid (lexO_drop hkl hkm)
        rw [← hx] at d0 d1 d2 HD
        rw [← hy] at e0 e1 e2 HD
        have HO := Lib.hid (fun W => rOrder_any x y W)
        have hbd := orderV_bd x y
        obtain ⟨v, hv⟩ : ∃ v, orderV x y = v := ⟨_, rfl⟩
        rw [hv] at HO HD hbd
        clear hc hc' hx hy hv
        go_wp2_with fail
        refine wp_region_ord [(0, true), (1, true), (2, true), (3, true), (4, true), (5, true), (6, true), (7, true), (8, false), (9, true)] (by kernel_rfl) (by kernel_rfl) (by kernel_rfl) (by kernel_rfl) ?_
        repeat (first | (refine wpO_F (v := ?_) rfl (by rfl) (fun w' hL => ?_) ?_; rotate_left; (solve | (go_simp; with_reducible rfl) | go_simp); try simp only [Act.put, List.setIfInBounds_toArray, List.set_cons_zero, List.set_cons_succ]) | (refine wpO_G rfl (by rfl) ?_; try simp only [Act.put, List.setIfInBounds_toArray, List.set_cons_zero, List.set_cons_succ]))
        refine wpO_C rfl (by rfl) ?_
        go_simp
        refine (HO.out _).mono ?_
        rintro e w1 ⟨rfl, hb1⟩
        refine ⟨hb1, ?_⟩
        try simp only [Act.put, List.setIfInBounds_toArray, List.set_cons_zero, List.set_cons_succ]
        repeat (first | (refine wpO_F (v := ?_) rfl (by rfl) (fun w' hL => ?_) ?_; rotate_left; (solve | (go_simp; with_reducible rfl) | go_simp); try simp only [Act.put, List.setIfInBounds_toArray, List.set_cons_zero, List.set_cons_succ]) | (refine wpO_G rfl (by rfl) ?_; try simp only [Act.put, List.setIfInBounds_toArray, List.set_cons_zero, List.set_cons_succ]))
        refine wpO_nil ?_
        have hb2 : Below w.heap.size w w1 := hb.drew.trans (Below.mono hb1 hsz)
        clear HO hb1 d0 d1 d2 e0 e1 e2
        by_cases hv0 : v = 0
        · subst hv0
          have HE : Hid (lexO l m = lexO (l.drop (k + 1)) (m.drop (k + 1))) := by
            rw [HI.out, HD.out]; exact if_pos rfl
          go_wp2
          go_roundw
          case rel => exact ⟨k + 1, by omega, by omega, by go_num, HE, hb2⟩
          case measure => simp [intOf]; omega
        · have HE : Hid (lexO l m = v) := by
            rw [HI.out, HD.out]; exact if_neg hv0
          have q0 : (v != 0) = true := by simp [hv0]
          go_wp2
          go_ret
          exact ⟨by rw [HE.out]; rfl, hb2⟩
      · have HE : Hid (lexO l m = 1) := by
          rw [HI.out, List.drop_eq_getElem_cons hkl, List.drop_of_length_le (show m.length ≤ k by have := HL'.out; omega)]; rfl
        have hgt : len' < len := by omega
        clear hc
        go_wp2
        go_ret
        exact ⟨by rw [HE.out]; rfl, hb⟩
    · have hkl : l.drop k = [] := List.drop_of_length_le (by have := HL.out; omega)
      by_cases hlt' : len < len'
      · have hkm : k < m.length := by have := HL'.out; omega
        have HE : Hid (lexO l m = -1) := by
          rw [HI.out, hkl, List.drop_eq_getElem_cons hkm]; rfl
        clear hkl
        go_wp2
        go_ret
        exact ⟨by rw [HE.out]; rfl, hb⟩
      · have HE : Hid (lexO l m = 0) := by
          rw [HI.out, hkl, List.drop_of_length_le (show m.length ≤ k by have := HL'.out; omega)]; rfl
        have hgt : ¬ len' < len := by omega
        clear hkl
        go_wp2
        go_ret
        exact ⟨by rw [HE.out]; rfl, hb⟩
end Go.Proofs.Ytipeinkogoghnaa
