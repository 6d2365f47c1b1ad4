/- The walks of period's and the law's functions over lists of spans. -/
import Derived.Test.YtockmoiekbhneaaPPair
import Derived.Test.YtockmoiekbhneaaNArr
import Derived.IntWalk
namespace Go.Proofs.Ytockmoiekbhneaa
open Go.RowKit

theorem info_span : (Try.prog.info? 23).map (fun i => (i.zero, i.size, i.bytes)) = some (some (.agg #[.int .i64 0, .int .i64 0]), 2, 16) := by kernel_rfl
theorem info_rspan : (Try.prog.info? 32).map (fun i => (i.zero, i.size, i.bytes)) = some (some (.agg #[.int .i64 0, .int .i64 0]), 2, 16) := by kernel_rfl

abbrev cellsT (l : List (Int × Int)) : List Value := cellsOf encS l
theorem cellsT_len (l : List (Int × Int)) : (cellsT l).length = l.length * 2 := cellsOf_len encS 2 encS_len l
theorem one_T (l : List (Int × Int)) : ∀ u ∈ cellsT l, u.oneCell' = true := by
  intro u hu
  obtain ⟨s, _, hs⟩ := List.mem_flatMap.1 hu
  simp only [encS, List.mem_cons, List.not_mem_nil, or_false] at hs
  rcases hs with rfl | rfl <;> rfl

theorem spanAt {N : Nat} {w : World} {a : Option Addr} {l : List (Int × Int)} (h : Arr N w a (cellsT l)) {k : Nat} (hk : k < l.length) : ∃ b o, a = some ⟨b, o, none⟩ ∧ b < N ∧
    w.cell? ⟨b, o + k * 2, none⟩ = some (.int .i64 l[k].1) ∧ w.cell? ⟨b, o + k * 2 + 1, none⟩ = some (.int .i64 l[k].2) := by
  obtain ⟨b, o, ha, hb, hc⟩ := h.at_ (by intro h0; have := cellsT_len l; rw [h0] at this; simp at this; omega)
  have g := fun (j : Nat) (v : Value) (hv : (encS l[k])[j]? = some v) => hc _ _ (cellsOf_get encS 2 encS_len l k j l[k] v (List.getElem?_eq_getElem hk) hv)
  exact ⟨b, o, ha, hb, by simpa using g 0 _ rfl, by simpa [Nat.add_assoc] using g 1 _ rfl⟩

theorem ret_i64 {a b : Int} (h : a = b) : Ending.returned (.int .i64 a) = .returned (.int .i64 b) := by rw [h]
def cnt (l : List (Int × Int)) (p : Int) : Nat := (l.filter fun s => hasB s p).length
theorem cnt_le (l : List (Int × Int)) (p : Int) : cnt l p ≤ l.length := List.length_filter_le _ _
theorem take_snocS (l : List (Int × Int)) (k : Nat) (h : k < l.length) : l.take (k + 1) = l.take k ++ [l[k]] := by
  rw [List.take_add_one, List.getElem?_eq_getElem h]; rfl
theorem cnt_snoc (l : List (Int × Int)) (s : Int × Int) (p : Int) : cnt (l ++ [s]) p = cnt l p + if hasB s p then 1 else 0 := by
  unfold cnt; rw [List.filter_append, List.length_append]
  cases h : hasB s p <;> simp [List.filter_cons, h]

set_option maxHeartbeats 1000000 in
theorem count_any (N : Nat) (l : List (Int × Int)) (a : Option Addr) (n cap : Nat) (p : Int) (w : World) (h : Arr N w a (cellsT l)) (hN : N ≤ w.heap.size) (hn : n = l.length) (hmax : n ≤ 1000000) :
    Calls Try.prog 23 #[.slice a n cap, .int .i64 p] w fun e w' => e = .returned (.int .i64 ((cnt l p : Nat) : Int)) ∧ Below w.heap.size w w' := by
  have HH := Lib.hid h
  have HN := Lib.hid hn
  clear h hn
  go_enter Try.func23, Try.ntmps23
  go_wp2
  go_loopw [5, 6] (fun c i wr => ∃ k m : Nat, k ≤ n ∧ i = .int .i64 k ∧ c = .int .i64 m ∧ m ≤ k ∧ Hid (m = cnt (l.take k) p) ∧ Below w.heap.size w wr) (fun _ i _ => n - (intOf i).toNat)
  case atStart => exact ⟨0, 0, by omega, rfl, rfl, by omega, rfl, Below.refl _ _⟩
  case round =>
    obtain ⟨k, m, hk, rfl, rfl, hm, HM, hb⟩ := hrel
    by_cases hlt : k < n
    · have hkl : k < l.length := by have := HN.out; omega
      obtain ⟨b, o, rfl, hb1, c0, c1⟩ := spanAt HH.out hkl
      have c0 := (hb.cell (p := ⟨b, o + k * 2, none⟩) (by show b < _; omega)).trans c0
      have c1 := (hb.cell (p := ⟨b, o + k * 2 + 1, none⟩) (by show b < _; omega)).trans c1
      have HS : Hid (cnt (l.take (k + 1)) p = m + if hasB l[k] p then 1 else 0) := by
        show _ = _
        rw [take_snocS l k hkl, cnt_snoc, ← HM.out]
      obtain ⟨⟨f, t⟩, hft⟩ : ∃ x, x = l[k] := ⟨_, rfl⟩
      rw [← hft] at c0 c1 HS
      clear hft
      simp only at c0 c1
      go_wp2_with fail
      refine (PHas_any _ _ _ _).mono ?_
      rintro e w1 ⟨rfl, hb2⟩
      cases hq : hasB (f, t) p
      all_goals
        rw [hq] at HS
        clear hq
        go_wp2
        go_roundw
        case rel => first | exact ⟨k + 1, m, by omega, by go_num, rfl, by omega, by show _ = _; rw [HS.out]; simp, hb.trans (hb2.mono hb.size)⟩ | exact ⟨k + 1, m + 1, by omega, by go_num, by go_num, by omega, by show _ = _; rw [HS.out]; simp, hb.trans (hb2.mono hb.size)⟩
        case measure => simp [intOf]; omega
    · have hkl : l.take k = l := List.take_of_length_le (by have := HN.out; omega)
      rw [hkl] at HM
      clear hkl
      go_wp2
      go_ret
      exact ⟨ret_i64 (by rw [← HM.out]), hb⟩
end Go.Proofs.Ytockmoiekbhneaa
