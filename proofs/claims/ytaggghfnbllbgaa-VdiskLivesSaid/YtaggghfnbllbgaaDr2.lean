/- The reference's disk: Waits, change, New. -/
import Derived.Test.YtaggghfnbllbgaaDr1
namespace Go.Proofs.Ytaggghfnbllbgaa
set_option linter.unusedSimpArgs false
open Go.RowKit

theorem pendW_M {x : RS} {M : List MR} (h : x.L = M.map (·.y)) : (pendW x.L).length = (M.filter fun m => !m.y.sure).length := by
  rw [h, pendW, List.length_map, List.filter_map, List.length_map]; rfl
def pendN (M : List MR) : Nat := (M.filter fun m => !m.y.sure).length
theorem pendN_take {M : List MR} {k : Nat} {m : MR} (h : M[k]? = some m) : pendN (M.take (k + 1)) = if m.y.sure then pendN (M.take k) else pendN (M.take k) + 1 := by
  unfold pendN
  rw [List.take_add_one, h, List.filter_append, List.length_append]
  cases hs : m.y.sure <;> simp [hs]
theorem pendN_le (M : List MR) : pendN M ≤ M.length := List.length_filter_le _ _

set_option maxRecDepth 100000 in
set_option maxHeartbeats 4000000 in
theorem RWaits {w : World} {D : Nat} {x : RS} {lv : Value} {M : List MR} (h : RefAt w D x lv M) :
    Calls Try.prog 16 #[.pointer (some ⟨D, 0, none⟩)] w fun e w' => e = .returned (.int .i64 ((pendW x.L).length : Int)) ∧ w' = w := by
  have c1 := h.cells.2.1
  obtain ⟨a, cap, hlv⟩ := h.form
  obtain ⟨n, hn⟩ : ∃ n, M.length = n := ⟨_, rfl⟩
  rw [hn] at hlv
  subst hlv
  have hfew := h.few
  rw [hn] at hfew
  have HN := Lib.hid hn
  have HA := Lib.hid (pendW_M h.list)
  have HH := Lib.hid h
  clear h hn
  go_enter Try.func16, Try.ntmps16
  go_wp2
  go_loopw [3, 4] (fun nv iv wr => ∃ i : Nat, i ≤ n ∧ iv = .int .i64 i ∧ wr = w ∧ ∃ t : Nat, nv = .int .i64 t ∧ t ≤ i ∧ Hid (t = pendN (M.take i))) (fun _ iv _ => n - (intOf iv).toNat)
  case atStart => exact ⟨0, by omega, rfl, rfl, 0, rfl, by omega, rfl⟩
  case round =>
    obtain ⟨i, hi, rfl, rfl, t, rfl, ht, HT⟩ := hrel
    by_cases hlt : i < n
    · obtain ⟨m, hm⟩ : ∃ m, M[i]? = some m := ⟨_, List.getElem?_eq_getElem (by have := HN.out; omega)⟩
      obtain ⟨g, cap', hv, hgl, -, -, -, e3⟩ := HH.out.elem hm
      obtain ⟨rfl, rfl⟩ : a = some ⟨g, 0, none⟩ ∧ cap = cap' := by
        injection hv with h1 h2 h3
        exact ⟨h1, h3⟩
      have hnext := pendN_take hm
      rw [← HT.out] at hnext
      cases hs : m.y.sure with
      | true =>
        rw [hs] at e3 hnext
        have hT2 : Hid (t = pendN (M.take (i + 1))) := hnext.symm
        clear hnext hv hm hs HT
        go_wp2
        go_roundw
        case rel => exact ⟨i + 1, by omega, by go_num, by trivial, t, rfl, by omega, hT2.out⟩
        case measure => simp [intOf]; omega
      | false =>
        rw [hs] at e3 hnext
        have hT2 : Hid (t + 1 = pendN (M.take (i + 1))) := hnext.symm
        clear hnext hv hm hs HT
        go_wp2
        go_roundw
        case rel => exact ⟨i + 1, by omega, by go_num, by trivial, t + 1, by go_num, by omega, hT2.out⟩
        case measure => simp [intOf]; omega
    · obtain rfl : i = n := by omega
      go_wp2
      go_ret
      refine ⟨?_, rfl⟩
      rw [HA.out, HT.out, ← HN.out, List.take_length]
      rfl

/-- A call that changes something. -/
def RS.change (x : RS) : RS × Bool := if x.plan = 0 then ({ x with down := true }, false) else ({ x with plan := if 0 < x.plan then x.plan - 1 else x.plan, calls := x.calls + 1 }, true)

set_option maxRecDepth 100000 in
set_option maxHeartbeats 4000000 in
theorem Rchange {w : World} {D : Nat} {x : RS} {lv : Value} {M : List MR} (h : RefAt w D x lv M) (hcs : x.calls < 1000000000) :
    Calls Try.prog 80 #[.pointer (some ⟨D, 0, none⟩)] w fun e w' => e = .returned (.int .i64 (if x.change.2 then 0 else 51)) ∧ RefAt w' D x.change.1 lv M ∧ Chg [D] w w' := by
  obtain ⟨c0, c1, c2, c3, c4⟩ := h.cells
  have f2 := h.blk.frozen 2
  have f3 := h.blk.frozen 3
  have f4 := h.blk.frozen 4
  have hlt := h.blk.lt
  have hpl := h.plan
  have hrowD : ∀ g, lv.ownBlock = some g → g ≠ D := fun g hg e => own_ne h.row h.blk (by decide) (by rw [hg, e])
  have hbD : ∀ m ∈ M, m.g ≠ D := fun m hm e => own_ne (h.bytes m hm).1 h.blk (by decide) (by show some m.g = some D; rw [e])
  -- stores into the disk's own row
  have HSET : Hid (∀ (x' : RS) (W : World), Blk W D 38 (rowR x' lv) → Chg [D] w W → x'.L = x.L → x'.calls ≤ 1000000000 → (-1 ≤ x'.plan ∧ x'.plan ≤ 9223372036854775807) → (1 ≤ x'.quota ∧ x'.quota ≤ 65536) → RefAt W D x' lv M) := fun x' W hB hc hL h1 h2 h3 =>
    ⟨hB, own_chg h.row hc (fun g hg => by simpa using hrowD g hg), hL.trans h.list, fun m hm => ⟨own_chg (h.bytes m hm).1 hc (fun g hg => by
      have : m.g = g := by simpa [Value.ownBlock] using hg
      simpa [← this] using hbD m hm), (h.bytes m hm).2⟩, h.few, h1, h2, h3⟩
  have HB := Lib.hid h.blk
  have hq := h.quota
  clear hrowD hbD h
  by_cases h0 : x.plan = 0
  · have hr : x.change = ({ x with down := true }, false) := by unfold RS.change; rw [if_pos h0]
    rw [hr]
    rw [h0] at c3
    have hB2 : Hid (Blk (w.setCell ⟨D, 4, none⟩ (.bool true)) D 38 (rowR { x with down := true } lv)) := HB.out.set_ 4 (.bool true)
    clear hr HB h0
    go_enter Try.func80, Try.ntmps80
    go_wp2
    go_ret
    exact ⟨rfl, HSET.out _ _ hB2.out ((Chg.refl _ _).setCell (.inl (by simp)) _) rfl (by simp only; omega) hpl hq, (Chg.refl _ _).setCell (.inl (by simp)) _⟩
  · have e0 : (x.plan == 0) = false := by simpa using h0
    by_cases hp : 0 < x.plan
    · have hr : x.change = ({ x with plan := x.plan - 1, calls := x.calls + 1 }, true) := by unfold RS.change; rw [if_neg h0, if_pos hp]
      rw [hr]
      have q1 : decide (0 < x.plan) = true := by rw [decide_eq_true_eq]; exact hp
      have hB2 : Hid (Blk ((w.setCell ⟨D, 3, none⟩ (.int .i64 (x.plan - 1))).setCell ⟨D, 2, none⟩ (.int .i64 ((x.calls : Int) + 1))) D 38 (rowR { x with plan := x.plan - 1, calls := x.calls + 1 } lv)) := (HB.out.set_ 3 (.int .i64 (x.plan - 1))).set_ 2 (.int .i64 ((x.calls : Int) + 1))
      clear hr HB h0
      go_enter Try.func80, Try.ntmps80
      go_wp2
      go_ret
      exact ⟨rfl, HSET.out _ _ hB2.out (((Chg.refl _ _).setCell (.inl (by simp)) _).setCell (.inl (by simp)) _) rfl (by simp only; omega) (by simp only; omega) hq, ((Chg.refl _ _).setCell (.inl (by simp)) _).setCell (.inl (by simp)) _⟩
    · have hr : x.change = ({ x with plan := x.plan, calls := x.calls + 1 }, true) := by unfold RS.change; rw [if_neg h0, if_neg hp]
      rw [hr]
      have q1 : decide (0 < x.plan) = false := by rw [decide_eq_false_iff_not]; exact hp
      have hB2 : Hid (Blk (w.setCell ⟨D, 2, none⟩ (.int .i64 ((x.calls : Int) + 1))) D 38 (rowR { x with plan := x.plan, calls := x.calls + 1 } lv)) := HB.out.set_ 2 (.int .i64 ((x.calls : Int) + 1))
      clear hr HB h0 hp
      go_enter Try.func80, Try.ntmps80
      go_wp2
      go_ret
      exact ⟨rfl, HSET.out _ _ hB2.out ((Chg.refl _ _).setCell (.inl (by simp)) _) rfl (by simp only; omega) hpl hq, (Chg.refl _ _).setCell (.inl (by simp)) _⟩

/-- What New hands back. -/
def RetRNew (w : World) (q : Int) (e : Ending) (w' : World) : Prop := Below w.heap.size w w' ∧ ((isQuotaB q = false ∧ e = .returned (.tuple #[.pointer none, .int .i64 1])) ∨
      (isQuotaB q = true ∧ ∃ D, e = .returned (.tuple #[.pointer (some ⟨D, 0, none⟩), .int .i64 0]) ∧ RefAt w' D ⟨q, [], 0, -1, false⟩ (.slice none 0 0) [] ∧ w.heap.size ≤ D))

set_option maxRecDepth 100000 in
set_option maxHeartbeats 4000000 in
theorem RNew (q : Int) (w : World) : Calls Try.prog 12 #[.int .i64 q] w (RetRNew w q) := by
  have hways : (decide (q < 1) = true ∧ isQuotaB q = false) ∨ (decide (q < 1) = false ∧ decide (65536 < q) = true ∧ isQuotaB q = false) ∨ (decide (q < 1) = false ∧ decide (65536 < q) = false ∧ isQuotaB q = true) := by
    unfold isQuotaB
    simp only [decide_eq_true_eq, decide_eq_false_iff_not, Bool.and_eq_true, Bool.and_eq_false_iff]
    omega
  rcases hways with ⟨q1, q3⟩ | ⟨q1, q2, q3⟩ | ⟨q1, q2, q3⟩
  · have H3 := Lib.hid q3
    clear q3
    go_enter Try.func12, Try.ntmps12
    go_wp2
    go_ret2
    exact ⟨Below.refl _ _, .inl ⟨H3.out, rfl⟩⟩
  · have H3 := Lib.hid q3
    clear q3
    go_enter Try.func12, Try.ntmps12
    go_wp2
    go_ret2
    exact ⟨Below.refl _ _, .inl ⟨H3.out, rfl⟩⟩
  · have H3 := Lib.hid q3
    have hqq : 1 ≤ q ∧ q ≤ 65536 := by unfold isQuotaB at q3; simpa using q3
    have HB := Lib.hid (Blk.new w 38 (rowR ⟨q, [], 0, -1, false⟩ (.slice none 0 0)))
    clear q3
    go_enter Try.func12, Try.ntmps12
    go_wp2
    go_ret2
    exact ⟨(Below.refl _ _).alloc (Nat.le_refl _) _, .inr ⟨H3.out, w.heap.size, rfl, ⟨HB.out, World.ownsRow_nil _ _ _ _, rfl, by simp, by simp, by simp, by simp, hqq⟩, Nat.le_refl _⟩⟩
end Go.Proofs.Ytaggghfnbllbgaa
