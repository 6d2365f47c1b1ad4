/- Clock: the next stamp, and the calls of a clock. -/
import Derived.Test.YtfldjmjnjeemeaaFoot
import Derived.Lib.Hide
import Derived.IntWalk
namespace Go.Proofs.Ytfldjmjnjeemeaa
open Go.RowKit

/-- The next stamp and its error. -/
def nxt (l r : Int) : Int × Int := if 9223372036854775805 < l ∨ r = 9223372036854775807 then (0, 44) else (if l < r then r else l + 1, 0)
theorem nxt_err {l r : Int} (h : 9223372036854775805 < l ∨ r = 9223372036854775807) : nxt l r = (0, 44) := by unfold nxt; rw [if_pos h]
theorem nxt_hi {l r : Int} (h1 : l ≤ 9223372036854775805) (h2 : r < 9223372036854775807) (h : l < r) : nxt l r = (r, 0) := by unfold nxt; rw [if_neg (by omega), if_pos h]
theorem nxt_lo {l r : Int} (h1 : l ≤ 9223372036854775805) (h2 : r < 9223372036854775807) (h : ¬ l < r) : nxt l r = (l + 1, 0) := by unfold nxt; rw [if_neg (by omega), if_neg h]
def RetN (p : Int × Int) (w : World) (e : Ending) (w' : World) : Prop := e = .returned (.tuple #[.int .i64 p.1, .int .i64 p.2]) ∧ w = w'
theorem RetN.mk {p : Int × Int} {x y : Int} {w : World} (h : Hid (p = (x, y))) : RetN p w (.returned (.tuple #[.int .i64 x, .int .i64 y])) w := by
  unfold RetN; rw [h.out]; exact ⟨rfl, rfl⟩

set_option maxRecDepth 100000 in
set_option maxHeartbeats 1000000 in
theorem CNext_any (l r : Int) (w : World) (hl : -9223372036854775808 ≤ l ∧ l ≤ 9223372036854775807) (hr : -9223372036854775808 ≤ r ∧ r ≤ 9223372036854775807) :
    Calls Try.prog 11 #[.int .i64 l, .int .i64 r] w (RetN (nxt l r) w) := by
  by_cases h : 9223372036854775805 < l
  · have H := Lib.hid (nxt_err (l := l) (r := r) (.inl h))
    go_enter Try.func11, Try.ntmps11
    have q : decide (9223372036854775806 ≤ l) = true := by simp; omega
    go_wp2
    all_goals
      go_ret2
      exact RetN.mk H
  · by_cases h2 : r = 9223372036854775807
    · have H := Lib.hid (nxt_err (l := l) (r := r) (.inr h2))
      have q : decide (9223372036854775806 ≤ l) = false := by simp; omega
      have q1 : ¬ 9223372036854775806 ≤ l := by omega
      have q2 : 9223372036854775806 < r := by omega
      clear h2 h
      go_enter Try.func11, Try.ntmps11
      go_wp2
      all_goals
        go_ret2
        exact RetN.mk H
    · by_cases h3 : l < r
      · have H := Lib.hid (nxt_hi (l := l) (r := r) (by omega) (by omega) h3)
        have q1 : ¬ 9223372036854775806 ≤ l := by omega
        have q2 : ¬ 9223372036854775806 < r := by omega
        have q3 : max r (l + 1) = r := by omega
        clear h2 h
        go_enter Try.func11, Try.ntmps11
        go_wp2
        all_goals
          go_ret2
          exact RetN.mk H
      · have H := Lib.hid (nxt_lo (l := l) (r := r) (by omega) (by omega) h3)
        have q1 : ¬ 9223372036854775806 ≤ l := by omega
        have q2 : ¬ 9223372036854775806 < r := by omega
        have q3 : max r (l + 1) = l + 1 := by omega
        clear h2 h
        go_enter Try.func11, Try.ntmps11
        go_wp2
        all_goals
          go_ret2
          exact RetN.mk H

set_option maxRecDepth 100000 in
set_option maxHeartbeats 1000000 in
theorem RNext_any (l r : Int) (w : World) (hl : -9223372036854775808 ≤ l ∧ l ≤ 9223372036854775807) (hr : -9223372036854775808 ≤ r ∧ r ≤ 9223372036854775807) :
    Calls Try.prog 12 #[.int .i64 l, .int .i64 r] w (RetN (nxt l r) w) := by
  by_cases h : 9223372036854775805 < l
  · have H := Lib.hid (nxt_err (l := l) (r := r) (.inl h))
    go_enter Try.func12, Try.ntmps12
    go_wp2
    all_goals
      go_ret2
      exact RetN.mk H
  · by_cases h2 : r = 9223372036854775807
    · rw [nxt_err (.inr h2)]
      have q : (r == 9223372036854775807) = true := by simp; omega
      clear h2
      go_enter Try.func12, Try.ntmps12
      go_wp2
      all_goals
        go_ret2
        exact ⟨rfl, rfl⟩
    · have q : (r == 9223372036854775807) = false := by simp; omega
      by_cases h3 : l < r
      · have H := Lib.hid (nxt_hi (l := l) (r := r) (by omega) (by omega) h3)
        go_enter Try.func12, Try.ntmps12
        go_wp2
        all_goals
          go_ret2
          exact RetN.mk H
      · have H := Lib.hid (nxt_lo (l := l) (r := r) (by omega) (by omega) h3)
        go_enter Try.func12, Try.ntmps12
        go_wp2
        all_goals
          go_ret2
          exact RetN.mk H

/-- A clock in block b. -/
def Clk (w : World) (b : Nat) (l : Int) : Prop := Blk w b 80 #[.int .i64 l]
def RetClk (l : Int) (w : World) (e : Ending) (w' : World) : Prop := e = .returned (.pointer (some ⟨w.heap.size, 0, none⟩)) ∧ Clk w' w.heap.size l ∧ Below w.heap.size w w' ∧ w'.heap.size = w.heap.size + 1

set_option maxHeartbeats 1000000 in
theorem CNew_any (l : Int) (w : World) : Calls Try.prog 18 #[.int .i64 l] w (RetClk l w) := by
  go_enter Try.func18, Try.ntmps18
  go_wp2
  go_ret
  exact ⟨rfl, Blk.new _ _ _, (Below.refl _ _).alloc (Nat.le_refl _) _, by simp⟩

set_option maxHeartbeats 1000000 in
theorem CLast_any (b : Nat) (l : Int) (w : World) (h : Clk w b l) : Calls Try.prog 20 #[.pointer (some ⟨b, 0, none⟩)] w fun e w' => e = .returned (.int .i64 l) ∧ w = w' := by
  have c0 : w.cell? ⟨b, 0, none⟩ = some (.int .i64 l) := h.cell 0
  go_enter Try.func20, Try.ntmps20
  go_wp2
  go_ret
  exact ⟨rfl, rfl⟩
set_option maxHeartbeats 1000000 in
theorem CLast_nil (w : World) : Calls Try.prog 20 #[.pointer none] w fun e w' => e = .returned (.int .i64 0) ∧ w = w' := by
  go_enter Try.func20, Try.ntmps20
  go_wp2
  go_ret
  exact ⟨rfl, rfl⟩

set_option maxHeartbeats 1000000 in
theorem CAsk_any (b : Nat) (l r : Int) (w : World) (h : Clk w b l) (hl : -9223372036854775808 ≤ l ∧ l ≤ 9223372036854775807) (hr : -9223372036854775808 ≤ r ∧ r ≤ 9223372036854775807) :
    Calls Try.prog 19 #[.pointer (some ⟨b, 0, none⟩), .int .i64 r] w (RetN (nxt l r) w) := by
  have c0 : w.cell? ⟨b, 0, none⟩ = some (.int .i64 l) := h.cell 0
  obtain ⟨⟨x, y⟩, hx⟩ : ∃ p, p = nxt l r := ⟨_, rfl⟩
  have H := Lib.hid hx
  clear hx
  go_enter Try.func19, Try.ntmps19
  go_wp2_with fail
  refine (CNext_any l r w hl hr).mono ?_
  rintro e w1 ⟨he, rfl⟩
  rw [← H.out] at he
  subst he
  go_wp2
  go_ret2
  exact RetN.mk H.out.symm
set_option maxHeartbeats 1000000 in
theorem CAsk_nil (r : Int) (w : World) : Calls Try.prog 19 #[.pointer none, .int .i64 r] w fun e w' => e = .returned (.tuple #[.int .i64 0, .int .i64 6]) ∧ w = w' := by
  go_enter Try.func19, Try.ntmps19
  go_wp2
  go_ret2
  exact ⟨rfl, rfl⟩

/-- A call of Keep that takes the stamp. -/
def RetKeep (b : Nat) (s : Int) (w : World) (e : Ending) (w' : World) : Prop := e = .returned (.int .i64 0) ∧ Clk w' b s ∧ Chg [b] w w'
set_option maxHeartbeats 1000000 in
theorem CKeep_yes (b : Nat) (l s : Int) (w : World) (h : Clk w b l) (hs : l < s) :
    Calls Try.prog 21 #[.pointer (some ⟨b, 0, none⟩), .int .i64 s] w (RetKeep b s w) := by
  have c0 : w.cell? ⟨b, 0, none⟩ = some (.int .i64 l) := h.cell 0
  have f0 : w.frozen? ⟨b, 0, none⟩ = false := h.frozen 0
  have hlt : b < w.heap.size := h.lt
  have hset := h.set_ 0 (.int .i64 s)
  have HS : Hid (RetKeep b s w (.returned (.int .i64 0)) (w.setCell ⟨b, 0, none⟩ (.int .i64 s))) := ⟨rfl, hset, (Chg.refl _ _).setCell (.inl (by simp)) _⟩
  clear hset h
  go_enter Try.func21, Try.ntmps21
  go_wp2
  go_ret
  exact HS.out
set_option maxHeartbeats 1000000 in
theorem CKeep_no (b : Nat) (l s : Int) (w : World) (h : Clk w b l) (hs : ¬ l < s) :
    Calls Try.prog 21 #[.pointer (some ⟨b, 0, none⟩), .int .i64 s] w fun e w' => e = .returned (.int .i64 1) ∧ w = w' := by
  have c0 : w.cell? ⟨b, 0, none⟩ = some (.int .i64 l) := h.cell 0
  have hs' : s ≤ l := by omega
  go_enter Try.func21, Try.ntmps21
  go_wp2
  go_ret
  exact ⟨rfl, rfl⟩
set_option maxHeartbeats 1000000 in
theorem CKeep_nil (s : Int) (w : World) : Calls Try.prog 21 #[.pointer none, .int .i64 s] w fun e w' => e = .returned (.int .i64 6) ∧ w = w' := by
  go_enter Try.func21, Try.ntmps21
  go_wp2
  go_ret
  exact ⟨rfl, rfl⟩
end Go.Proofs.Ytfldjmjnjeemeaa
