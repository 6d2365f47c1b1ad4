/- The walks of the reference's Truth, Of, And, Or, Not. -/
import Derived.Test.YteepnbdkpelbiaaCAlive
namespace Go.Proofs.Yteepnbdkpelbiaa
open Go.RowKit

/-- What the reference's Truth answers. -/
def rtruthT (x : Vl) : Int × Int :=
  if x.right = false then (0, 3) else if 1 < x.k then (0, 20) else if x.k = 0 then (2, 0) else if x.n = 0 then (0, 0) else (1, 0)

def RetI2 (w : World) (r : Int × Int) (e : Ending) (w' : World) : Prop :=
  e = .returned (.tuple #[.int .i64 r.1, .int .i64 r.2]) ∧ Below w.heap.size w w'

theorem rTruth_any (x : Vl) (w : World) : Calls Try.prog 46 #[.agg #[.int .u8 x.k, .int .i64 x.n, .string x.s]] w (RetI2 w (rtruthT x)) := by
  by_cases h : x.right = true
  · by_cases h3 : x.k ≤ 1
    · rcases right_cases0 x h h3 with e1 | e1
      · rw [e1, show rtruthT ⟨0, 0, ⟨#[]⟩⟩ = (2, 0) from by unfold rtruthT; rw [right_n]; rfl]
        clear e1
        go_enter Try.func46, Try.ntmps46
        go_wp2_with fail
        refine (rright_any 0 0 ⟨#[]⟩ _).mono ?_
        rw [right_n]
        rintro e w1 ⟨rfl, hb⟩
        obtain ⟨S3, hz⟩ := slots1 _ _ _ _ _ _ hb
        have hw : Below w.heap.size w w1 := Below.trans ((Below.refl _ _).alloc (Nat.le_refl _) _) (Below.mono hb (by simp <;> omega))
        clear hb
        obtain ⟨p0, p1, p2, p3, p4, p5⟩ := id S3
        go_wp2
        go_ret2
        exact ⟨rfl, hw⟩
      · obtain ⟨k, n, s⟩ := x
        simp only [Vl.mk.injEq] at e1
        obtain ⟨rfl, _, rfl⟩ := e1
        by_cases hn : n = 0
        · subst hn
          rw [show rtruthT ⟨1, 0, ⟨#[]⟩⟩ = (0, 0) from by unfold rtruthT; rw [right_i]; rfl]
          clear h h3
          go_enter Try.func46, Try.ntmps46
          go_wp2_with fail
          refine (rright_any 1 0 ⟨#[]⟩ _).mono ?_
          rw [right_i]
          rintro e w1 ⟨rfl, hb⟩
          obtain ⟨S3, hz⟩ := slots1 _ _ _ _ _ _ hb
          have hw : Below w.heap.size w w1 := Below.trans ((Below.refl _ _).alloc (Nat.le_refl _) _) (Below.mono hb (by simp <;> omega))
          clear hb
          obtain ⟨p0, p1, p2, p3, p4, p5⟩ := id S3
          go_wp2
          go_ret2
          exact ⟨rfl, hw⟩
        · rw [show rtruthT ⟨1, n, ⟨#[]⟩⟩ = (1, 0) from by unfold rtruthT; rw [right_i]; simp [hn]]
          have e2 : (n == 0) = false := by simp [hn]
          clear h h3 hn
          go_enter Try.func46, Try.ntmps46
          go_wp2_with fail
          refine (rright_any 1 n ⟨#[]⟩ _).mono ?_
          rw [right_i]
          rintro e w1 ⟨rfl, hb⟩
          obtain ⟨S3, hz⟩ := slots1 _ _ _ _ _ _ hb
          have hw : Below w.heap.size w w1 := Below.trans ((Below.refl _ _).alloc (Nat.le_refl _) _) (Below.mono hb (by simp <;> omega))
          clear hb
          obtain ⟨p0, p1, p2, p3, p4, p5⟩ := id S3
          go_wp2
          go_ret2
          exact ⟨rfl, hw⟩
    · obtain ⟨k, n, s⟩ := x
      rw [show rtruthT ⟨k, n, s⟩ = (0, 20) from by unfold rtruthT; rw [if_neg (by simp [h]), if_pos (by simp only at h3 ⊢; omega)]]
      have h3' : 1 < k := by simp only at h3; omega
      clear h3
      go_enter Try.func46, Try.ntmps46
      go_wp2_with fail
      refine (rright_any k n s _).mono ?_
      rw [h]
      rintro e w1 ⟨rfl, hb⟩
      obtain ⟨S3, hz⟩ := slots1 _ _ _ _ _ _ hb
      have hw : Below w.heap.size w w1 := Below.trans ((Below.refl _ _).alloc (Nat.le_refl _) _) (Below.mono hb (by simp <;> omega))
      clear hb
      obtain ⟨p0, p1, p2, p3, p4, p5⟩ := id S3
      go_wp2
      go_ret2
      exact ⟨rfl, hw⟩
  · obtain ⟨k, n, s⟩ := x
    have h' : Vl.right ⟨k, n, s⟩ = false := by simpa using h
    rw [show rtruthT ⟨k, n, s⟩ = (0, 3) from by unfold rtruthT; rw [if_pos h']]
    clear h
    go_enter Try.func46, Try.ntmps46
    go_wp2_with fail
    refine (rright_any k n s _).mono ?_
    rw [h']
    rintro e w1 ⟨rfl, hb⟩
    obtain ⟨S3, hz⟩ := slots1 _ _ _ _ _ _ hb
    have hw : Below w.heap.size w w1 := Below.trans ((Below.refl _ _).alloc (Nat.le_refl _) _) (Below.mono hb (by simp <;> omega))
    clear hb
    obtain ⟨p0, p1, p2, p3, p4, p5⟩ := id S3
    go_wp2
    go_ret2
    exact ⟨rfl, hw⟩

theorem rOf_two (w : World) : Calls Try.prog 60 #[.int .i64 2] w fun e w' => e = .returned (.agg #[.int .u8 0, .int .i64 0, .string ⟨#[]⟩]) ∧ Below w.heap.size w w' := by
  go_enter Try.func60, Try.ntmps60
  go_wp2
  refine bodyPost_ret (v := .agg #[.int .u8 0, .int .i64 0, .string ⟨#[]⟩]) (by simp [results, Try.results60, go_sem, *]) rfl ⟨rfl, ?_⟩
  exact Below.box _ _

theorem rOf_num (n : Int) (hn : (n == 2) = false) (w : World) : Calls Try.prog 60 #[.int .i64 n] w fun e w' => e = .returned (.agg #[.int .u8 1, .int .i64 n, .string ⟨#[]⟩]) ∧ Below w.heap.size w w' := by
  go_enter Try.func60, Try.ntmps60
  go_wp2_with fail
  refine (rnumber_any n _).mono ?_
  rintro e w1 ⟨rfl, hb⟩
  obtain ⟨S3, hz⟩ := slots1 _ _ _ _ _ _ hb
  have hw : Below w.heap.size w w1 := Below.trans ((Below.refl _ _).alloc (Nat.le_refl _) _) (Below.mono hb (by simp <;> omega))
  clear hb
  obtain ⟨p0, p1, p2, p3, p4, p5⟩ := id S3
  go_wp2
  refine bodyPost_ret (v := .agg #[.int .u8 1, .int .i64 n, .string ⟨#[]⟩]) (by simp [results, Try.results60, go_sem, *]) rfl ⟨rfl, ?_⟩
  exact ((hw.setCell (by simp) _).setCell (by simp) _).setCell (by simp) _

def ofT (t : Int) : Vl := if t = 2 then nullV else numV t

theorem rOf_any (t : Int) (w : World) : Calls Try.prog 60 #[.int .i64 t] w fun e w' => e = .returned (.agg #[.int .u8 (ofT t).k, .int .i64 (ofT t).n, .string (ofT t).s]) ∧ Below w.heap.size w w' := by
  unfold ofT
  by_cases h : t = 2
  · rw [if_pos h]; subst h; exact rOf_two w
  · rw [if_neg h]; exact rOf_num t (by simp [h]) w

end Go.Proofs.Yteepnbdkpelbiaa
