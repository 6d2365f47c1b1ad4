/- The walks of the reference's Not and Join, and of cell.Join. -/
import Derived.Test.YteepnbdkpelbiaaCRefT
namespace Go.Proofs.Yteepnbdkpelbiaa
open Go.RowKit

def tabN (x : Int) : Int := if x = 2 then 2 else if x = 0 then 1 else 0
def rnotV (a : Vl) : Vl × Int := if (rtruthT a).2 ≠ 0 then (nullV, (rtruthT a).2) else (ofT (tabN (rtruthT a).1), 0)

theorem rnot_bad (k : Nat) (n : Int) (s : ByteArray) (w : World) (x E : Int) (hE : (E != 0) = true)
    (HX : Hid (∀ W, Calls Try.prog 46 #[.agg #[.int .u8 k, .int .i64 n, .string s]] W (RetI2 W (x, E)))) :
    Calls Try.prog 44 #[.agg #[.int .u8 k, .int .i64 n, .string s]] w (RetV w (nullV, E)) := by
  go_enter Try.func44, Try.ntmps44
  go_wp2_with fail
  refine (HX.out _).mono ?_
  rintro e w1 ⟨rfl, hb⟩
  obtain ⟨S3, S4, hz⟩ := slots2 _ _ _ _ _ _ _ _ _ hb
  have hw : Below w.heap.size w w1 := Below.trans (((Below.refl _ _).alloc (Nat.le_refl _) _).alloc (by simp) _) (Below.mono hb (by simp <;> omega))
  clear hb
  obtain ⟨p0, p1, p2, p3, p4, p5⟩ := id S3
  obtain ⟨q0, q1, q2, q3, q4, q5⟩ := id S4
  go_wp2
  refine bodyPost_ret (v := .tuple #[.agg #[.int .u8 0, .int .i64 0, .string ⟨#[]⟩], .int .i64 E]) (by simp [results, Try.results44, go_sem, *]) rfl ⟨rfl, ?_⟩
  exact ((hw.setCell (by simp <;> omega) _).setCell (by simp <;> omega) _).setCell (by simp <;> omega) _

theorem rnot_good (k : Nat) (n : Int) (s : ByteArray) (w : World) (x t : Int) (hx : x = 0 ∨ x = 1 ∨ x = 2) (ht : tabN x = t)
    (HX : Hid (∀ W, Calls Try.prog 46 #[.agg #[.int .u8 k, .int .i64 n, .string s]] W (RetI2 W (x, 0)))) :
    Calls Try.prog 44 #[.agg #[.int .u8 k, .int .i64 n, .string s]] w (RetV w (ofT t, 0)) := by
  rcases hx with rfl | rfl | rfl
  all_goals
    simp [tabN] at ht
    subst ht
    go_enter Try.func44, Try.ntmps44
    go_wp2_with fail
    refine (HX.out _).mono ?_
    rintro e w1 ⟨rfl, hb⟩
    obtain ⟨S3, S4, hz⟩ := slots2 _ _ _ _ _ _ _ _ _ hb
    have hw : Below w.heap.size w w1 := Below.trans (((Below.refl _ _).alloc (Nat.le_refl _) _).alloc (by simp) _) (Below.mono hb (by simp <;> omega))
    clear hb
    clear HX
    obtain ⟨p0, p1, p2, p3, p4, p5⟩ := id S3
    obtain ⟨q0, q1, q2, q3, q4, q5⟩ := id S4
    go_wp2_with fail
    clear p0 p1 p2 p3 p4 p5 q0 q1 q2 q3 q4 q5
    refine (rOf_any _ _).mono ?_
    rintro e w5 ⟨rfl, hb⟩
    replace hb : Later w1 w5 := Later.trans (Below.box _ _) hb
    replace S3 := S3.later hb (by omega)
    replace S4 := S4.later hb (by omega)
    replace hw := hw.trans (Below.mono hb (by omega))
    replace hz := Nat.le_trans hz (Below.size hb)
    clear hb
    obtain ⟨p0, p1, p2, p3, p4, p5⟩ := id S3
    obtain ⟨q0, q1, q2, q3, q4, q5⟩ := id S4
    go_wp2
    first
      | refine bodyPost_ret (v := .tuple #[.agg #[.int .u8 (ofT 0).k, .int .i64 (ofT 0).n, .string (ofT 0).s], .int .i64 0]) (by simp [results, Try.results44, go_sem, *]) rfl ⟨rfl, ?_⟩
      | refine bodyPost_ret (v := .tuple #[.agg #[.int .u8 (ofT 1).k, .int .i64 (ofT 1).n, .string (ofT 1).s], .int .i64 0]) (by simp [results, Try.results44, go_sem, *]) rfl ⟨rfl, ?_⟩
      | refine bodyPost_ret (v := .tuple #[.agg #[.int .u8 (ofT 2).k, .int .i64 (ofT 2).n, .string (ofT 2).s], .int .i64 0]) (by simp [results, Try.results44, go_sem, *]) rfl ⟨rfl, ?_⟩
    exact ((hw.setCell (by simp <;> omega) _).setCell (by simp <;> omega) _).setCell (by simp <;> omega) _

end Go.Proofs.Yteepnbdkpelbiaa
