/- The walk of hindsightlaw01.alive. -/
import Derived.Test.YteepnbdkpelbiaaVInts
import Derived.Test.YteepnbdkpelbiaaOrd
namespace Go.Proofs.Yteepnbdkpelbiaa
open Go.RowKit

/-- A call that hands back bytes l in memory of its own. -/
def RetB (w : World) (l : List Nat) (e : Ending) (w' : World) : Prop :=
  ∃ a cap, e = .returned (.slice a l.length cap) ∧ l.length ≤ cap ∧ Bs w'.heap.size w' a l ∧ Below w.heap.size w w'

theorem RetB.of {w : World} {l : List Nat} {T : TypeId} {e : Ending} {w' : World} : (∃ r, e = .returned r ∧ OwnB w' w.heap.size T r l ∧ Below w.heap.size w w') → RetB w l e w' := by
  rintro ⟨r, rfl, hown, hb⟩
  obtain ⟨a, cap, rfl, hc, hB, _⟩ := hown.slice
  exact ⟨a, cap, rfl, hc, hB, hb⟩

theorem put_ret (v : Nat) (w : World) (h : v < 18446744073709551616) : Calls Try.prog 22 #[.int .u64 v] w (RetB w (putL v)) := (put_any v w h).mono fun _ _ h => RetB.of h
theorem rput_ret (v : Nat) (w : World) (h : v < 18446744073709551616) : Calls Try.prog 17 #[.int .u64 v] w (RetB w (putL v)) := (rput_any v w h).mono fun _ _ h => RetB.of h
theorem putInt_ret (n : Int) (w : World) (h1 : -9223372036854775808 ≤ n) (h2 : n ≤ 9223372036854775807) : Calls Try.prog 16 #[.int .i64 n] w (RetB w (putL (zigN n))) := (putInt_any n w h1 h2).mono fun _ _ h => RetB.of h

theorem Bs.str {N : Nat} {w : World} {a : Option Addr} {l : List Nat} (h : Bs N w a l) (n cap : Nat) (hn : n = l.length) :
    (convert 23 9 (.slice a n cap)).run Try.prog w = .ok (.string (strN l)) w :=
  h.conv 23 5 Try.underlying23 Try.underlying5 9 Try.underlying9 n cap hn

theorem Bs.strL {w : World} {a : Option Addr} {l : List Nat} (h : Bs w.heap.size w a l) (n cap : Nat) (hn : n = l.length) :
    ∀ W, Later w W → (convert 23 9 (.slice a n cap)).run Try.prog W = .ok (.string (strN l)) W := fun W hW => (h.below hW).str n cap hn

theorem Bs.new (w : World) (l : List Nat) (hl : ∀ c ∈ l, c < 256) (cs : Array Value) (T : TypeId) (hcs : ∀ (i c : Nat), l[i]? = some c → cs[i]? = some (Value.int .u8 (c : Int))) :
    Bs (w.heap.size + 1) (w.alloc (.cells cs T)) (some ⟨w.heap.size, 0, none⟩) l :=
  ⟨hl, .inr ⟨w.heap.size, 0, rfl, by omega, fun i c hi => by rw [World.cell?_alloc_new, Nat.zero_add]; exact hcs i c hi⟩⟩

theorem e300 : putL 300 = [172, 2] := by rw [putL_step (by omega), putL_small (by omega)]

set_option maxHeartbeats 1000000 in
theorem alive_any (w : World) : Calls Try.prog 9 #[] w fun e w' => e = .returned (.bool true) ∧ Below w.heap.size w w' := by
  have hc1 := fun w => put_ret 300 w (by omega)
  rw [e300] at hc1
  have HC1 := Lib.hid hc1
  clear hc1
  go_enter Try.func9, Try.ntmps9
  go_wp2_with fail
  refine (HC1.out _).mono ?_
  rintro e w1 ⟨a1, c1, rfl, hcap1, hB1, hb1⟩
  clear HC1
  go_wp2_with fail
  have hg := get_any (w1.heap.size + 1) [172, 2] (some ⟨w1.heap.size, 0, none⟩) 2 2 0 (w1.alloc (.cells #[.int .u8 172, .int .u8 2] 5)) (Bs.new w1 [172, 2] (by simp) _ _ (by intro i c hi; match i, hi with | 0, hi => simp at hi; subst hi; rfl | 1, hi => simp at hi; subst hi; rfl)) rfl (by omega) (by omega) (by omega) (by omega)
  rw [show getR [172, 2] 0 = (300, 2, 0) from by decide] at hg
  go_fit hg
  rintro e w2 ⟨rfl, rfl⟩
  clear hg
  go_wp2_with fail
  have hg := get_any (w1.heap.size + 2) [128] (some ⟨w1.heap.size + 1, 0, none⟩) 1 1 0 ((w1.alloc (.cells #[.int .u8 172, .int .u8 2] 5)).alloc (.cells #[.int .u8 128] 5)) (by simpa using Bs.new (w1.alloc (.cells #[.int .u8 172, .int .u8 2] 5)) [128] (by simp) #[.int .u8 128] 5 (by intro i c hi; match i, hi with | 0, hi => simp at hi; subst hi; rfl)) rfl (by omega) (by omega) (by omega) (by omega)
  rw [show getR [128] 0 = (0, 0, 10) from by decide] at hg
  go_fit hg
  rintro e w2 ⟨rfl, rfl⟩
  clear hg
  have hbb : Below w1.heap.size w1 ((w1.alloc (.cells #[.int .u8 172, .int .u8 2] 5)).alloc (.cells #[.int .u8 128] 5)) := ((Below.refl _ _).alloc (Nat.le_refl _) _).alloc (by simp) _
  have hs := (hB1.below hbb).str 2 c1 rfl
  rw [show strN [172, 2] = ⟨#[172, 2]⟩ from by decide] at hs
  go_wp2_with fail
  refine (zig_any (-1) _ (by omega) (by omega)).mono ?_
  rw [show zigN (-1) = 1 from by decide]
  rintro e w2 ⟨rfl, rfl⟩
  go_wp2_with fail
  refine (zag_any 1 _ (by omega)).mono ?_
  rw [show zagZ 1 = -1 from by decide]
  rintro e w2 ⟨rfl, rfl⟩
  go_wp2
  go_ret
  exact ⟨rfl, hb1.trans (hbb.mono hb1.size)⟩

end Go.Proofs.Yteepnbdkpelbiaa
