/- The walks of record.isRow and what it calls. -/
import Derived.Test.YtipeinkogoghnaaRGreat
import Derived.Test.YtipeinkogoghnaaCTruth
namespace Go.Proofs.Ytipeinkogoghnaa
open Go.RowKit

theorem notRight_any (x : Vl) (w : World) : Calls Try.prog 61 #[.agg #[.int .u8 x.k, .int .i64 x.n, .string x.s]] w fun e w' => e = .returned (.bool (!x.right)) ∧ Below w.heap.size w w' := by
  obtain ⟨k, n, s⟩ := x
  have HR := Lib.hid (fun W => right_any k n s W)
  obtain ⟨r, hr⟩ : ∃ r, Vl.right ⟨k, n, s⟩ = r := ⟨_, rfl⟩
  rw [hr] at HR ⊢
  clear hr
  go_enter Try.func61, Try.ntmps61
  go_wp2_with fail
  refine (HR.out _).mono ?_
  rintro e w1 ⟨rfl, hb⟩
  clear HR
  go_wp2
  go_ret
  exact ⟨rfl, (Below.box _ _).trans (Below.mono hb (by simp))⟩

/-- Where the first one is that isn't valid: -1 if there is none. -/
def RetIx (w : World) (l : List Vl) (e : Ending) (w' : World) : Prop := ∃ r : Int, e = .returned (.int .i64 r) ∧ (decide (0 ≤ r) = !(l.all Vl.right)) ∧ -1 ≤ r ∧ Below w.heap.size w w'

theorem all_take (l : List Vl) (k : Nat) (h : k < l.length) : (l.take (k + 1)).all Vl.right = ((l.take k).all Vl.right && l[k].right) := by
  rw [List.take_succ_eq_append_getElem h, List.all_append]; simp only [List.all_cons, List.all_nil, Bool.and_true]

theorem all_false (l : List Vl) (k : Nat) (h : k < l.length) (hk : l[k].right = false) : l.all Vl.right = false := by
  rw [List.all_eq_false]
  exact ⟨l[k], List.getElem_mem h, by simp [hk]⟩

set_option maxHeartbeats 1000000 in
theorem indexFunc_any (l : List Vl) (a : Option Addr) (len cap : Nat) (w : World) (hV : Vs w.heap.size w a l) (hlen : len = l.length) (hmax : len ≤ 140737488355328) :
    Calls Try.prog 73 #[.slice a len cap, .func (.func 61) #[] #[]] w (RetIx w l) := by
  have HV := Lib.hid hV
  have HL := Lib.hid hlen
  clear hV hlen
  go_enter Try.func73, Try.ntmps73
  go_wp2
  go_loopw [8] (fun i wr => ∃ k : Nat, k ≤ len ∧ i = .int .i64 k ∧ Hid ((l.take k).all Vl.right = true) ∧ Below w.heap.size w wr) (fun i _ => len - (intOf i).toNat)
  case atStart => exact ⟨0, by omega, rfl, by simp [Hid], Below.refl _ _⟩
  case round =>
    obtain ⟨k, hk, rfl, HI, hb⟩ := hrel
    have hsz := hb.size
    by_cases hlt : k < len
    · have hkl : k < l.length := by have := HL.out; omega
      obtain ⟨b, o, rfl, hbN, hc⟩ := HV.out.at_ hkl
      obtain ⟨c0, c1, c2⟩ := hc.below hb hbN
      obtain ⟨y, hy⟩ : ∃ y, y = l[k] := ⟨_, rfl⟩
      have HA := Lib.hid (all_take l k hkl)
      have HF := Lib.hid (all_false l k hkl)
      rw [← hy] at c0 c1 c2 HA HF
      clear hy hc
      have HN := Lib.hid (fun W => notRight_any y W)
      obtain ⟨r, hr⟩ : ∃ r, y.right = r := ⟨_, rfl⟩
      rw [hr] at HN HA HF
      clear hr
      go_wp2_with fail
      refine (HN.out _).mono ?_
      rintro e w1 ⟨rfl, hb1⟩
      clear HN
      cases r with
      | true =>
        go_wp2
        go_roundw
        case rel => exact ⟨k + 1, by omega, by go_num, by rw [HA.out, HI.out]; rfl, hb.trans (Below.mono hb1 hsz)⟩
        case measure => simp [intOf]; omega
      | false =>
        go_wp2
        go_ret
        exact ⟨k, rfl, by rw [HF.out (by trivial)]; simp, by omega, hb.trans (Below.mono hb1 hsz)⟩
    · go_wp2
      go_ret
      have hk2 : l.take k = l := List.take_of_length_le (by have := HL.out; omega)
      have := HI.out
      rw [hk2] at this
      exact ⟨-1, rfl, by rw [this]; rfl, by omega, hb⟩

theorem containsFunc_any (l : List Vl) (a : Option Addr) (len cap : Nat) (w : World) (hV : Vs w.heap.size w a l) (hlen : len = l.length) (hmax : len ≤ 140737488355328) :
    Calls Try.prog 60 #[.slice a len cap, .func (.func 61) #[] #[]] w fun e w' => e = .returned (.bool (!(l.all Vl.right))) ∧ Below w.heap.size w w' := by
  have HC := Lib.hid (indexFunc_any l a len cap w hV hlen hmax)
  clear hV hlen
  go_enter Try.func60, Try.ntmps60
  go_wp2_with fail
  refine HC.out.mono ?_
  rintro e w1 ⟨r, rfl, hr, hr1, hb⟩
  clear HC
  have HR := Lib.hid hr
  clear hr
  go_wp2
  go_ret
  refine ⟨?_, hb⟩
  rw [← HR.out]
  try rfl
  try simp

theorem isRow_any (l : List Vl) (a : Option Addr) (len cap : Nat) (w : World) (hV : Vs w.heap.size w a l) (hlen : len = l.length) (hmax : len ≤ 140737488355328) :
    Calls Try.prog 42 #[.slice a len cap] w fun e w' => e = .returned (.bool (rowOk l)) ∧ Below w.heap.size w w' := by
  have HC := Lib.hid (containsFunc_any l a len cap w hV hlen hmax)
  have HL := Lib.hid hlen
  clear hV hlen
  by_cases h : len ≤ 16
  · have HR : Hid (rowOk l = l.all Vl.right) := by
      unfold rowOk; rw [← HL.out]; simp [h, Hid]
    obtain ⟨r, hr⟩ : ∃ r, l.all Vl.right = r := ⟨_, rfl⟩
    rw [hr] at HR HC
    rw [HR.out]
    clear hr HR
    have q1 : decide ((len : Int) ≤ 16) = true := by simp; omega
    go_enter Try.func42, Try.ntmps42
    go_wp2_with fail
    refine HC.out.mono ?_
    rintro e w1 ⟨rfl, hb⟩
    clear HC
    go_wp2
    go_ret
    exact ⟨by simp, hb⟩
  · have HR : Hid (rowOk l = false) := by
      unfold rowOk; rw [← HL.out]; simp [h, Hid]
    have q1 : decide ((len : Int) ≤ 16) = false := by simp; omega
    rw [HR.out]
    clear HC
    go_enter Try.func42, Try.ntmps42
    go_wp2
    go_ret
    exact ⟨rfl, Below.refl _ _⟩
end Go.Proofs.Ytipeinkogoghnaa
