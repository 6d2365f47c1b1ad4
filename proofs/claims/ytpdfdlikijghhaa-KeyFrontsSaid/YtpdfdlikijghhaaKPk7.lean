/- Several texts of one proof, one behind the other. -/
import Derived.Test.YtpdfdlikijghhaaKPk6

/- The walks of record.isRow and what it calls. -/
namespace Go.Proofs.Ytpdfdlikijghhaa
open Go.RowKit

/-- Where the first one is that isn't valid: -1 if there is none. -/
def RetIx (w : World) (l : List Vl) (e : Ending) (w' : World) : Prop := ∃ r : Int, e = .returned (.int .i64 r) ∧ (decide (0 ≤ r) = !(l.all Vl.right)) ∧ -1 ≤ r ∧ Below w.heap.size w w'

theorem all_take (l : List Vl) (k : Nat) (h : k < l.length) : (l.take (k + 1)).all Vl.right = ((l.take k).all Vl.right && l[k].right) := by
  rw [List.take_succ_eq_append_getElem h, List.all_append]; simp only [List.all_cons, List.all_nil, Bool.and_true]

theorem all_false (l : List Vl) (k : Nat) (h : k < l.length) (hk : l[k].right = false) : l.all Vl.right = false := by
  rw [List.all_eq_false]
  exact ⟨l[k], List.getElem_mem h, by simp [hk]⟩

end Go.Proofs.Ytpdfdlikijghhaa

/- The walks of key.isTuple and what it calls. -/
namespace Go.Proofs.Ytpdfdlikijghhaa
open Go.RowKit

theorem notRightK_any (x : Vl) (w : World) : Calls Try.prog 28 #[.agg #[.int .u8 x.k, .int .i64 x.n, .string x.s]] w fun e w' => e = .returned (.bool (!x.right)) ∧ Below w.heap.size w w' := by
  obtain ⟨k, n, s⟩ := x
  have HR := Lib.hid (fun W => right_any k n s W)
  obtain ⟨r, hr⟩ : ∃ r, Vl.right ⟨k, n, s⟩ = r := ⟨_, rfl⟩
  rw [hr] at HR ⊢
  clear hr
  go_enter Try.func28, Try.ntmps28
  go_wp2_with fail
  refine (HR.out _).mono ?_
  rintro e w1 ⟨rfl, hb⟩
  clear HR
  go_wp2
  go_ret
  exact ⟨rfl, (Below.box _ _).trans (Below.mono hb (by simp))⟩

set_option maxHeartbeats 1000000 in
theorem indexFuncK_any (l : List Vl) (a : Option Addr) (len cap : Nat) (w : World) (hV : Vs w.heap.size w a l) (hlen : len = l.length) (hmax : len ≤ 140737488355328) :
    Calls Try.prog 36 #[.slice a len cap, .func (.func 28) #[] #[]] w (RetIx w l) := by
  have HV := Lib.hid hV
  have HL := Lib.hid hlen
  clear hV hlen
  go_enter Try.func36, Try.ntmps36
  go_wp2
  go_loopw [8] (fun i wr => ∃ k : Nat, k ≤ len ∧ i = .int .i64 k ∧ Hid ((l.take k).all Vl.right = true) ∧ Below w.heap.size w wr) (fun i _ => len - (intOf i).toNat)
  case atStart => exact ⟨0, by omega, rfl, by simp [Hid], Below.refl _ _⟩
  case round =>
    obtain ⟨k, hk, rfl, HI, hb⟩ := hrel
    have hsz := hb.size
    by_cases hlt : k < len
    · have hkl : k < l.length := by have := HL.out; omega
      obtain ⟨b, o, rfl, hbN, hc⟩ := HV.out.at_ hkl
      obtain ⟨c0, c1, c2⟩ := hc.below hb hbN
      obtain ⟨y, hy⟩ : ∃ y, y = l[k] := ⟨_, rfl⟩
      have HA := Lib.hid (all_take l k hkl)
      have HF := Lib.hid (all_false l k hkl)
      rw [← hy] at c0 c1 c2 HA HF
      clear hy hc
      have HN := Lib.hid (fun W => notRightK_any y W)
      obtain ⟨r, hr⟩ : ∃ r, y.right = r := ⟨_, rfl⟩
      rw [hr] at HN HA HF
      clear hr
      go_wp2_with fail
      refine (HN.out _).mono ?_
      rintro e w1 ⟨rfl, hb1⟩
      clear HN
      cases r with
      | true =>
        go_wp2
        go_roundw
        case rel => exact ⟨k + 1, by omega, by go_num, by rw [HA.out, HI.out]; rfl, hb.trans (Below.mono hb1 hsz)⟩
        case measure => simp [intOf]; omega
      | false =>
        go_wp2
        go_ret
        exact ⟨k, rfl, by rw [HF.out (by trivial)]; simp, by omega, hb.trans (Below.mono hb1 hsz)⟩
    · go_wp2
      go_ret
      have hk2 : l.take k = l := List.take_of_length_le (by have := HL.out; omega)
      have := HI.out
      rw [hk2] at this
      exact ⟨-1, rfl, by rw [this]; rfl, by omega, hb⟩

theorem containsFuncK_any (l : List Vl) (a : Option Addr) (len cap : Nat) (w : World) (hV : Vs w.heap.size w a l) (hlen : len = l.length) (hmax : len ≤ 140737488355328) :
    Calls Try.prog 27 #[.slice a len cap, .func (.func 28) #[] #[]] w fun e w' => e = .returned (.bool (!(l.all Vl.right))) ∧ Below w.heap.size w w' := by
  have HC := Lib.hid (indexFuncK_any l a len cap w hV hlen hmax)
  clear hV hlen
  go_enter Try.func27, Try.ntmps27
  go_wp2_with fail
  refine HC.out.mono ?_
  rintro e w1 ⟨r, rfl, hr, hr1, hb⟩
  clear HC
  have HR := Lib.hid hr
  clear hr
  go_wp2
  go_ret
  refine ⟨?_, hb⟩
  rw [← HR.out]
  try rfl
  try simp

theorem isTuple_any (l : List Vl) (a : Option Addr) (len cap : Nat) (w : World) (hV : Vs w.heap.size w a l) (hlen : len = l.length) (hmax : len ≤ 140737488355328) :
    Calls Try.prog 18 #[.slice a len cap] w fun e w' => e = .returned (.bool (rowOk l)) ∧ Below w.heap.size w w' := by
  have HC := Lib.hid (containsFuncK_any l a len cap w hV hlen hmax)
  have HL := Lib.hid hlen
  clear hV hlen
  by_cases h : len ≤ 16
  · have HR : Hid (rowOk l = l.all Vl.right) := by
      unfold rowOk; rw [← HL.out]; simp [h, Hid]
    obtain ⟨r, hr⟩ : ∃ r, l.all Vl.right = r := ⟨_, rfl⟩
    rw [hr] at HR HC
    rw [HR.out]
    clear hr HR
    have q1 : decide ((len : Int) ≤ 16) = true := by simp; omega
    go_enter Try.func18, Try.ntmps18
    go_wp2_with fail
    refine HC.out.mono ?_
    rintro e w1 ⟨rfl, hb⟩
    clear HC
    go_wp2
    go_ret
    exact ⟨by simp, hb⟩
  · have HR : Hid (rowOk l = false) := by
      unfold rowOk; rw [← HL.out]; simp [h, Hid]
    have q1 : decide ((len : Int) ≤ 16) = false := by simp; omega
    rw [HR.out]
    clear HC
    go_enter Try.func18, Try.ntmps18
    go_wp2
    go_ret
    exact ⟨rfl, Below.refl _ _⟩
end Go.Proofs.Ytpdfdlikijghhaa

/- The walks of record.encode and record.Write. -/
namespace Go.Proofs.Ytpdfdlikijghhaa
open Go.RowKit

theorem encV_ne (x : Vl) : encV x ≠ [] := by
  unfold encV; split
  · simp
  · split <;> simp

theorem textL_ne (s : ByteArray) : textL s ≠ [] := by
  intro h
  have := congrArg List.length h
  have := putL_pos s.size
  unfold textL at *
  rw [List.length_append] at *
  simp only [List.length_nil] at *
  omega

end Go.Proofs.Ytpdfdlikijghhaa

/- The walk of record.Write; record.Right. -/
namespace Go.Proofs.Ytpdfdlikijghhaa
open Go.RowKit

theorem encV_len (x : Vl) (hs : x.s.size ≤ 8192) (hf : x.fair) : (encV x).length ≤ 8300 := by
  have h1 := putL_len10 (zigN_lt x.n hf.2.1.1 hf.2.1.2)
  have h2 := putL_len10 (show x.s.size < 18446744073709551616 by omega)
  unfold encV
  split
  · simp
  · split
    · simp only [List.length_cons]; omega
    · simp only [List.length_cons, textL, List.length_append, bytesOf_len]; omega

theorem encL_len (l : List Vl) (hs : ∀ x ∈ l, x.s.size ≤ 8192) (hf : ∀ x ∈ l, x.fair) : (encL l).length ≤ l.length * 8300 := by
  induction l with
  | nil => simp [encL]
  | cons x r ih =>
    have h1 := ih (fun y hy => hs y (by simp [hy])) (fun y hy => hf y (by simp [hy]))
    have h2 := encV_len x (hs x (by simp)) (hf x (by simp))
    have e : encL (x :: r) = encV x ++ encL r := rfl
    rw [e, List.length_append, List.length_cons]
    omega

/-- A text that is too long makes the row too long. -/
theorem encL_great (l : List Vl) (x : Vl) (hx : x ∈ l) (hr : x.right = true) (hs : 8192 < x.s.size) : 8192 < (encL l).length := by
  have h1 : x.s.size ≤ (encV x).length := by
    rcases right_kind hr with h | h | ⟨hk, h⟩
    · rw [h] at hs; simp [ByteArray.size] at hs
    · rw [h] at hs; simp [ByteArray.size] at hs
    · unfold encV
      rw [if_neg (by omega), if_neg (by omega)]
      simp only [List.length_cons, textL, List.length_append, bytesOf_len]; omega
  have h2 : (encV x).length ≤ (encL l).length := by
    obtain ⟨a, b, rfl⟩ := List.append_of_mem hx
    unfold encL
    rw [List.flatMap_append, List.flatMap_cons]
    simp only [List.length_append]; omega
  omega

theorem writeV_bad {l : List Vl} (h : rowOk l = false) : writeV l = ([], 3) := by unfold writeV; rw [if_pos h]
theorem writeV_long {l : List Vl} (h : rowOk l = true) (h2 : 8192 < 1 + (encL l).length) : writeV l = ([], 2) := by
  unfold writeV; rw [if_neg (by rw [h]; simp), if_pos h2]
theorem writeV_good {l : List Vl} (h : rowOk l = true) (h2 : ¬ 8192 < 1 + (encL l).length) : writeV l = (l.length :: encL l, 0) := by
  unfold writeV; rw [if_neg (by rw [h]; simp), if_neg h2]

theorem take_fair {l : List Vl} (k : Nat) {p : Vl → Prop} (h : ∀ x ∈ l, p x) : ∀ x ∈ l.take k, p x := fun x hx => h x (List.mem_of_mem_take hx)

end Go.Proofs.Ytpdfdlikijghhaa
