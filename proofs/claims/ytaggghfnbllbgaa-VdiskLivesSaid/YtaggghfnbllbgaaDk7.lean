/- empty, New. -/
import Derived.Test.YtaggghfnbllbgaaDk6
namespace Go.Proofs.Ytaggghfnbllbgaa
set_option linter.unusedSimpArgs false
open Go.RowKit

set_option maxHeartbeats 2000000 in
theorem empty_any (w : World) :
    Calls Try.prog 44 #[] w fun e w' => e = .returned (.agg #[.map (some (w.heap.size + 1)), .int .i64 0, .int .i64 0]) ∧ w'.heap.size = w.heap.size + 2 ∧ MapA .i64 .u8 2 w' (w.heap.size + 1) Cont.empty.key ∧ Below w.heap.size w w' := by
  have hk : Cont.empty.key = fun _ => none := by
    funext x
    unfold Cont.key Cont.empty
    match x with
    | [] => rfl
    | [_] => rfl
    | [_, _] => rfl
    | _ :: _ :: _ :: _ => rfl
  rw [hk]
  have HH : Hid (∀ c : Array Value, MapA .i64 .u8 2 ((w.alloc (.cells c 44)).alloc (.map #[] 0)) (w.heap.size + 1) (fun _ => none) ∧ Below w.heap.size w ((w.alloc (.cells c 44)).alloc (.map #[] 0))) := fun c => by
    have := MapA.new .i64 .u8 2 (w.alloc (.cells c 44))
    rw [show (w.alloc (.cells c 44)).heap.size = w.heap.size + 1 by simp] at this
    exact ⟨this, ((Below.refl _ _).alloc (Nat.le_refl _) _).alloc (by simp) _⟩
  clear hk
  have hmm := @run_makeMap Try.prog
  go_enter Try.func44, Try.ntmps44
  go_wp2
  exact bodyPost_ret (v := .agg #[.map (some (w.heap.size + 1)), .int .i64 0, .int .i64 0]) (by simp [results, Try.results44, go_sem]) rfl ⟨rfl, by simp, (HH.out _).1, (HH.out _).2⟩

/-- What New hands back. -/
def RetNew (w : World) (q : Int) (e : Ending) (w' : World) : Prop := Below w.heap.size w w' ∧ ((isQuotaB q = false ∧ e = .returned (.tuple #[.pointer none, .int .i64 1])) ∨
      (isQuotaB q = true ∧ ∃ B Mv Md, e = .returned (.tuple #[.pointer (some ⟨B, 0, none⟩), .int .i64 0]) ∧ DiskAt w' B (DS.new q.toNat) Mv Md (.slice none 0 0) ∧ ∀ k ∈ footD B Mv Md (.slice none 0 0), w.heap.size ≤ k))

set_option maxRecDepth 100000 in
set_option maxHeartbeats 4000000 in
theorem New_any (q : Int) (w : World) : Calls Try.prog 11 #[.int .i64 q] w (RetNew w q) := by
  have HQ := Lib.hid (isQuota_any q w)
  cases hq : isQuotaB q with
  | false =>
    have hq' := Lib.hid hq
    rw [hq] at HQ
    clear hq
    go_enter Try.func11, Try.ntmps11
    go_wp2_with (refine HQ.out.mono ?_; rintro e w' ⟨rfl, rfl⟩)
    go_ret2
    exact ⟨Below.refl _ _, .inl ⟨hq'.out, rfl⟩⟩
  | true =>
    have hq' := Lib.hid hq
    rw [hq] at HQ
    have h1 : 1 ≤ q ∧ q ≤ 65536 := by unfold isQuotaB at hq; simpa using hq
    obtain ⟨m, rfl⟩ : ∃ m : Nat, q = (m : Int) := ⟨q.toNat, by omega⟩
    have HE := Lib.hid (fun W => empty_any W)
    have h2 : 1 ≤ m ∧ m ≤ 65536 := by omega
    clear hq h1
    go_enter Try.func11, Try.ntmps11
    go_wp2_with (refine HQ.out.mono ?_; rintro e w' ⟨rfl, rfl⟩)
    refine (HE.out w').mono ?_
    rintro e w1 ⟨rfl, hs1, hM1, hb1⟩
    have HM1 := Lib.hid hM1
    clear hM1
    go_wp2_with fail
    refine (HE.out w1).mono ?_
    rintro e w2 ⟨rfl, hs2, hM2, hb2⟩
    have HM2 := Lib.hid hM2
    have HM1' := Lib.hid (HM1.out.chg (S := []) (Below.chg0 hb2 _) (by simp))
    clear hM2 HE
    have hb := hb1.trans (hb2.mono hb1.size)
    clear hb1 hb2 HM1
    have hs : w2.heap.size = w'.heap.size + 2 + 2 := by omega
    have HB : Hid (∀ cs : Array Value, Blk (w2.alloc (.cells cs 47)) (w'.heap.size + 2 + 2) 47 cs) := fun cs => by rw [← hs]; exact Blk.new _ _ _
    have HS : Hid (w1.heap.size = w'.heap.size + 2) := hs1
    clear hs
    go_wp2
    go_ret2
    refine ⟨hb.alloc hb.size _, .inr ⟨hq'.out, w'.heap.size + 2 + 2, w'.heap.size + 1, w'.heap.size + 2 + 1, rfl, ⟨?_, ?_, ?_, World.ownsRow_nil _ _ _ _, by omega, ?_, by simp [DS.new], by simp [DS.new]⟩, ?_⟩⟩
    · rw [Int.toNat_natCast]; exact HB.out _
    · exact HM1'.out.alloc _
    · have := HM2.out.alloc (.cells (rowD (w'.heap.size + 2 + 2) (DS.new m) (w'.heap.size + 1) (w'.heap.size + 2 + 1) (.slice none 0 0)) 47)
      rw [HS.out] at this
      exact this
    · rw [Int.toNat_natCast]; exact DS.new_ok h2.1 h2.2
    · intro k hk
      simp [footD, Value.ownBlock] at hk
      omega
end Go.Proofs.Ytaggghfnbllbgaa
