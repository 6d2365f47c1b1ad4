/- The walks of record.encode and record.Write. -/
import Derived.Test.YtipeinkogoghnaaRIs
namespace Go.Proofs.Ytipeinkogoghnaa
open Go.RowKit

theorem encV_ne (x : Vl) : encV x ≠ [] := by
  unfold encV; split
  · simp
  · split <;> simp

theorem textL_ne (s : ByteArray) : textL s ≠ [] := by
  intro h
  have := congrArg List.length h
  have := putL_pos s.size
  unfold textL at *
  rw [List.length_append] at *
  simp only [List.length_nil] at *
  omega

set_option maxHeartbeats 1000000 in
theorem encode_any (x : Vl) (w : World) (hr : x.right = true) (hn1 : -9223372036854775808 ≤ x.n) (hn2 : x.n ≤ 9223372036854775807) (hs : x.s.size ≤ 1000000) :
    Calls Try.prog 44 #[.agg #[.int .u8 x.k, .int .i64 x.n, .string x.s]] w (RetB w (encV x)) := by
  obtain ⟨i0, hi, hz0, hz1, hz2⟩ := info_parts Try.info5
  rcases right_kind hr with h | h | ⟨hk, h⟩
  · rw [h]
    clear hn1 hn2 hs hr h
    have hown := OwnB.new (w.alloc (.cells #[.int .u8 0, .int .i64 0, .string ⟨#[]⟩] 23)) w.heap.size 5 0 0 (w.heap.size + 1) rfl (by omega) (by simp) (by simp)
    go_enter Try.func44, Try.ntmps44
    go_wp2
    go_ret
    exact RetB.of ⟨_, rfl, hown, ((Below.refl _ _).alloc (Nat.le_refl _) _).alloc (by simp) _⟩
  · obtain ⟨k, n, s⟩ := x
    simp only [Vl.mk.injEq] at h
    obtain ⟨rfl, -, rfl⟩ := h
    simp only at hn1 hn2
    clear hs hr
    have hz := zigN_lt n hn1 hn2
    have hp1 := putL_pos (zigN n)
    have hp2 := putL_len10 hz
    have hne1 : putL (zigN n) ≠ [] := by intro h; rw [h] at hp1; simp at hp1
    go_enter Try.func44, Try.ntmps44
    go_wp2_with fail
    have hown := OwnB.new (w.alloc (.cells #[.int .u8 1, .int .i64 n, .string ⟨#[]⟩] 23)) w.heap.size 5 1 1 (w.heap.size + 1) rfl (by omega) (by simp) (by simp)
    have hw : Below w.heap.size w ((w.alloc (.cells #[.int .u8 1, .int .i64 n, .string ⟨#[]⟩] 23)).alloc (.cells #[.int .u8 1] 5)) := ((Below.refl _ _).alloc (Nat.le_refl _) _).alloc (by simp) _
    refine (putInt_ret n _ hn1 hn2).mono ?_
    rintro e w2 ⟨a2, c2, rfl, hcap2, hB2, hb2⟩
    have hown2 := hown.below (Nat.le_refl _) hb2
    replace hw := hw.trans (hb2.mono hw.size)
    have hsz := hw.size
    clear hown hb2
    go_wp2_with (at_builtin; refine wpList_appB rfl _ _ 33 rfl w.heap.size 5 i0 Try.underlying33 hi hz0 hz1 hz2 _ _ w2 hown2 rfl w2.heap.size a2 (putL (zigN n)) (putL (zigN n)).length c2 hB2 hne1 rfl rfl (by simp; omega) hsz ?_; intro v3 w3 hown3 hb3 hsz3)
    go_ret
    exact RetB.of ⟨_, rfl, hown3, hw.trans hb3⟩
  · obtain ⟨k, n, s⟩ := x
    simp only [Vl.mk.injEq] at h
    obtain ⟨-, rfl, -⟩ := h
    simp only at hk hs
    clear hn1 hn2 hr
    have hp2 := putL_len10 (show s.size < 18446744073709551616 by omega)
    have htl : (textL s).length ≤ 2000000 := by simp [textL, bytesOf_len]; omega
    have hne := textL_ne s
    rcases hk with rfl | rfl
    all_goals
      go_enter Try.func44, Try.ntmps44
      go_wp2_with fail
    · have hown := OwnB.new (w.alloc (.cells #[.int .u8 2, .int .i64 0, .string s] 23)) w.heap.size 5 2 2 (w.heap.size + 1) rfl (by omega) (by simp) (by simp)
      have hw : Below w.heap.size w ((w.alloc (.cells #[.int .u8 2, .int .i64 0, .string s] 23)).alloc (.cells #[.int .u8 2] 5)) := ((Below.refl _ _).alloc (Nat.le_refl _) _).alloc (by simp) _
      refine (putText_ret s _ hs).mono ?_
      rintro e w2 ⟨a2, c2, rfl, hcap2, hB2, hb2⟩
      have hown2 := hown.below (Nat.le_refl _) hb2
      replace hw := hw.trans (hb2.mono hw.size)
      have hsz := hw.size
      clear hown hb2
      go_wp2_with (at_builtin; refine wpList_appB rfl _ _ 33 rfl w.heap.size 5 i0 Try.underlying33 hi hz0 hz1 hz2 _ _ w2 hown2 rfl w2.heap.size a2 (textL s) (textL s).length c2 hB2 hne rfl rfl (by simp; omega) hsz ?_; intro v3 w3 hown3 hb3 hsz3)
      go_ret
      exact RetB.of ⟨_, rfl, hown3, hw.trans hb3⟩
    · have hown := OwnB.new (w.alloc (.cells #[.int .u8 3, .int .i64 0, .string s] 23)) w.heap.size 5 3 3 (w.heap.size + 1) rfl (by omega) (by simp) (by simp)
      have hw : Below w.heap.size w ((w.alloc (.cells #[.int .u8 3, .int .i64 0, .string s] 23)).alloc (.cells #[.int .u8 3] 5)) := ((Below.refl _ _).alloc (Nat.le_refl _) _).alloc (by simp) _
      refine (putText_ret s _ hs).mono ?_
      rintro e w2 ⟨a2, c2, rfl, hcap2, hB2, hb2⟩
      have hown2 := hown.below (Nat.le_refl _) hb2
      replace hw := hw.trans (hb2.mono hw.size)
      have hsz := hw.size
      clear hown hb2
      go_wp2_with (at_builtin; refine wpList_appB rfl _ _ 33 rfl w.heap.size 5 i0 Try.underlying33 hi hz0 hz1 hz2 _ _ w2 hown2 rfl w2.heap.size a2 (textL s) (textL s).length c2 hB2 hne rfl rfl (by simp; omega) hsz ?_; intro v3 w3 hown3 hb3 hsz3)
      go_ret
      exact RetB.of ⟨_, rfl, hown3, hw.trans hb3⟩
end Go.Proofs.Ytipeinkogoghnaa
