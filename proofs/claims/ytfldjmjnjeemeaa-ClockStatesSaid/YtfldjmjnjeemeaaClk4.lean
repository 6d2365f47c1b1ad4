/- fixed.Get of bytes in memory. -/
import Derived.Test.YtfldjmjnjeemeaaNGet
namespace Go.Proofs.Ytfldjmjnjeemeaa
open Go.RowKit

set_option maxHeartbeats 1000000 in
theorem GetB_any (N : Nat) (l : List Nat) (a : Option Addr) (n cap : Nat) (w : World) (h : Bs N w a l) (hn : n = l.length) (hs : n ≤ 6) :
    Calls Try.prog 42 #[.slice a n cap] w fun e w' => e = .returned (.int .i64 ((valL l : Nat) : Int)) ∧ w = w' := by
  have HB := Lib.hid (fun k => valL_lt (l.take k) (fun c hc => h.1 c (List.mem_of_mem_take hc)))
  have HT := Lib.hid (fun k c => valL_take l k c)
  have HH := Lib.hid h
  have HN := Lib.hid hn
  clear h hn
  go_enter Try.func42, Try.ntmps42
  go_wp2
  go_loop [3, 7] (fun x i => ∃ k V : Nat, k ≤ n ∧ i = .int .i64 k ∧ x = .int .i64 (V : Int) ∧ Hid (V = valL (l.take k))) (fun _ i => n - (intOf i).toNat)
  case atStart => exact ⟨0, 0, by omega, rfl, rfl, rfl⟩
  case round =>
    obtain ⟨k, V, hk, rfl, rfl, HV⟩ := hrel
    by_cases hlt : k < n
    · have hkl : k < l.length := by have := HN.out; omega
      have hV : V < 281474976710656 := by
        have h1 := HB.out k
        have h3 := HN.out
        rw [← HV.out, List.length_take] at h1
        have h2 : (256 : Nat) ^ min k l.length ≤ 256 ^ 6 := Nat.pow_le_pow_right (by omega) (by omega)
        omega
      have hc := List.getElem?_eq_getElem hkl
      have hc256 : l[k] < 256 := HH.out.1 _ (List.getElem_mem hkl)
      have HS : Hid (256 * V + l[k] = valL (l.take (k + 1))) := by
        show _ = _
        rw [HT.out k _ hc, ← HV.out]
      have HO := Lib.hid (orI V l[k] hV hc256)
      have hne : l ≠ [] := by intro h0; rw [h0] at hkl; simp at hkl
      obtain ⟨b, o, rfl, hbN, hcell⟩ := HH.out.2.resolve_left hne
      have hck := hcell k _ hc
      generalize l[k]'hkl = c at *
      clear hc hcell hne
      go_wp2
      go_round
      case rel => exact ⟨k + 1, 256 * V + c, by omega, by go_num, by rw [HO.out], HS⟩
      case measure => simp [intOf]; omega
    · go_wp2
      go_ret
      exact ⟨by rw [HV.out, List.take_of_length_le (by have := HN.out; omega)]; rfl, rfl⟩
end Go.Proofs.Ytfldjmjnjeemeaa
