/- The walks of Zig, Zag, PutInt, GetInt (varint's and hindsightref01's). -/
import Derived.Test.YtipeinkogoghnaaVGet
import Derived.Lib.Hide
namespace Go.Proofs.Ytipeinkogoghnaa
open Go.RowKit

theorem ret_i {k : IntKind} {a b : Int} (h : a = b) : Ending.returned (.int k a) = .returned (.int k b) := by rw [h]

theorem wrap_u64_neg (n : Int) (h : n < 0) (h1 : -9223372036854775808 ≤ n) : IntKind.u64.wrap n = n + 18446744073709551616 := by
  rw [IntKind.wrap_u64]; omega

theorem zig_any (n : Int) (w : World) (h1 : -9223372036854775808 ≤ n) (h2 : n ≤ 9223372036854775807) :
    Calls Try.prog 74 #[.int .i64 n] w fun e w' => e = .returned (.int .u64 (zigN n : Nat)) ∧ w = w' := by
  by_cases hn : n < 0
  · obtain ⟨m, hm⟩ : ∃ m : Nat, n = -(m : Int) - 1 := ⟨(-n - 1).toNat, by omega⟩
    have hx := xor_neg1 n h1 h2
    rw [show -n - 1 = (m : Int) by omega] at hx
    have HZ : Hid (zigN n = 2 * m + 1) := by unfold zigN; rw [if_pos hn]; show _ = _; omega
    have ho : bits .or .u64 ((m : Int) * 2) 1 = ((2 * m + 1 : Nat) : Int) := by
      have := or_one m (by omega)
      rw [← this]; congr 1; omega
    have HW : Hid (IntKind.u64.wrap (IntKind.u64.wrap (m : Int) * 2) = (m : Int) * 2) := by rw [IntKind.wrap_u64, IntKind.wrap_u64]; show _ = _; omega
    have HO := Lib.hid ho
    clear hm h1 h2 ho
    go_enter Try.func74, Try.ntmps74
    go_wp2
    go_ret
    exact ⟨ret_i (by rw [HW.out, HO.out, HZ.out]), rfl⟩
  · obtain ⟨m, rfl⟩ := Int.eq_ofNat_of_zero_le (show 0 ≤ n by omega)
    have HZ : Hid (zigN (m : Int) = 2 * m) := by unfold zigN; rw [if_neg hn]; show _ = _; omega
    have hm2 : 2 * m + 1 < 18446744073709551616 := by omega
    clear h1 h2
    go_enter Try.func74, Try.ntmps74
    go_wp2
    go_ret
    exact ⟨ret_i (by rw [HZ.out]; simp; omega), rfl⟩

theorem rzig_any (n : Int) (w : World) (h1 : -9223372036854775808 ≤ n) (h2 : n ≤ 9223372036854775807) :
    Calls Try.prog 47 #[.int .i64 n] w fun e w' => e = .returned (.int .u64 (zigN n : Nat)) ∧ w = w' := by
  by_cases hn : 0 ≤ n
  · obtain ⟨m, rfl⟩ := Int.eq_ofNat_of_zero_le hn
    have HZ : Hid (zigN (m : Int) = 2 * m) := by unfold zigN; rw [if_neg (by omega)]; show _ = _; omega
    have hm2 : 2 * m + 1 < 18446744073709551616 := by omega
    clear h1 h2
    go_enter Try.func47, Try.ntmps47
    go_wp2
    go_ret
    exact ⟨ret_i (by rw [HZ.out]; simp), rfl⟩
  · have HZ : Hid ((zigN n : Int) = -2 * n - 1) := by unfold zigN; rw [if_pos (by omega)]; show _ = _; omega
    go_enter Try.func47, Try.ntmps47
    go_wp2
    go_ret
    exact ⟨ret_i (by rw [HZ.out]; omega), rfl⟩

theorem and1 (v : Nat) (h : v < 18446744073709551616) : bits .and .u64 (v : Int) 1 = ((v % 2 : Nat) : Int) := by
  have := u64_and_nat v 1 h (by omega)
  rw [nat_mask1] at this; exact this

theorem zag_any (v : Nat) (w : World) (h : v < 18446744073709551616) :
    Calls Try.prog 75 #[.int .u64 v] w fun e w' => e = .returned (.int .i64 (zagZ v)) ∧ w = w' := by
  have ha := and1 v h
  by_cases hn : v % 2 = 0
  · have HZ : Hid (zagZ v = ((v / 2 : Nat) : Int)) := by unfold zagZ; rw [if_pos hn]; rfl
    rw [hn] at ha
    clear hn
    go_enter Try.func75, Try.ntmps75
    go_wp2
    go_ret
    exact ⟨ret_i (by rw [HZ.out]; simp), rfl⟩
  · have HZ : Hid (zagZ v = -((v / 2 : Nat) : Int) - 1) := by unfold zagZ; rw [if_neg hn]; rfl
    rw [show v % 2 = 1 by omega] at ha
    have hx := xor_neg1 ((v : Int) / 2) (by omega) (by omega)
    clear hn
    go_enter Try.func75, Try.ntmps75
    go_wp2
    go_ret
    exact ⟨ret_i (by rw [HZ.out]; simp), rfl⟩

theorem rzag_any (v : Nat) (w : World) (h : v < 18446744073709551616) :
    Calls Try.prog 67 #[.int .u64 v] w fun e w' => e = .returned (.int .i64 (zagZ v)) ∧ w = w' := by
  by_cases hn : v % 2 = 0
  · have HZ : Hid (zagZ v = ((v / 2 : Nat) : Int)) := by unfold zagZ; rw [if_pos hn]; rfl
    have hb : ((v : Int) % 2 == 0) = true := by simp; omega
    clear hn
    go_enter Try.func67, Try.ntmps67
    go_wp2
    go_ret
    exact ⟨ret_i (by rw [HZ.out]; simp), rfl⟩
  · have HZ : Hid (zagZ v = -((v / 2 : Nat) : Int) - 1) := by unfold zagZ; rw [if_neg hn]; rfl
    have hb : ((v : Int) % 2 == 0) = false := by simp; omega
    clear hn
    go_enter Try.func67, Try.ntmps67
    go_wp2
    go_ret
    exact ⟨ret_i (by rw [HZ.out]; simp), rfl⟩

theorem putInt_any (n : Int) (w : World) (h1 : -9223372036854775808 ≤ n) (h2 : n ≤ 9223372036854775807) :
    Calls Try.prog 62 #[.int .i64 n] w fun e w' => ∃ r, e = .returned r ∧ OwnB w' w.heap.size 5 r (putL (zigN n)) ∧ Below w.heap.size w w' := by
  have hz := zigN_lt n h1 h2
  go_enter Try.func62, Try.ntmps62
  go_wp2_with fail
  refine (zig_any n _ h1 h2).mono ?_
  rintro e w' ⟨rfl, rfl⟩
  go_wp2_with fail
  refine (put_any (zigN n) _ hz).mono ?_
  rintro e w' ⟨r, rfl, hown, hb⟩
  go_wp2
  go_ret
  exact ⟨r, rfl, hown, hb⟩

theorem getR_lt (l : List Nat) (h : ∀ c ∈ l, c < 256) (at_ : Int) (h1 : at_ ≤ 9223372036854775807) : (getR l at_).1 < 18446744073709551616 ∧ 0 ≤ (getR l at_).2.1 ∧ (getR l at_).2.1 ≤ l.length := by
  have hS : ∀ (D : List Nat) (i v : Nat), (∀ c ∈ D, c < 256) → i ≤ 9 → v < 128 ^ i → (getS D i v).1 < 18446744073709551616 ∧ (getS D i v).2.1 ≤ D.length + i := by
    intro D
    induction D with
    | nil => intro i v _ _ _; simp [getS]
    | cons c r ih =>
      intro i v hD hi hv
      unfold getS
      split
      · simp
      · split
        · simp
        · split
          · have := fits7 c i v hv (by omega)
            rw [Nat.mod_eq_of_lt (by omega)] at this
            simp; omega
          · have hc := hD c (by simp)
            have := grow7 c i v hv
            rw [show c % 128 = c - 128 by omega] at this
            have := ih (i + 1) (v + (c - 128) * 128 ^ i) (fun d hd => hD d (by simp [hd])) (by omega) (by omega)
            simp; omega
  unfold getR
  split
  · simp
  · simp only []
    have hq := hS (l.drop at_.toNat) 0 0 (fun c hc => h c (List.mem_of_mem_drop hc)) (by omega) (by simp)
    rw [List.length_drop] at hq
    split
    · refine ⟨hq.1, ?_, ?_⟩ <;> simp only [] <;> omega
    · simp

theorem getR_err (l : List Nat) (at_ : Int) : (getR l at_).2.2 ≠ 0 → (getR l at_).1 = 0 ∧ (getR l at_).2.1 = 0 := by
  unfold getR
  split
  · simp
  · simp only []
    split
    · simp
    · simp

theorem getInt_any (N : Nat) (l : List Nat) (a : Option Addr) (len cap : Nat) (at_ : Int) (w : World) (hB : Bs N w a l) (hlen : len = l.length) (hmax : len ≤ 140737488355328) (hcap : len ≤ cap)
    (h1 : -9223372036854775808 ≤ at_) (h2 : at_ ≤ 9223372036854775807) :
    Calls Try.prog 64 #[.slice a len cap, .int .i64 at_] w fun e w' =>
      e = .returned (.tuple #[.int .i64 (if (getR l at_).2.2 = 0 then zagZ (getR l at_).1 else 0), .int .i64 (getR l at_).2.1, .int .i64 (getR l at_).2.2]) ∧ w = w' := by
  have hv := getR_lt l hB.1 at_ h2
  have hc := get_any N l a len cap at_ w hB hlen hmax hcap h1 h2
  have he := getR_err l at_
  obtain ⟨R, hR⟩ : ∃ R, getR l at_ = R := ⟨_, rfl⟩
  rw [hR] at hv hc he ⊢
  obtain ⟨v, n, q⟩ := R
  have HC := Lib.hid hc
  have HE := Lib.hid he
  clear hR hlen hB hc he
  simp only [] at hv
  by_cases hq : q = 0
  · subst hq
    go_enter Try.func64, Try.ntmps64
    go_wp2_with fail
    refine HC.out.mono ?_
    rintro e w' ⟨rfl, rfl⟩
    go_wp2_with fail
    refine (zag_any v _ hv.1).mono ?_
    rintro e w' ⟨rfl, rfl⟩
    go_wp2
    go_ret3
    exact ⟨by simp, rfl⟩
  · have hq2 : ((q : Int) == 0) = false := by simp; omega
    have hq3 : ((q : Int) != 0) = true := by simp; omega
    go_enter Try.func64, Try.ntmps64
    go_wp2_with fail
    refine HC.out.mono ?_
    rintro e w' ⟨rfl, rfl⟩
    go_wp2
    go_ret3
    exact ⟨by have h2 : n = 0 := (HE.out hq).2; simp [hq, h2], rfl⟩
end Go.Proofs.Ytipeinkogoghnaa
