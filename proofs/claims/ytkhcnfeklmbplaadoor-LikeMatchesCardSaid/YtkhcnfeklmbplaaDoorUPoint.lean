/- The walk of hindsightref05.point. -/
import Derived.Test.YtkhcnfeklmbplaaDoorUPtM
import Derived.Lib.Hide
namespace Go.Proofs.YtkhcnfeklmbplaaDoor
set_option linter.unusedSimpArgs false
open Go.RowKit

theorem byte_at (s : ByteArray) (i : Nat) (h : i < s.size) : (bytesU s).getD i 0 = (s[i]'h).toNat := by
  rw [List.getD_eq_getElem?_getD, List.getElem?_eq_getElem (by rw [bytesU_len]; exact h)]
  simp [bytesU]; rfl

theorem drop_getD (s : ByteArray) (i k : Nat) : ((bytesU s).drop i).getD k 0 = (bytesU s).getD (i + k) 0 := by
  rw [List.getD_eq_getElem?_getD, List.getD_eq_getElem?_getD, List.getElem?_drop]

theorem pow_small (k : Nat) (h : k ≤ 4) : 8 * 64 ^ k ≤ 134217728 := by
  have : 64 ^ k ≤ 64 ^ 4 := Nat.pow_le_pow_right (by omega) h
  omega

theorem finP_step {l : List Nat} {z lst f k v : Nat} (h : ¬ (l.getD k 0 < 128 ∨ 192 ≤ l.getD k 0)) : finP l z lst (f + 1) k v = finP l z lst f (k + 1) (64 * v + l.getD k 0 - 128) := by
  rw [finP, if_neg h]
theorem finP_bad {l : List Nat} {z lst f k v : Nat} (h : l.getD k 0 < 128 ∨ 192 ≤ l.getD k 0) : finP l z lst (f + 1) k v = (0, 0) := by
  rw [finP, if_pos h]

set_option maxRecDepth 100000 in
set_option maxHeartbeats 8000000 in
theorem point_any (s : ByteArray) (i : Nat) (w : World) (hi : i < s.size) (hs : s.size ≤ 1000000000) :
    Calls Tryd.prog 13 #[.string s, .int .i64 i] w fun e w' => e = .returned (.tuple #[.int .i64 (((refP ((bytesU s).drop i)).1 : Nat) : Int), .int .i64 (((refP ((bytesU s).drop i)).2 : Nat) : Int)]) ∧ Below w.heap.size w w' := by
  obtain ⟨l, hl⟩ : ∃ l, l = (bytesU s).drop i := ⟨_, rfl⟩
  have hlen : l.length = s.size - i := by rw [hl, List.length_drop, bytesU_len]
  have hD : ∀ k, l.getD k 0 = (bytesU s).getD (i + k) 0 := fun k => by rw [hl, drop_getD]
  have h0 := hD 0
  rw [Nat.add_zero, byte_at s i hi] at h0
  rw [← hl]
  have hr : refP l = if l.getD 0 0 < 128 then (l.getD 0 0, 1)
    else if 192 ≤ l.getD 0 0 ∧ l.getD 0 0 < 224 then goP l 2 (l.getD 0 0 - 192) 128
    else if 224 ≤ l.getD 0 0 ∧ l.getD 0 0 < 240 then goP l 3 (l.getD 0 0 - 224) 2048
    else if 240 ≤ l.getD 0 0 ∧ l.getD 0 0 < 248 then goP l 4 (l.getD 0 0 - 240) 65536
    else (0, 0) := rfl
  rw [h0] at hr
  obtain ⟨R, hR⟩ : ∃ R, refP l = R := ⟨_, rfl⟩
  rw [hR] at hr ⊢
  have hcl := (s[i]'hi).toNat_lt
  have HD := Lib.hid hD
  have HLn := Lib.hid hlen
  have hii : ¬ s.size ≤ i := by omega
  clear hl hlen hD h0 hR
  by_cases hA : (s[i]'hi).toNat < 128
  · have HR : Hid (R = ((s[i]'hi).toNat, 1)) := by rw [hr, if_pos hA]; rfl
    clear hr
    go_enter Tryd.func13, Tryd.ntmps13
    go_wp2
    go_ret2
    exact ⟨by rw [HR.out]; rfl, Below.refl _ _⟩
  rw [if_neg hA] at hr
  by_cases h192 : 192 ≤ (s[i]'hi).toNat ∧ (s[i]'hi).toNat < 224
  · obtain ⟨hlo, hhi⟩ := h192
    have hr2 : R = goP l 2 ((s[i]'hi).toNat - 192) 128 := by rw [hr]; rw [if_pos ⟨hlo, hhi⟩]
    by_cases hshort : s.size - i < 2
    · have HR : Hid (R = (0, 0)) := by rw [hr2]; unfold goP; rw [if_pos (by have := HLn.out; omega)]; rfl
      have q : decide ((s.size : Int) - (i : Int) < 2) = true := by simp; omega
      clear hr hr2
      go_enter Tryd.func13, Tryd.ntmps13
      go_wp2
      go_ret2
      exact ⟨by rw [HR.out]; rfl, Below.refl _ _⟩
    · have q : decide ((s.size : Int) - (i : Int) < 2) = false := by simp; omega
      have HR : Hid (R = finP l 2 128 1 1 ((s[i]'hi).toNat - 192)) := by rw [hr2]; unfold goP; rw [if_neg (by have := HLn.out; omega)]; rfl
      have hv0 : ((s[i]'hi).toNat : Int) - 192 = (((s[i]'hi).toNat - 192 : Nat) : Int) := by omega
      have qq0 : decide (((s[i]'hi).toNat : Int) < 128) = false := by simp; omega
      have qq1 : decide ((192 : Int) ≤ ((s[i]'hi).toNat : Int)) = true := by simp; omega
      have qq2 : decide (((s[i]'hi).toNat : Int) < 224) = true := by simp; omega
      have HV0 := Lib.hid hv0
      clear hr hr2 hv0
      go_enter Tryd.func13, Tryd.ntmps13
      go_wp2
      go_loopw [8, 10] (fun s8 s10 wr => ∃ k f v : Nat, s10 = .int .i64 k ∧ s8 = .int .i64 v ∧ 1 ≤ k ∧ k + f = 2 ∧ Hid (finP l 2 128 f k v = R) ∧ Hid (v < 8 * 64 ^ k) ∧ Below w.heap.size w wr) (fun _ s10 _ => 2 - (intOf s10).toNat)
      case atStart => exact ⟨1, 1, (s[i]'hi).toNat - 192, rfl, by rw [HV0.out], by omega, by omega, HR.out.symm, by show _ < 8 * 64 ^ 1; omega, Below.refl _ _⟩
      case round =>
        obtain ⟨k, f, v, rfl, rfl, hk1, hkf, HF, HB, hb⟩ := hrel
        have hvb : v < 134217728 := Nat.lt_of_lt_of_le HB.out (pow_small k (by omega))
        by_cases hlt : k < 2
        · obtain ⟨f', rfl⟩ : ∃ f', f = f' + 1 := ⟨f - 1, by omega⟩
          have hik : i + k < s.size := by omega
          have hg : l.getD k 0 = (s[i + k]'hik).toNat := by rw [HD.out, byte_at s (i + k) hik]
          have hdl := (s[i + k]'hik).toNat_lt
          have hsum : IntKind.i64.wrap ((i : Int) + (k : Int)) = (i : Int) + (k : Int) := IntWalk.i64_in _ (by omega)
          by_cases hd : (s[i + k]'hik).toNat < 128 ∨ 192 ≤ (s[i + k]'hik).toNat
          · have HR2 : Hid (R = (0, 0)) := by rw [← HF.out, finP_bad (by rw [hg]; exact hd)]; rfl
            clear hg HF HB
            by_cases hd1 : (s[i + k]'hik).toNat < 128
            · clear hd
              go_wp2
              go_ret2
              exact ⟨by rw [HR2.out]; rfl, hb⟩
            · have hd2 : 192 ≤ (s[i + k]'hik).toNat := by omega
              clear hd
              go_wp2
              go_ret2
              exact ⟨by rw [HR2.out]; rfl, hb⟩
          · have hd1 : ¬ (s[i + k]'hik).toNat < 128 := by omega
            have hd2 : ¬ 192 ≤ (s[i + k]'hik).toNat := by omega
            have HF2 : Hid (finP l 2 128 f' (k + 1) (64 * v + (s[i + k]'hik).toNat - 128) = R) := by rw [← HF.out, finP_step (by rw [hg]; exact hd), hg]; rfl
            have hb2 : 64 * v + (s[i + k]'hik).toNat - 128 < 8 * 64 ^ (k + 1) := by
              have := HB.out
              have e : 64 ^ (k + 1) = 64 ^ k * 64 := Nat.pow_succ 64 k
              rw [e]
              generalize 64 ^ k = K at *
              omega
            have HB2 := Lib.hid hb2
            clear hg hd HF HB hb2
            go_wp2
            go_roundw
            case rel => exact ⟨k + 1, f', 64 * v + (s[i + k]'hik).toNat - 128, by go_num, by congr 1; omega, by omega, by omega, HF2, HB2, hb⟩
            case measure => simp [intOf]; omega
        · obtain rfl : f = 0 := by omega
          have HF2 : Hid (chkP 2 128 v = R) := HF.out
          clear HF HB
          by_cases hc : v < 128 ∨ 1114111 < v ∨ (55296 ≤ v ∧ v ≤ 57343)
          · have HR2 : Hid (R = (0, 0)) := by rw [← HF2.out]; unfold chkP; rw [if_pos hc]; rfl
            clear HF2
            have hways : v < 128 ∨ (¬ v < 128 ∧ 1114111 < v) ∨ (¬ v < 128 ∧ ¬ 1114111 < v ∧ 55296 ≤ v ∧ v ≤ 57343) := by omega
            clear hc
            rcases hways with c1 | ⟨c1, c2⟩ | ⟨c1, c2, c3, c4⟩
            all_goals
              go_wp2
              go_ret2
              exact ⟨by rw [HR2.out]; rfl, hb⟩
          · have HR2 : Hid (R = (v, 2)) := by rw [← HF2.out]; unfold chkP; rw [if_neg hc]; rfl
            have c1 : ¬ v < 128 := by omega
            have c2 : ¬ 1114111 < v := by omega
            by_cases c3 : 55296 ≤ v
            · have c4 : ¬ v ≤ 57343 := by omega
              clear hc HF2
              go_wp2
              go_ret2
              exact ⟨by rw [HR2.out]; rfl, hb⟩
            · clear hc HF2
              go_wp2
              go_ret2
              exact ⟨by rw [HR2.out]; rfl, hb⟩
  by_cases h224 : 224 ≤ (s[i]'hi).toNat ∧ (s[i]'hi).toNat < 240
  · obtain ⟨hlo, hhi⟩ := h224
    have hr2 : R = goP l 3 ((s[i]'hi).toNat - 224) 2048 := by rw [hr]; rw [if_neg (by omega), if_pos ⟨hlo, hhi⟩]
    by_cases hshort : s.size - i < 3
    · have HR : Hid (R = (0, 0)) := by rw [hr2]; unfold goP; rw [if_pos (by have := HLn.out; omega)]; rfl
      have q : decide ((s.size : Int) - (i : Int) < 3) = true := by simp; omega
      clear hr hr2
      go_enter Tryd.func13, Tryd.ntmps13
      go_wp2
      go_ret2
      exact ⟨by rw [HR.out]; rfl, Below.refl _ _⟩
    · have q : decide ((s.size : Int) - (i : Int) < 3) = false := by simp; omega
      have HR : Hid (R = finP l 3 2048 2 1 ((s[i]'hi).toNat - 224)) := by rw [hr2]; unfold goP; rw [if_neg (by have := HLn.out; omega)]; rfl
      have hv0 : ((s[i]'hi).toNat : Int) - 224 = (((s[i]'hi).toNat - 224 : Nat) : Int) := by omega
      have qq0 : decide (((s[i]'hi).toNat : Int) < 128) = false := by simp; omega
      have qq1 : decide ((192 : Int) ≤ ((s[i]'hi).toNat : Int)) = true := by simp; omega
      have qq2 : decide (((s[i]'hi).toNat : Int) < 224) = false := by simp; omega
      have qq3 : decide ((224 : Int) ≤ ((s[i]'hi).toNat : Int)) = true := by simp; omega
      have qq4 : decide (((s[i]'hi).toNat : Int) < 240) = true := by simp; omega
      have HV0 := Lib.hid hv0
      clear hr hr2 hv0
      go_enter Tryd.func13, Tryd.ntmps13
      go_wp2
      go_loopw [8, 10] (fun s8 s10 wr => ∃ k f v : Nat, s10 = .int .i64 k ∧ s8 = .int .i64 v ∧ 1 ≤ k ∧ k + f = 3 ∧ Hid (finP l 3 2048 f k v = R) ∧ Hid (v < 8 * 64 ^ k) ∧ Below w.heap.size w wr) (fun _ s10 _ => 3 - (intOf s10).toNat)
      case atStart => exact ⟨1, 2, (s[i]'hi).toNat - 224, rfl, by rw [HV0.out], by omega, by omega, HR.out.symm, by show _ < 8 * 64 ^ 1; omega, Below.refl _ _⟩
      case round =>
        obtain ⟨k, f, v, rfl, rfl, hk1, hkf, HF, HB, hb⟩ := hrel
        have hvb : v < 134217728 := Nat.lt_of_lt_of_le HB.out (pow_small k (by omega))
        by_cases hlt : k < 3
        · obtain ⟨f', rfl⟩ : ∃ f', f = f' + 1 := ⟨f - 1, by omega⟩
          have hik : i + k < s.size := by omega
          have hg : l.getD k 0 = (s[i + k]'hik).toNat := by rw [HD.out, byte_at s (i + k) hik]
          have hdl := (s[i + k]'hik).toNat_lt
          have hsum : IntKind.i64.wrap ((i : Int) + (k : Int)) = (i : Int) + (k : Int) := IntWalk.i64_in _ (by omega)
          by_cases hd : (s[i + k]'hik).toNat < 128 ∨ 192 ≤ (s[i + k]'hik).toNat
          · have HR2 : Hid (R = (0, 0)) := by rw [← HF.out, finP_bad (by rw [hg]; exact hd)]; rfl
            clear hg HF HB
            by_cases hd1 : (s[i + k]'hik).toNat < 128
            · clear hd
              go_wp2
              go_ret2
              exact ⟨by rw [HR2.out]; rfl, hb⟩
            · have hd2 : 192 ≤ (s[i + k]'hik).toNat := by omega
              clear hd
              go_wp2
              go_ret2
              exact ⟨by rw [HR2.out]; rfl, hb⟩
          · have hd1 : ¬ (s[i + k]'hik).toNat < 128 := by omega
            have hd2 : ¬ 192 ≤ (s[i + k]'hik).toNat := by omega
            have HF2 : Hid (finP l 3 2048 f' (k + 1) (64 * v + (s[i + k]'hik).toNat - 128) = R) := by rw [← HF.out, finP_step (by rw [hg]; exact hd), hg]; rfl
            have hb2 : 64 * v + (s[i + k]'hik).toNat - 128 < 8 * 64 ^ (k + 1) := by
              have := HB.out
              have e : 64 ^ (k + 1) = 64 ^ k * 64 := Nat.pow_succ 64 k
              rw [e]
              generalize 64 ^ k = K at *
              omega
            have HB2 := Lib.hid hb2
            clear hg hd HF HB hb2
            go_wp2
            go_roundw
            case rel => exact ⟨k + 1, f', 64 * v + (s[i + k]'hik).toNat - 128, by go_num, by congr 1; omega, by omega, by omega, HF2, HB2, hb⟩
            case measure => simp [intOf]; omega
        · obtain rfl : f = 0 := by omega
          have HF2 : Hid (chkP 3 2048 v = R) := HF.out
          clear HF HB
          by_cases hc : v < 2048 ∨ 1114111 < v ∨ (55296 ≤ v ∧ v ≤ 57343)
          · have HR2 : Hid (R = (0, 0)) := by rw [← HF2.out]; unfold chkP; rw [if_pos hc]; rfl
            clear HF2
            have hways : v < 2048 ∨ (¬ v < 2048 ∧ 1114111 < v) ∨ (¬ v < 2048 ∧ ¬ 1114111 < v ∧ 55296 ≤ v ∧ v ≤ 57343) := by omega
            clear hc
            rcases hways with c1 | ⟨c1, c2⟩ | ⟨c1, c2, c3, c4⟩
            all_goals
              go_wp2
              go_ret2
              exact ⟨by rw [HR2.out]; rfl, hb⟩
          · have HR2 : Hid (R = (v, 3)) := by rw [← HF2.out]; unfold chkP; rw [if_neg hc]; rfl
            have c1 : ¬ v < 2048 := by omega
            have c2 : ¬ 1114111 < v := by omega
            by_cases c3 : 55296 ≤ v
            · have c4 : ¬ v ≤ 57343 := by omega
              clear hc HF2
              go_wp2
              go_ret2
              exact ⟨by rw [HR2.out]; rfl, hb⟩
            · clear hc HF2
              go_wp2
              go_ret2
              exact ⟨by rw [HR2.out]; rfl, hb⟩
  by_cases h240 : 240 ≤ (s[i]'hi).toNat ∧ (s[i]'hi).toNat < 248
  · obtain ⟨hlo, hhi⟩ := h240
    have hr2 : R = goP l 4 ((s[i]'hi).toNat - 240) 65536 := by rw [hr]; rw [if_neg (by omega), if_neg (by omega), if_pos ⟨hlo, hhi⟩]
    by_cases hshort : s.size - i < 4
    · have HR : Hid (R = (0, 0)) := by rw [hr2]; unfold goP; rw [if_pos (by have := HLn.out; omega)]; rfl
      have q : decide ((s.size : Int) - (i : Int) < 4) = true := by simp; omega
      clear hr hr2
      go_enter Tryd.func13, Tryd.ntmps13
      go_wp2
      go_ret2
      exact ⟨by rw [HR.out]; rfl, Below.refl _ _⟩
    · have q : decide ((s.size : Int) - (i : Int) < 4) = false := by simp; omega
      have HR : Hid (R = finP l 4 65536 3 1 ((s[i]'hi).toNat - 240)) := by rw [hr2]; unfold goP; rw [if_neg (by have := HLn.out; omega)]; rfl
      have hv0 : ((s[i]'hi).toNat : Int) - 240 = (((s[i]'hi).toNat - 240 : Nat) : Int) := by omega
      have qq0 : decide (((s[i]'hi).toNat : Int) < 128) = false := by simp; omega
      have qq1 : decide ((192 : Int) ≤ ((s[i]'hi).toNat : Int)) = true := by simp; omega
      have qq2 : decide (((s[i]'hi).toNat : Int) < 224) = false := by simp; omega
      have qq3 : decide ((224 : Int) ≤ ((s[i]'hi).toNat : Int)) = true := by simp; omega
      have qq4 : decide (((s[i]'hi).toNat : Int) < 240) = false := by simp; omega
      have qq5 : decide ((240 : Int) ≤ ((s[i]'hi).toNat : Int)) = true := by simp; omega
      have qq6 : decide (((s[i]'hi).toNat : Int) < 248) = true := by simp; omega
      have HV0 := Lib.hid hv0
      clear hr hr2 hv0
      go_enter Tryd.func13, Tryd.ntmps13
      go_wp2
      go_loopw [8, 10] (fun s8 s10 wr => ∃ k f v : Nat, s10 = .int .i64 k ∧ s8 = .int .i64 v ∧ 1 ≤ k ∧ k + f = 4 ∧ Hid (finP l 4 65536 f k v = R) ∧ Hid (v < 8 * 64 ^ k) ∧ Below w.heap.size w wr) (fun _ s10 _ => 4 - (intOf s10).toNat)
      case atStart => exact ⟨1, 3, (s[i]'hi).toNat - 240, rfl, by rw [HV0.out], by omega, by omega, HR.out.symm, by show _ < 8 * 64 ^ 1; omega, Below.refl _ _⟩
      case round =>
        obtain ⟨k, f, v, rfl, rfl, hk1, hkf, HF, HB, hb⟩ := hrel
        have hvb : v < 134217728 := Nat.lt_of_lt_of_le HB.out (pow_small k (by omega))
        by_cases hlt : k < 4
        · obtain ⟨f', rfl⟩ : ∃ f', f = f' + 1 := ⟨f - 1, by omega⟩
          have hik : i + k < s.size := by omega
          have hg : l.getD k 0 = (s[i + k]'hik).toNat := by rw [HD.out, byte_at s (i + k) hik]
          have hdl := (s[i + k]'hik).toNat_lt
          have hsum : IntKind.i64.wrap ((i : Int) + (k : Int)) = (i : Int) + (k : Int) := IntWalk.i64_in _ (by omega)
          by_cases hd : (s[i + k]'hik).toNat < 128 ∨ 192 ≤ (s[i + k]'hik).toNat
          · have HR2 : Hid (R = (0, 0)) := by rw [← HF.out, finP_bad (by rw [hg]; exact hd)]; rfl
            clear hg HF HB
            by_cases hd1 : (s[i + k]'hik).toNat < 128
            · clear hd
              go_wp2
              go_ret2
              exact ⟨by rw [HR2.out]; rfl, hb⟩
            · have hd2 : 192 ≤ (s[i + k]'hik).toNat := by omega
              clear hd
              go_wp2
              go_ret2
              exact ⟨by rw [HR2.out]; rfl, hb⟩
          · have hd1 : ¬ (s[i + k]'hik).toNat < 128 := by omega
            have hd2 : ¬ 192 ≤ (s[i + k]'hik).toNat := by omega
            have HF2 : Hid (finP l 4 65536 f' (k + 1) (64 * v + (s[i + k]'hik).toNat - 128) = R) := by rw [← HF.out, finP_step (by rw [hg]; exact hd), hg]; rfl
            have hb2 : 64 * v + (s[i + k]'hik).toNat - 128 < 8 * 64 ^ (k + 1) := by
              have := HB.out
              have e : 64 ^ (k + 1) = 64 ^ k * 64 := Nat.pow_succ 64 k
              rw [e]
              generalize 64 ^ k = K at *
              omega
            have HB2 := Lib.hid hb2
            clear hg hd HF HB hb2
            go_wp2
            go_roundw
            case rel => exact ⟨k + 1, f', 64 * v + (s[i + k]'hik).toNat - 128, by go_num, by congr 1; omega, by omega, by omega, HF2, HB2, hb⟩
            case measure => simp [intOf]; omega
        · obtain rfl : f = 0 := by omega
          have HF2 : Hid (chkP 4 65536 v = R) := HF.out
          clear HF HB
          by_cases hc : v < 65536 ∨ 1114111 < v ∨ (55296 ≤ v ∧ v ≤ 57343)
          · have HR2 : Hid (R = (0, 0)) := by rw [← HF2.out]; unfold chkP; rw [if_pos hc]; rfl
            clear HF2
            have hways : v < 65536 ∨ (¬ v < 65536 ∧ 1114111 < v) ∨ (¬ v < 65536 ∧ ¬ 1114111 < v ∧ 55296 ≤ v ∧ v ≤ 57343) := by omega
            clear hc
            rcases hways with c1 | ⟨c1, c2⟩ | ⟨c1, c2, c3, c4⟩
            all_goals
              go_wp2
              try
                go_ret2
                exact ⟨by rw [HR2.out]; rfl, hb⟩
          · have HR2 : Hid (R = (v, 4)) := by rw [← HF2.out]; unfold chkP; rw [if_neg hc]; rfl
            have c1 : ¬ v < 65536 := by omega
            have c2 : ¬ 1114111 < v := by omega
            by_cases c3 : 55296 ≤ v
            · have c4 : ¬ v ≤ 57343 := by omega
              clear hc HF2
              go_wp2
              go_ret2
              exact ⟨by rw [HR2.out]; rfl, hb⟩
            · clear hc HF2
              go_wp2
              try
                go_ret2
                exact ⟨by rw [HR2.out]; rfl, hb⟩
  have HR : Hid (R = (0, 0)) := by rw [hr, if_neg (by omega), if_neg (by omega), if_neg (by omega)]; rfl
  have hways : (s[i]'hi).toNat < 192 ∨ 248 ≤ (s[i]'hi).toNat := by omega
  clear hr h192 h224 h240
  rcases hways with h | h
  all_goals
    go_enter Tryd.func13, Tryd.ntmps13
    go_wp2
    go_ret2
    exact ⟨by rw [HR.out]; rfl, Below.refl _ _⟩
end Go.Proofs.YtkhcnfeklmbplaaDoor
