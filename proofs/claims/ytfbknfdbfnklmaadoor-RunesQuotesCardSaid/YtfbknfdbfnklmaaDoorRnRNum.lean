/- The walks of hindsightref05.Number and Digits. -/
import Derived.Test.YtfbknfdbfnklmaaDoorRnNum
import Derived.Test.YtfbknfdbfnklmaaDoorRnBackM
namespace Go.Proofs.YtfbknfdbfnklmaaDoor
set_option linter.unusedSimpArgs false
open Go.RowKit

/-- What the loop holds when k digits are read: the number, or that it is over. -/
def NumSt (s : ByteArray) (k : Nat) (n e : Int) : Prop :=
  (∀ i, i < k → 48 ≤ byteN s i ∧ byteN s i ≤ 57) ∧ 0 ≤ n ∧ n ≤ 9223372036854775807 ∧
    ((e = 0 ∧ n = ((valF 0 ((bytesU s).take k) : Nat) : Int)) ∨ (e = 21 ∧ 9223372036854775808 ≤ valF 0 ((bytesU s).take k)))

theorem NumSt.next {s : ByteArray} {k : Nat} {n e : Int} (h : NumSt s k n e) (hk : k < s.size) (c : Nat) (hc : byteN s k = c) (h48 : 48 ≤ c) (h57 : c ≤ 57) :
    (∀ i, i < k + 1 → 48 ≤ byteN s i ∧ byteN s i ≤ 57) ∧ valF 0 ((bytesU s).take (k + 1)) = valF 0 ((bytesU s).take k) * 10 + (c - 48) := by
  refine ⟨fun i hi => ?_, ?_⟩
  · by_cases h1 : i = k
    · subst h1; rw [hc]; exact ⟨h48, h57⟩
    · exact h.1 i (by omega)
  · have hkl : k < (bytesU s).length := by rw [bytesU_len]; exact hk
    rw [List.take_add_one, List.getElem?_eq_getElem hkl]
    show valF 0 ((bytesU s).take k ++ [(bytesU s)[k]]) = _
    rw [valF_snoc]
    have : (bytesU s)[k] = c := by
      rw [← hc]; unfold byteN
      rw [List.getD_eq_getElem?_getD, List.getElem?_eq_getElem hkl]; rfl
    rw [this]

theorem NumSt.over {s : ByteArray} {k : Nat} {n e : Int} (h : NumSt s k n e) (hk : k < s.size) (c : Nat) (hc : byteN s k = c) (h48 : 48 ≤ c) (h57 : c ≤ 57) (ho : 922337203685477580 < n ∨ (n = 922337203685477580 ∧ 7 < (c : Int) - 48)) : NumSt s (k + 1) n 21 := by
  obtain ⟨h1, h2⟩ := h.next hk c hc h48 h57
  obtain ⟨_, h3, h4, h5⟩ := h
  refine ⟨h1, h3, h4, .inr ⟨rfl, ?_⟩⟩
  rw [h2]
  rcases h5 with ⟨_, h5⟩ | ⟨_, h5⟩ <;> omega
theorem NumSt.keep {s : ByteArray} {k : Nat} {n : Int} (h : NumSt s k n 21) (hk : k < s.size) (c : Nat) (hc : byteN s k = c) (h48 : 48 ≤ c) (h57 : c ≤ 57) : NumSt s (k + 1) n 21 := by
  obtain ⟨h1, h2⟩ := h.next hk c hc h48 h57
  obtain ⟨_, h3, h4, h5⟩ := h
  refine ⟨h1, h3, h4, .inr ⟨rfl, ?_⟩⟩
  rw [h2]
  rcases h5 with ⟨h5, _⟩ | ⟨_, h5⟩ <;> omega
theorem NumSt.add {s : ByteArray} {k : Nat} {n : Int} (h : NumSt s k n 0) (hk : k < s.size) (c : Nat) (hc : byteN s k = c) (h48 : 48 ≤ c) (h57 : c ≤ 57) (ho : ¬ (922337203685477580 < n ∨ (n = 922337203685477580 ∧ 7 < (c : Int) - 48))) : NumSt s (k + 1) (10 * n + ((c : Int) - 48)) 0 := by
  obtain ⟨h1, h2⟩ := h.next hk c hc h48 h57
  obtain ⟨_, h3, h4, h5⟩ := h
  refine ⟨h1, by omega, by omega, .inl ⟨rfl, ?_⟩⟩
  rw [h2]
  rcases h5 with ⟨_, h5⟩ | ⟨h5, _⟩ <;> omega
theorem NumSt.done {s : ByteArray} {n e : Int} (h : NumSt s s.size n e) (h0 : 0 < s.size) : (e = 0 ∧ numV s = (n, 0)) ∨ (e = 21 ∧ numV s = (0, 21)) := by
  obtain ⟨h1, h3, h4, h5⟩ := h
  have hd : digitsB s = true := digitsB_true.2 ⟨h0, h1⟩
  have hall : (bytesU s).take s.size = bytesU s := List.take_of_length_le (by rw [bytesU_len]; omega)
  rw [hall] at h5
  have hv : valL (bytesU s) = valF 0 (bytesU s) := rfl
  rcases h5 with ⟨rfl, h5⟩ | ⟨rfl, h5⟩
  · left
    refine ⟨rfl, ?_⟩
    unfold numV
    rw [if_neg (by rw [hd]; simp), hv, if_neg (by omega), h5]
  · right
    refine ⟨rfl, ?_⟩
    unfold numV
    rw [if_neg (by rw [hd]; simp), hv, if_pos h5]

set_option maxRecDepth 1000000 in
set_option maxHeartbeats 8000000 in
theorem rNumber_any (s : ByteArray) (w : World) (hs : s.size ≤ 1000000) :
    Calls Tryd.prog 24 #[.string s] w fun e w' => e = .returned (.tuple #[.int .i64 (numV s).1, .int .i64 (numV s).2]) ∧ Below w.heap.size w w' := by
  go_enter Tryd.func24, Tryd.ntmps24
  go_wp2
  go_loopw [4, 5, 6] (fun nv ev i wr => ∃ (k : Nat) (n e : Int), k ≤ s.size ∧ nv = .int .i64 n ∧ ev = .int .i64 e ∧ i = .int .i64 k ∧ Hid (NumSt s k n e) ∧ w = wr) (fun _ _ i _ => s.size - (intOf i).toNat)
  case atStart => exact ⟨0, 0, 0, by omega, rfl, rfl, rfl, ⟨fun i hi => by omega, by omega, by omega, .inl ⟨rfl, rfl⟩⟩, rfl⟩
  case round =>
    obtain ⟨k, n, e, hk, rfl, rfl, rfl, HI, rfl⟩ := hrel
    have hn0 := HI.out.2.1
    have hn1 := HI.out.2.2.1
    by_cases hlt : k < s.size
    · have hB := byteN_at s k hlt
      have hc256 := (s[k]'hlt).toNat_lt
      by_cases hd : 48 ≤ (s[k]'hlt).toNat ∧ (s[k]'hlt).toNat ≤ 57
      · obtain ⟨h48, h57⟩ := hd
        have HO := Lib.hid (HI.out.over hlt _ hB h48 h57)
        have HK := Lib.hid (fun (h : e = 21) => NumSt.keep (by rw [← h]; exact HI.out) hlt _ hB h48 h57)
        have HD := Lib.hid (fun (h : e = 0) => NumSt.add (by rw [← h]; exact HI.out) hlt _ hB h48 h57)
        have he : e = 0 ∨ e = 21 := by
          rcases HI.out.2.2.2 with ⟨h, _⟩ | ⟨h, _⟩
          · exact .inl h
          · exact .inr h
        clear HI hB
        have q1 : decide (((s[k]'hlt).toNat : Int) - 48 < 0) = false := by simp; omega
        have q2 : decide ((9 : Int) < ((s[k]'hlt).toNat : Int) - 48) = false := by simp; omega
        by_cases g1 : 922337203685477580 < n
        · have HO2 := Lib.hid (HO.out (.inl g1))
          clear HO HK HD
          rcases he with rfl | rfl
          all_goals
            go_wp2
            go_roundw
            case rel => exact ⟨k + 1, n, 21, by omega, rfl, rfl, by go_num, HO2, trivial⟩
            case measure => simp [intOf]; omega
        · by_cases g2 : n = 922337203685477580
          · subst g2
            by_cases g3 : 7 < ((s[k]'hlt).toNat : Int) - 48
            · have HO2 := Lib.hid (HO.out (.inr ⟨rfl, g3⟩))
              have q3 : decide ((7 : Int) < ((s[k]'hlt).toNat : Int) - 48) = true := by simp; omega
              clear HO HK HD
              rcases he with rfl | rfl
              all_goals
                go_wp2
                go_roundw
                case rel => exact ⟨k + 1, _, 21, by omega, rfl, rfl, by go_num, HO2, trivial⟩
                case measure => simp [intOf]; omega
            · have q3 : decide ((7 : Int) < ((s[k]'hlt).toNat : Int) - 48) = false := by simp; omega
              have HD2 := Lib.hid (fun h => HD.out h (by omega))
              clear HO HD
              rcases he with rfl | rfl
              · have HD3 := Lib.hid (HD2.out rfl)
                clear HD2 HK
                go_wp2
                go_roundw
                case rel => exact ⟨k + 1, _, 0, by omega, by go_num, rfl, by go_num, HD3, trivial⟩
                case measure => simp [intOf]; omega
              · have HK2 := Lib.hid (HK.out rfl)
                clear HD2 HK
                go_wp2
                go_roundw
                case rel => exact ⟨k + 1, _, 21, by omega, rfl, rfl, by go_num, HK2, trivial⟩
                case measure => simp [intOf]; omega
          · have g2' : (n == 922337203685477580) = false := by simp [g2]
            have HD2 := Lib.hid (fun h => HD.out h (by omega))
            clear HO HD
            rcases he with rfl | rfl
            · have HD3 := Lib.hid (HD2.out rfl)
              clear HD2 HK
              go_wp2
              go_roundw
              case rel => exact ⟨k + 1, _, 0, by omega, by go_num, rfl, by go_num, HD3, trivial⟩
              case measure => simp [intOf]; omega
            · have HK2 := Lib.hid (HK.out rfl)
              clear HD2 HK
              go_wp2
              go_roundw
              case rel => exact ⟨k + 1, _, 21, by omega, rfl, rfl, by go_num, HK2, trivial⟩
              case measure => simp [intOf]; omega
      · have HN : Hid (numV s = (0, 3)) := by
          unfold numV
          rw [if_pos (digitsB_false hlt (by rw [hB]; exact hd))]; rfl
        clear HI hB
        by_cases hlo : (s[k]'hlt).toNat < 48
        · have q1 : decide (((s[k]'hlt).toNat : Int) - 48 < 0) = true := by simp; omega
          clear hd
          go_wp2
          go_ret2
          exact ⟨by rw [HN.out]; rfl, Below.refl _ _⟩
        · have q1 : decide (((s[k]'hlt).toNat : Int) - 48 < 0) = false := by simp; omega
          have q2 : decide ((9 : Int) < ((s[k]'hlt).toNat : Int) - 48) = true := by simp; omega
          clear hd
          go_wp2
          go_ret2
          exact ⟨by rw [HN.out]; rfl, Below.refl _ _⟩
    · by_cases h0 : s.size = 0
      · have HN : Hid (numV s = (0, 3)) := by
          unfold numV
          rw [if_pos (by unfold digitsB; simp [h0])]; rfl
        have q0 : ((s.size : Int) == 0) = true := by rw [h0]; rfl
        clear HI
        go_wp2
        go_ret2
        exact ⟨by rw [HN.out]; rfl, Below.refl _ _⟩
      · have hks : k = s.size := by omega
        have hdn := HI.out
        rw [hks] at hdn
        have HN := Lib.hid (hdn.done (by omega))
        have q0 : ((s.size : Int) == 0) = false := by rw [Bool.eq_false_iff]; intro h; rw [beq_iff_eq] at h; omega
        clear HI hdn hks
        have hN := HN.out
        clear HN
        rcases hN with ⟨rfl, hN⟩ | ⟨rfl, hN⟩
        all_goals
          have HN := Lib.hid hN
          clear hN
          go_wp2
          go_ret2
          exact ⟨by rw [HN.out]; rfl, Below.refl _ _⟩
end Go.Proofs.YtfbknfdbfnklmaaDoor
