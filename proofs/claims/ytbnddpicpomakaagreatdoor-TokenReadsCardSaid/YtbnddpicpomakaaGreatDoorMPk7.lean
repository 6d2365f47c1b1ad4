/- Several texts of one proof, one behind the other. -/
import Derived.Test.YtbnddpicpomakaaGreatDoorMPk6
import Derived.Shelf.Strconv.ToError
import Derived.Deep.WholeRow
import Derived.Laws.Rows
import Derived.Laws.CopyRow
import Derived.Shelf.Strings.Prefix
import Derived.Shelf.Unicode.DecodeAny
set_option linter.unusedSimpArgs false
set_option linter.unusedVariables false

/- The walk of strconv.ParseUint, of two bytes, base 16, 8 bits. -/
set_option linter.unusedSimpArgs false
set_option linter.unusedVariables false
set_option maxRecDepth 100000
namespace Go.Proofs.YtbnddpicpomakaaGreatDoor
open Go.RowKit

abbrev puErr : Value := .iface 152 (.int .i64 2)
def puV (a b : Nat) : Nat × Value := match hexV a, hexV b with
  | some x, some y => (16 * x + y, .nilIface)
  | _, _ => (0, puErr)
/-- The byte at a place of two. -/
def two (a b k : Nat) : Nat := if k = 0 then a else b
def PuAt (a b k n : Nat) : Prop := (k = 0 ∧ n = 0) ∨ (k = 1 ∧ hexV a = some n) ∨ (k = 2 ∧ ∃ x y, hexV a = some x ∧ hexV b = some y ∧ n = 16 * x + y)
theorem hexV_lt {c d : Nat} (h : hexV c = some d) : d < 16 := by
  unfold hexV at h
  split at h
  · injection h with h; omega
  · split at h
    · injection h with h; omega
    · split at h
      · injection h with h; omega
      · cases h
theorem pu_next {a b k n d : Nat} (hk : k < 2) (h : PuAt a b k n) (hd : hexV (two a b k) = some d) : PuAt a b (k + 1) (n * 16 + d) := by
  rcases h with ⟨rfl, rfl⟩ | ⟨rfl, h⟩ | ⟨rfl, _⟩
  · exact .inr (.inl ⟨rfl, by rw [show (0 * 16 + d) = d by omega]; exact hd⟩)
  · exact .inr (.inr ⟨rfl, n, d, h, hd, by omega⟩)
  · omega
theorem pu_lt {a b k n : Nat} (hk : k < 2) (h : PuAt a b k n) : n < 16 := by
  rcases h with ⟨rfl, rfl⟩ | ⟨rfl, h⟩ | ⟨rfl, _⟩
  · omega
  · exact hexV_lt h
  · omega
theorem pu_fail {a b k n : Nat} (hk : k < 2) (h : PuAt a b k n) (hd : hexV (two a b k) = none) : puV a b = (0, puErr) := by
  unfold puV
  rcases h with ⟨rfl, rfl⟩ | ⟨rfl, h⟩ | ⟨rfl, _⟩
  · have : hexV a = none := hd
    rw [this]
  · have h2 : hexV b = none := hd
    rw [h, h2]
  · omega
theorem pu_end {a b n : Nat} (h : PuAt a b 2 n) : puV a b = (n, .nilIface) := by
  rcases h with ⟨h, _⟩ | ⟨h, _⟩ | ⟨_, x, y, h1, h2, rfl⟩
  · omega
  · omega
  · unfold puV; rw [h1, h2]
theorem low_tab : ∀ c : Fin 256, (97 ≤ c.1 ∧ c.1 ≤ 122 → bits .or .u8 (c.1 : Int) 32 = (c.1 : Int)) ∧ (65 ≤ c.1 ∧ c.1 ≤ 90 → bits .or .u8 (c.1 : Int) 32 = (c.1 : Int) + 32) ∧
    (¬ (97 ≤ c.1 ∧ c.1 ≤ 122) ∧ ¬ (65 ≤ c.1 ∧ c.1 ≤ 90) → (bits .or .u8 (c.1 : Int) 32 < 97 ∨ 122 < bits .or .u8 (c.1 : Int) 32)) := by decide +kernel
theorem byteN_two (a b : Nat) (ha : a < 256) (hb : b < 256) (k : Nat) (hk : k < 2) : byteN (strN [a, b]) k = two a b k := by
  unfold byteN two
  have : bytesU (strN [a, b]) = [a, b] := by
    unfold bytesU strN
    simp [UInt8.toNat_ofNat', Nat.mod_eq_of_lt ha, Nat.mod_eq_of_lt hb]
  rw [this]
  have h : k = 0 ∨ k = 1 := by omega
  rcases h with rfl | rfl <;> rfl

set_option maxHeartbeats 8000000 in
theorem iPu_any (a b : Nat) (w : World) (ha : a < 256) (hb : b < 256) :
    Calls Tryz.prog 127 #[.string (strN [a, b]), .int .i64 16, .int .i64 8] w fun e w' => e = .returned (.tuple #[.int .u64 ((puV a b).1 : Int), (puV a b).2]) ∧ Below w.heap.size w w' := by
  obtain ⟨W1, cp, hcv, hbW, hsW, hcell⟩ := conv_bytesU (strN [a, b]) w
  have hz : (strN [a, b]).size = 2 := strN_size _
  rw [hz] at hcv hcell
  have hne : ((strN [a, b]).toList == []) = false := by
    rw [Bool.eq_false_iff]; intro h
    rw [beq_iff_eq] at h
    have h2 := congrArg List.length h
    rw [ByteArray.toList_eq] at h2
    have : (strN [a, b]).data.toList.length = 2 := by rw [Array.length_toList]; exact hz
    rw [this] at h2; cases h2
  have hne2 : (strN [a, b]).toList.isEmpty = false := by
    cases h : (strN [a, b]).toList with
    | nil => rw [h] at hne; cases hne
    | cons x r => rfl
  have HCl : Hid (∀ k, k < 2 → W1.cell? ⟨w.heap.size, k, none⟩ = some (.int .u8 (two a b k : Int))) := fun k hk => by
    rw [(hcell k hk).1, byteN_two a b ha hb k hk]
  have HBW := Lib.hid hbW
  have H256 : Hid (∀ k, two a b k < 256) := fun k => by unfold two; split <;> assumption
  clear hcell hbW hsW hz
  generalize strN [a, b] = s at *
  go_enter Tryz.func127, Tryz.ntmps127
  go_wp2
  clear hcv hne hne2
  go_loopw [12, 13, 101] (fun uv nv iv wr => ∃ k n : Nat, k ≤ 2 ∧ uv = .bool false ∧ nv = .int .u64 (n : Int) ∧ iv = .int .i64 (k : Int) ∧ wr = W1 ∧ Hid (PuAt a b k n)) (fun _ _ i _ => 2 - (intOf i).toNat)
  case atStart => exact ⟨0, 0, by omega, rfl, rfl, rfl, rfl, .inl ⟨rfl, rfl⟩⟩
  case round =>
    obtain ⟨k, n, hk, rfl, rfl, rfl, rfl, HI⟩ := hrel
    by_cases hlt : k < 2
    · have qk : decide ((k : Int) < 2) = true := by simp; omega
      have qk2 : (k : Int) < 2 := by omega
      have hc := HCl.out k hlt
      have h256 := H256.out k
      have hn := pu_lt hlt HI.out
      have HNx := Lib.hid (fun d => pu_next (d := d) hlt HI.out)
      have HFl := Lib.hid (pu_fail hlt HI.out)
      obtain ⟨c, hcc⟩ : ∃ c, two a b k = c := ⟨_, rfl⟩
      rw [hcc] at hc h256 HNx HFl
      have hlow := low_tab ⟨c, h256⟩
      simp only at hlow
      obtain ⟨lo, hlo⟩ : ∃ lo, bits .or .u8 (c : Int) 32 = lo := ⟨_, rfl⟩
      rw [hlo] at hlow
      have q95 : ((c : Int) == 95) = decide (c = 95) := by rw [Bool.eq_iff_iff, beq_iff_eq, decide_eq_true_iff]; omega
      have w1 : IntKind.u64.wrap ((n : Int) * 16) = ((n * 16 : Nat) : Int) := by rw [show (n : Int) * 16 = ((n * 16 : Nat) : Int) by omega]; exact IntWalk.u64_in _ (by omega)
      have n1 : decide ((1152921504606846976 : Int) ≤ (n : Int)) = false := by simp; omega
      have n2 : ¬ (1152921504606846976 : Int) ≤ (n : Int) := by omega
      have n3 : ¬ 1152921504606846976 ≤ n := by omega
      clear hcc
      by_cases hc1 : 48 ≤ c ∧ c ≤ 57
      · have hd : hexV c = some (c - 48) := by unfold hexV; rw [if_pos (by omega)]
        have HV := Lib.hid (HNx.out _ hd)
        have hd16 := hexV_lt hd
        have p0 : (48 : Int) ≤ (c : Int) := by omega
        have p1 : 48 ≤ c := by omega
        have p2 : (c : Int) ≤ 57 := by omega
        have p3 : c ≤ 57 := by omega
        have wd : IntKind.u8.wrap ((c : Int) - 48) = ((c - 48 : Nat) : Int) := by rw [show ((c - 48 : Nat) : Int) = (c : Int) - 48 by omega]; exact IntWalk.u8_in _ (by omega)
        obtain ⟨d, hdd⟩ : ∃ d, c - 48 = d := ⟨_, rfl⟩
        rw [hdd] at HV hd16 wd
        have w2 : IntKind.u64.wrap (((n * 16 : Nat) : Int) + (d : Int)) = ((n * 16 + d : Nat) : Int) := by rw [show ((n * 16 : Nat) : Int) + (d : Int) = ((n * 16 + d : Nat) : Int) by omega]; exact IntWalk.u64_in _ (by omega)
        have w3 : ¬ ((n * 16 + d : Nat) : Int) < ((n * 16 : Nat) : Int) := by omega
        have w4 : ¬ (255 : Int) < ((n * 16 + d : Nat) : Int) := by omega
        have w5 : ¬ n * 16 + d < n * 16 := by omega
        have w6 : ¬ 255 < n * 16 + d := by omega
        have w7 : ¬ 16 ≤ d := by omega
        have w8 : ¬ (16 : Int) ≤ (d : Int) := by omega
        have w9 : IntKind.u64.wrap (d : Int) = (d : Int) := IntWalk.u64_in _ (by omega)
        generalize n * 16 + d = n5 at *
        generalize n * 16 = n6 at *
        clear hd hdd hd16 HI HNx HFl hlow hn
        go_wp2
        go_roundw
        case rel => exact ⟨k + 1, n5, by omega, rfl, by go_num, by go_num, (by first | rfl | trivial), HV.out⟩
        case measure => simp [intOf]; omega
      have hnd : ¬ (48 ≤ c ∧ c ≤ 57) := hc1
      have qd : (decide ((48 : Int) ≤ (c : Int)) && decide ((c : Int) ≤ 57)) = false := by
        rw [Bool.eq_false_iff]; intro h; rw [Bool.and_eq_true, decide_eq_true_iff, decide_eq_true_iff] at h; omega
      by_cases hc2 : 97 ≤ c ∧ c ≤ 102
      · have hd : hexV c = some (c - 87) := by unfold hexV; rw [if_neg (by omega), if_pos (by omega)]
        have HV := Lib.hid (HNx.out _ hd)
        have hd16 := hexV_lt hd
        have hl := hlow.1 ⟨by omega, by omega⟩
        rw [hl] at hlo
        have p0 : (48 : Int) ≤ (c : Int) := by omega
        have p1 : 48 ≤ c := by omega
        have p2 : ¬ (c : Int) ≤ 57 := by omega
        have p3 : ¬ c ≤ 57 := by omega
        have p4 : (97 : Int) ≤ (c : Int) := by omega
        have p5 : 97 ≤ c := by omega
        have p6 : (c : Int) ≤ 122 := by omega
        have p7 : c ≤ 122 := by omega
        have wd : (c : Int) - 97 + 10 = ((c - 87 : Nat) : Int) := by omega
        obtain ⟨d, hdd⟩ : ∃ d, c - 87 = d := ⟨_, rfl⟩
        rw [hdd] at HV hd16 wd
        have w2 : IntKind.u64.wrap (((n * 16 : Nat) : Int) + (d : Int)) = ((n * 16 + d : Nat) : Int) := by rw [show ((n * 16 : Nat) : Int) + (d : Int) = ((n * 16 + d : Nat) : Int) by omega]; exact IntWalk.u64_in _ (by omega)
        have w3 : ¬ ((n * 16 + d : Nat) : Int) < ((n * 16 : Nat) : Int) := by omega
        have w4 : ¬ (255 : Int) < ((n * 16 + d : Nat) : Int) := by omega
        have w5 : ¬ n * 16 + d < n * 16 := by omega
        have w6 : ¬ 255 < n * 16 + d := by omega
        have w7 : ¬ 16 ≤ d := by omega
        have w8 : ¬ (16 : Int) ≤ (d : Int) := by omega
        have w9 : IntKind.u64.wrap (d : Int) = (d : Int) := IntWalk.u64_in _ (by omega)
        generalize n * 16 + d = n5 at *
        generalize n * 16 = n6 at *
        clear hd hdd hd16 HI HNx HFl hlow hn
        go_wp2
        go_roundw
        case rel => exact ⟨k + 1, n5, by omega, rfl, by go_num, by go_num, (by first | rfl | trivial), HV.out⟩
        case measure => simp [intOf]; omega
      by_cases hc3 : 65 ≤ c ∧ c ≤ 70
      · have hd : hexV c = some (c - 55) := by unfold hexV; rw [if_neg (by omega), if_neg (by omega), if_pos (by omega)]
        have HV := Lib.hid (HNx.out _ hd)
        have hd16 := hexV_lt hd
        have hl := hlow.2.1 ⟨by omega, by omega⟩
        rw [hl] at hlo
        have p0 : (48 : Int) ≤ (c : Int) := by omega
        have p1 : 48 ≤ c := by omega
        have p2 : ¬ (c : Int) ≤ 57 := by omega
        have p3 : ¬ c ≤ 57 := by omega
        have p4 : (97 : Int) ≤ (c : Int) + 32 := by omega
        have p5 : 97 ≤ c + 32 := by omega
        have p6 : (c : Int) + 32 ≤ 122 := by omega
        have p7 : c + 32 ≤ 122 := by omega
        have wd : (c : Int) + 32 - 97 + 10 = ((c - 55 : Nat) : Int) := by omega
        obtain ⟨d, hdd⟩ : ∃ d, c - 55 = d := ⟨_, rfl⟩
        rw [hdd] at HV hd16 wd
        have w2 : IntKind.u64.wrap (((n * 16 : Nat) : Int) + (d : Int)) = ((n * 16 + d : Nat) : Int) := by rw [show ((n * 16 : Nat) : Int) + (d : Int) = ((n * 16 + d : Nat) : Int) by omega]; exact IntWalk.u64_in _ (by omega)
        have w3 : ¬ ((n * 16 + d : Nat) : Int) < ((n * 16 : Nat) : Int) := by omega
        have w4 : ¬ (255 : Int) < ((n * 16 + d : Nat) : Int) := by omega
        have w5 : ¬ n * 16 + d < n * 16 := by omega
        have w6 : ¬ 255 < n * 16 + d := by omega
        have w7 : ¬ 16 ≤ d := by omega
        have w8 : ¬ (16 : Int) ≤ (d : Int) := by omega
        have w9 : IntKind.u64.wrap (d : Int) = (d : Int) := IntWalk.u64_in _ (by omega)
        generalize n * 16 + d = n5 at *
        generalize n * 16 = n6 at *
        clear hd hdd hd16 HI HNx HFl hlow hn
        go_wp2
        go_roundw
        case rel => exact ⟨k + 1, n5, by omega, rfl, by go_num, by go_num, (by first | rfl | trivial), HV.out⟩
        case measure => simp [intOf]; omega
      by_cases hc4 : 103 ≤ c ∧ c ≤ 122
      · skip
        have hl := hlow.1 ⟨by omega, by omega⟩
        rw [hl] at hlo
        have p0 : (48 : Int) ≤ (c : Int) := by omega
        have p1 : 48 ≤ c := by omega
        have p2 : ¬ (c : Int) ≤ 57 := by omega
        have p3 : ¬ c ≤ 57 := by omega
        have p4 : (97 : Int) ≤ (c : Int) := by omega
        have p5 : 97 ≤ c := by omega
        have p6 : (c : Int) ≤ 122 := by omega
        have p7 : c ≤ 122 := by omega
        have p20 : ¬ (c : Int) - 97 + 10 < 16 := by omega
        have p21 : (16 : Int) ≤ (c : Int) - 97 + 10 := by omega
        have hd : hexV c = none := by unfold hexV; rw [if_neg (by omega), if_neg (by omega), if_neg (by omega)]
        have HV := Lib.hid (HFl.out hd)
        clear hd HI HNx HFl hlow hn
        go_wp2
        all_goals (
          go_ret2
          exact ⟨by rw [HV.out]; rfl, HBW.out⟩)
      by_cases hc5 : 71 ≤ c ∧ c ≤ 90
      · skip
        have hl := hlow.2.1 ⟨by omega, by omega⟩
        rw [hl] at hlo
        have p0 : (48 : Int) ≤ (c : Int) := by omega
        have p1 : 48 ≤ c := by omega
        have p2 : ¬ (c : Int) ≤ 57 := by omega
        have p3 : ¬ c ≤ 57 := by omega
        have p4 : (97 : Int) ≤ (c : Int) + 32 := by omega
        have p5 : 97 ≤ c + 32 := by omega
        have p6 : (c : Int) + 32 ≤ 122 := by omega
        have p7 : c + 32 ≤ 122 := by omega
        have p20 : ¬ (c : Int) + 32 - 97 + 10 < 16 := by omega
        have p21 : (16 : Int) ≤ (c : Int) + 32 - 97 + 10 := by omega
        have hd : hexV c = none := by unfold hexV; rw [if_neg (by omega), if_neg (by omega), if_neg (by omega)]
        have HV := Lib.hid (HFl.out hd)
        clear hd HI HNx HFl hlow hn
        go_wp2
        all_goals (
          go_ret2
          exact ⟨by rw [HV.out]; rfl, HBW.out⟩)
      by_cases ha : c < 48 ∧ lo < 97
      · skip
        have p0 : ¬ (48 : Int) ≤ (c : Int) := by omega
        have p1 : ¬ 48 ≤ c := by omega
        have p10 : ¬ (97 : Int) ≤ lo := by omega
        have hd : hexV c = none := by unfold hexV; rw [if_neg (by omega), if_neg (by omega), if_neg (by omega)]
        have HV := Lib.hid (HFl.out hd)
        clear hd HI HNx HFl hlow hn
        go_wp2
        all_goals (
          go_ret2
          exact ⟨by rw [HV.out]; rfl, HBW.out⟩)
      by_cases hb : c < 48 ∧ 122 < lo
      · skip
        have p0 : ¬ (48 : Int) ≤ (c : Int) := by omega
        have p1 : ¬ 48 ≤ c := by omega
        have p10 : (97 : Int) ≤ lo := by omega
        have p11 : ¬ lo ≤ 122 := by omega
        have hd : hexV c = none := by unfold hexV; rw [if_neg (by omega), if_neg (by omega), if_neg (by omega)]
        have HV := Lib.hid (HFl.out hd)
        clear hd HI HNx HFl hlow hn
        go_wp2
        all_goals (
          go_ret2
          exact ⟨by rw [HV.out]; rfl, HBW.out⟩)
      by_cases hc : 57 < c ∧ lo < 97
      · skip
        have p0 : (48 : Int) ≤ (c : Int) := by omega
        have p1 : 48 ≤ c := by omega
        have p2 : ¬ (c : Int) ≤ 57 := by omega
        have p3 : ¬ c ≤ 57 := by omega
        have p10 : ¬ (97 : Int) ≤ lo := by omega
        have hd : hexV c = none := by unfold hexV; rw [if_neg (by omega), if_neg (by omega), if_neg (by omega)]
        have HV := Lib.hid (HFl.out hd)
        clear hd HI HNx HFl hlow hn
        go_wp2
        all_goals (
          go_ret2
          exact ⟨by rw [HV.out]; rfl, HBW.out⟩)
      by_cases hd : 57 < c ∧ 122 < lo
      · skip
        have p0 : (48 : Int) ≤ (c : Int) := by omega
        have p1 : 48 ≤ c := by omega
        have p2 : ¬ (c : Int) ≤ 57 := by omega
        have p3 : ¬ c ≤ 57 := by omega
        have p10 : (97 : Int) ≤ lo := by omega
        have p11 : ¬ lo ≤ 122 := by omega
        have hd : hexV c = none := by unfold hexV; rw [if_neg (by omega), if_neg (by omega), if_neg (by omega)]
        have HV := Lib.hid (HFl.out hd)
        clear hd HI HNx HFl hlow hn
        go_wp2
        all_goals (
          go_ret2
          exact ⟨by rw [HV.out]; rfl, HBW.out⟩)
      exfalso
      have := hlow.2.2 ⟨by omega, by omega⟩
      omega
    · have hke : k = 2 := by omega
      subst hke
      have HV := Lib.hid (pu_end HI.out)
      clear HI HCl H256
      go_wp2
      go_ret2
      exact ⟨by rw [HV.out]; rfl, HBW.out⟩
end Go.Proofs.YtbnddpicpomakaaGreatDoor

/- The walks of strconv.ParseUint and token.bytesOf. -/
set_option linter.unusedSimpArgs false
set_option linter.unusedVariables false
set_option maxRecDepth 100000
namespace Go.Proofs.YtbnddpicpomakaaGreatDoor
open Go.RowKit

/-- .. and the error of wrong digits. -/
structure Pre6 (w : World) : Prop extends Pre5 w where
  syn : ∃ ev, w.cell? ⟨Tryz.laysTo_ren.g 15, 0, none⟩ = some ev ∧ (ev = .nilIface ∨ ∃ te pe, ev = .iface te pe)
theorem Pre6.below {w w' : World} (h : Pre6 w) (hb : Below w.heap.size w w') : Pre6 w' :=
  ⟨h.toPre5.below hb, by obtain ⟨ev, h1, h2⟩ := h.syn; exact ⟨ev, cell_kept5 h1 hb, h2⟩⟩

theorem puV_cases (a b : Nat) : (∃ n, n < 256 ∧ puV a b = (n, .nilIface) ∧ ∃ x y, hexV a = some x ∧ hexV b = some y ∧ n = 16 * x + y) ∨ (puV a b = (0, puErr) ∧ (hexV a = none ∨ hexV b = none)) := by
  unfold puV
  cases ha : hexV a with
  | none => exact .inr ⟨rfl, .inl rfl⟩
  | some x =>
    cases hb : hexV b with
    | none => exact .inr ⟨rfl, .inr rfl⟩
    | some y =>
      have := hexV_lt ha
      have := hexV_lt hb
      exact .inl ⟨16 * x + y, by omega, rfl, x, y, rfl, rfl, rfl⟩

theorem pu_any (a b : Nat) (w : World) (hT : Pre6 w) (ha : a < 256) (hb : b < 256) :
    Calls Tryz.prog 111 #[.string (strN [a, b]), .int .i64 16, .int .i64 8] w fun e w' => (∃ ev, e = .returned (.tuple #[.int .u64 ((puV a b).1 : Int), ev]) ∧ ((puV a b).2 = .nilIface → ev = .nilIface) ∧ ((puV a b).2 = puErr → ∃ t v, ev = .iface t v)) ∧ Below w.heap.size w w' := by
  have HI := Lib.hid (iPu_any a b w ha hb)
  obtain ⟨ev, h1, h2⟩ := hT.syn
  have HTo : Hid (∀ W, Below w.heap.size w W → Calls Tryz.prog 128 #[.string ⟨#[80, 97, 114, 115, 101, 85, 105, 110, 116]⟩, .string (strN [a, b]), .int .i64 16, .int .i64 8, puErr] W fun e w' => (∃ t v, e = .returned (.iface t v)) ∧ Below W.heap.size W w') := fun W hb2 => by
    have := Any.strconv_toError_syntax Tryz.laysTo ⟨#[80, 97, 114, 115, 101, 85, 105, 110, 116]⟩ (strN [a, b]) 16 8 ev W (by rw [strN_size]; simp) (cell_kept5 h1 hb2) h2
    refine Calls.mono this ?_
    rintro e w' ⟨N, rfl, _, _, hb3⟩
    exact ⟨⟨_, _, rfl⟩, hb3⟩
  generalize strN [a, b] = s at *
  clear h1 h2 hT
  rcases puV_cases a b with ⟨n, _, hp, _⟩ | ⟨hp, _⟩
  · rw [hp] at HI ⊢
    clear hp
    go_enter Tryz.func111, Tryz.ntmps111
    go_wp2_with fail
    refine HI.out.mono ?_
    rintro e w1 ⟨rfl, hb1⟩
    have HB1 := Lib.hid hb1
    clear hb1 HI
    go_wp2
    go_ret2
    exact ⟨⟨_, rfl, (fun _ => rfl), (fun h => by cases h)⟩, HB1.out⟩
  · rw [hp] at HI ⊢
    clear hp
    go_enter Tryz.func111, Tryz.ntmps111
    go_wp2_with fail
    refine HI.out.mono ?_
    rintro e w1 ⟨rfl, hb1⟩
    have HB1 := Lib.hid hb1
    clear hb1 HI
    go_wp2_with fail
    refine (HTo.out _ HB1.out).mono ?_
    rintro e w2 ⟨⟨t, v, rfl⟩, hb2⟩
    have HB2 := Lib.hid (HB1.out.trans (hb2.mono HB1.out.size))
    clear hb2
    go_wp2
    go_ret2
    exact ⟨⟨_, rfl, (fun h => by cases h), fun _ => ⟨_, _, rfl⟩⟩, HB2.out⟩

/-- A part of a string, byte by byte. -/
theorem ext_str (s : ByteArray) (a b : Nat) : s.extract a b = strN (((bytesU s).take b).drop a) := by
  apply ByteArray.ext
  unfold bytesU strN
  apply Array.toList_inj.1
  rw [ByteArray.data_extract]
  simp only [Array.toList_extract, List.extract_eq_take_drop, List.map_drop, List.map_take, List.map_map]
  rw [show (UInt8.ofNat ∘ UInt8.toNat) = id from funext fun x => by simp, List.map_id, List.drop_take]
/-- What bytesOf hands back. -/
def unhexV (l : List Nat) : ByteArray × Bool := match unhexR l with
  | some r => (strN r, true)
  | none => (⟨#[]⟩, false)
theorem unhex_odd : ∀ l : List Nat, l.length % 2 ≠ 0 → unhexR l = none
  | [], h => by simp at h
  | [_], _ => rfl
  | a :: b :: l, h => by
    rw [unhexR, unhex_odd l (by simp only [List.length_cons] at h; omega)]
    split <;> simp_all
theorem unhex_step {l : List Nat} {k : Nat} (h : k + 1 < l.length) : unhexR (l.drop k) = match hexV l[k], hexV l[k + 1], unhexR (l.drop (k + 2)) with
    | some x, some y, some r => some ((16 * x + y) :: r)
    | _, _, _ => none := by
  rw [List.drop_eq_getElem_cons (by omega : k < l.length), List.drop_eq_getElem_cons h, unhexR]
  rfl
theorem strN_bytes (s : ByteArray) : strN (bytesU s) = s := by
  apply ByteArray.ext
  unfold bytesU strN
  rw [List.map_map, show (UInt8.ofNat ∘ UInt8.toNat) = id from funext fun x => by simp, List.map_id]
theorem bytes_strN {l : List Nat} (h : ∀ c ∈ l, c < 256) : bytesU (strN l) = l := by
  unfold bytesU strN
  simp only [List.map_map]
  have : ∀ c ∈ l, (UInt8.toNat ∘ UInt8.ofNat) c = c := fun c hc => by simp only [Function.comp, UInt8.toNat_ofNat']; exact Nat.mod_eq_of_lt (h c hc)
  exact (List.map_congr_left this).trans (List.map_id l)

set_option maxHeartbeats 4000000 in
theorem bytesOf_any (s : ByteArray) (w : World) (hT : Pre6 w) (hs : s.size ≤ 1000000) :
    Calls Tryz.prog 93 #[.string s] w fun e w' => e = .returned (.tuple #[.string (unhexV (bytesU s)).1, .bool (unhexV (bytesU s)).2]) ∧ Below w.heap.size w w' := by
  obtain ⟨i0, hi, hz0, hz1, hz2⟩ := info_parts Tryz.info5
  have hbl := bytesU_len s
  by_cases hodd : s.size % 2 = 0
  rotate_left
  · have HV : Hid (unhexV (bytesU s) = (⟨#[]⟩, false)) := by
      show _ = _
      unfold unhexV; rw [unhex_odd _ (by rw [hbl]; exact hodd)]
    rw [HV.out]
    have q1 : ((s.size : Int).tmod 2 != 0) = true := by
      rw [IntWalk.rem_in _ _ (by omega)]; simp; omega
    have q2 : ((s.size : Int) % 2 != 0) = true := by simp; omega
    go_enter Tryz.func93, Tryz.ntmps93
    go_wp2
    go_ret2
    exact ⟨rfl, Below.refl _ _⟩
  have q1 : ((s.size : Int).tmod 2 != 0) = false := by
    rw [IntWalk.rem_in _ _ (by omega)]; simp; omega
  have q2 : ((s.size : Int) % 2 != 0) = false := by simp; omega
  obtain ⟨h, hh⟩ : ∃ h, s.size = 2 * h := ⟨s.size / 2, by omega⟩
  have HP := Lib.hid (fun W (hb : Below w.heap.size w W) => hT.below hb)
  have HH := Lib.hid hh
  have HBl := Lib.hid hbl
  clear hT hodd
  go_enter Tryz.func93, Tryz.ntmps93
  go_wp2
  clear q1 q2
  go_loopw [4, 5] (fun v i wr => ∃ (k : Nat) (acc : List Nat) (cv : Value), cv = v ∧ k ≤ h ∧ i = .int .i64 ((2 * k : Nat) : Int) ∧ Hid (OwnB wr w.heap.size 5 cv acc) ∧ Hid (acc.length = k) ∧ Hid (unhexR (bytesU s) = (unhexR ((bytesU s).drop (2 * k))).map (acc ++ ·)) ∧ Hid (Below w.heap.size w wr)) (fun _ i _ => 2 * h - (intOf i).toNat)
  case atStart => exact ⟨0, [], _, rfl, by omega, rfl, OwnB.nil _ _ _, rfl, by simp [Hid], Below.refl _ _⟩
  case round =>
    obtain ⟨k, acc, cv, rfl, hk, rfl, HO, HL, HI, HB⟩ := hrel
    by_cases hlt : k < h
    · have qk : decide (((2 * k : Nat) : Int) < (s.size : Int)) = true := by simp; omega
      have qk1 : ((2 * k : Nat) : Int) < (s.size : Int) := by omega
      have qk2 : 2 * k < s.size := by omega
      have qk3 : 2 * k + 2 ≤ s.size := by omega
      have qk4 : ((2 * k : Nat) : Int) + 2 ≤ (s.size : Int) := by omega
      obtain ⟨p, hp⟩ : ∃ p, 2 * k = p := ⟨_, rfl⟩
      have hl1 : p + 1 < (bytesU s).length := by rw [hbl]; omega
      have HSt := Lib.hid (unhex_step hl1)
      have hxt : s.extract p (p + 2) = strN [(bytesU s)[p], (bytesU s)[p + 1]] := by
        rw [ext_str, List.drop_take, List.drop_eq_getElem_cons (by omega : p < (bytesU s).length), List.drop_eq_getElem_cons hl1]
        rw [show p + 2 - p = 2 by omega]; rfl
      have ha := bytesU_lt s _ (List.getElem_mem (by omega : p < (bytesU s).length))
      have hb := bytesU_lt s _ (List.getElem_mem hl1)
      generalize (bytesU s)[p] = a at *
      generalize (bytesU s)[p + 1] = b at *
      have HY := Lib.hid (pu_any a b wr (HP.out wr HB.out) ha hb)
      rw [hp] at HI qk qk1 qk2 qk3 qk4 ⊢
      clear hl1 ha hb HP
      go_wp2_with fail
      refine HY.out.mono ?_
      rintro e w2 ⟨⟨ev, rfl, hgood, hbad⟩, hb2⟩
      have HB2 := Lib.hid (HB.out.trans (hb2.mono HB.out.size))
      have HO2 : Hid (OwnB w2 w.heap.size 5 cv acc) := ⟨HO.out.1, own_below HO.out.2 (Nat.le_refl _) hb2⟩
      clear hb2 HY
      rcases puV_cases a b with ⟨n, hn, hpv, x, y, hx, hy, hxy⟩ | ⟨hpv, hno⟩
      · rw [hpv] at hgood ⊢
        have hev := hgood rfl
        subst hev
        rw [hx, hy] at HSt
        have HI2 : Hid (unhexR (bytesU s) = (unhexR ((bytesU s).drop (p + 2))).map ((acc ++ [n]) ++ ·)) := by
          show _ = _
          rw [HI.out, HSt.out]
          cases unhexR ((bytesU s).drop (p + 2)) with
          | none => rfl
          | some r => simp [hxy]
        have wn : IntKind.u8.wrap (n : Int) = (n : Int) := IntWalk.u8_in _ (by omega)
        have hown2 := HO2.out
        have hlen := HL.out
        have hbs := HB2.out.size
        clear hgood hbad hpv hx hy hxy HSt HI HO HO2
        go_wp2_with (at_builtin; refine wpList_app1 rfl _ _ 99 rfl w.heap.size 5 i0 Tryz.underlying99 hi hz0 hz1 hz2 _ _ w2 hown2 rfl n hn _ (by first | rfl | (rw [wn])) rfl (by omega) hbs ?_; intro v1 w1 hown1 hb1' hsz1'; have HO1 := Lib.hid hown1; have HB1 := Lib.hid hb1'; clear hown1 hb1' hsz1' hown2)
        go_roundw
        case rel => exact ⟨k + 1, acc ++ [n], v1, rfl, by omega, by rw [← hp]; go_num, HO1.out, by rw [List.length_append, HL.out]; rfl, by rw [show 2 * (k + 1) = p + 2 by omega]; exact HI2, HB2.out.trans HB1.out⟩
        case measure => simp [intOf]; omega
      · rw [hpv] at hbad ⊢
        obtain ⟨t, v, hev⟩ := hbad rfl
        subst hev
        have HV : Hid (unhexV (bytesU s) = (⟨#[]⟩, false)) := by
          show _ = _
          unfold unhexV
          rw [HI.out, HSt.out]
          rcases hno with h | h <;> rw [h] <;> first | rfl | (cases hexV a <;> rfl)
        clear hgood hbad hpv hno HSt HI HO HO2
        go_wp2
        go_ret2
        exact ⟨by rw [HV.out]; rfl, HB2.out⟩
    · have hke : k = h := by omega
      have HV : Hid (unhexV (bytesU s) = (strN acc, true)) := by
        show _ = _
        unfold unhexV
        rw [HI.out, List.drop_eq_nil_of_le (by rw [hbl]; omega), unhexR]
        simp
      have qk : decide (((2 * k : Nat) : Int) < (s.size : Int)) = false := by simp; omega
      have qk1 : ¬ ((2 * k : Nat) : Int) < (s.size : Int) := by omega
      have qk2 : ¬ 2 * k < s.size := by omega
      have hqs : (s.size : Int) = ((2 * k : Nat) : Int) := by omega
      obtain ⟨p, hp⟩ : ∃ p, 2 * k = p := ⟨_, rfl⟩
      rw [hp] at qk qk1 qk2 hqs ⊢
      obtain ⟨a2, cap, hcv, hcap, hBs, _⟩ := HO.out.slice
      subst hcv
      have hconv := hBs.conv (P := Tryz.prog) 99 5 Tryz.underlying99 Tryz.underlying5 9 Tryz.underlying9 _ cap rfl
      clear HI HO HP hke hp hh hk hbl
      go_wp2
      go_ret2
      exact ⟨by rw [HV.out]; rfl, HB.out⟩
end Go.Proofs.YtbnddpicpomakaaGreatDoor

/- A variable as a whole: handed back, stored. -/
set_option linter.unusedSimpArgs false
set_option linter.unusedVariables false
set_option maxRecDepth 100000
namespace Go.Proofs.YtbnddpicpomakaaGreatDoor
open Go.RowKit

/-- What a call hands back: a variable as a whole, and a temporary. -/
theorem results_cell_tmp {P : Program} {fn : Func} {p t : Tmp} {ty : TypeId} (h : fn.results = #[.cell p ty, .tmp t]) (tmps : Array Value) (w : World) {ad : Addr} {v u : Value}
    (hp : tmps.getD p undef = .pointer (some ad)) (ht : tmps.getD t undef = u) (hl : (loadVar ty ad).run P w = .ok v w) : (results fn tmps).run P w = .ok (.tuple #[v, u]) w := by
  have hp' : tmps[p]?.getD undef = .pointer (some ad) := by simpa using hp
  have ht' : tmps[t]?.getD undef = u := by simpa using ht
  simp [results, h, hp', ht', asAddr, hl]

theorem Blk.setRow {w : World} {b : Nat} {T : TypeId} {old new : Array Value} (h : Blk w b T old) : Blk (w.setRow b new) b T new := setRow_heap w b old new T _ h
theorem Chg.setRow {S : List Nat} {a w : World} (h : Chg S a w) {b : Nat} (hb : b ∈ S ∨ a.heap.size ≤ b) (cs : Array Value) : Chg S a (w.setRow b cs) :=
  ⟨h.os, h.tape, h.output, by rw [size_setRow]; exact h.size, fun k hk hn => by
    have hne : k ≠ b := fun e => by
      subst e
      rcases hb with hb | hb
      · exact hn hb
      · omega
    exact (setRow_other w b k cs hne).trans (h.block k hk hn)⟩
end Go.Proofs.YtbnddpicpomakaaGreatDoor

/- Operations on large arrays and structs, carried out as one step. -/
set_option linter.unusedSimpArgs false
set_option linter.unusedVariables false
set_option maxRecDepth 100000
namespace Go.Proofs.YtbnddpicpomakaaGreatDoor
open Go.RowKit

section
variable {P : Program} {ops : Array Oper} {Q : Exit → Act → World → Prop}

theorem exec_load {o : Oper} {a : Act} {w : World} {ty : TypeId} {x : Operand} {ad : Addr} {v : Value} (ho : o.op = .load ty x) (hx : a.eval x = .pointer (some ad)) (h : (loadVar ty ad).run P w = .ok v w) :
    (execOp a.eval o).run P w = .ok (.value v) w := by
  unfold execOp
  simp only [ho, hx, Instr.loadAt, Instr.sureAddr, Sem.run_bind, Sem.run_pure, Result.andThen_ok, h]

/-- A load in a plain region. -/
theorem wpList_loadV {rest : List Oper} {o : Oper} {a : Act} {w : World} (hg : o.guard = none) (ty : TypeId) (x : Operand) (ho : o.op = .load ty x) {ad : Addr} (hx : a.eval x = .pointer (some ad)) {v : Value} (h : (loadVar ty ad).run P w = .ok v w)
    (hK : wpList P ops Q rest (a.put o.dst v) w) : wpList P ops Q (o :: rest) a w :=
  wpList_plain hg fun _ hk => by
    unfold Oper.wp
    rw [exec_load ho hx h]
    exact hk _ _ hK

/-- A store in a plain region. -/
theorem wpList_storeV {rest : List Oper} {o : Oper} {a : Act} {w w' : World} (hg : o.guard = none) (ty : TypeId) (x y : Operand) (ho : o.op = .store ty x y) {ad : Addr} (hx : a.eval x = .pointer (some ad)) {v : Value} (hy : a.eval y = v) (h : (storeVar ty ad v).run P w = .ok () w')
    (hK : wpList P ops Q rest (a.put o.dst undef) w') : wpList P ops Q (o :: rest) a w :=
  wpList_plain hg fun _ hk => by
    unfold Oper.wp execOp
    simp only [ho, hx, hy, Instr.storeAt, Instr.sureAddr, Sem.run_bind, Sem.run_pure, Result.andThen_ok, h]
    exact hk _ _ hK

/-- An operation of a plain region whose run is known. -/
theorem wpList_val {rest : List Oper} {o : Oper} {a : Act} {w w' : World} (hg : o.guard = none) {v : Value} (h : (execOp a.eval o).run P w = .ok (.value v) w')
    (hK : wpList P ops Q rest (a.put o.dst v) w') : wpList P ops Q (o :: rest) a w :=
  wpList_plain hg fun _ hk => by
    unfold Oper.wp
    rw [h]
    exact hk _ _ hK
theorem wpList_skp {rest : List Oper} {o : Oper} {a : Act} {w w' : World} (hg : o.guard = none) (h : (execOp a.eval o).run P w = .ok .skip w')
    (hK : wpList P ops Q rest (a.put o.dst undef) w') : wpList P ops Q (o :: rest) a w :=
  wpList_plain hg fun _ hk => by
    unfold Oper.wp
    rw [h]
    exact hk _ _ hK
/-- One whose run is known, at its own. -/
theorem wp_val {o : Oper} {a : Act} {w w' : World} {K : Act → World → Prop} {v : Value} (h : (execOp a.eval o).run P w = .ok (.value v) w') (hK : K (a.put o.dst v) w') : o.wp P a w K Q := by
  unfold Oper.wp
  rw [h]
  exact hK
theorem wp_skp {o : Oper} {a : Act} {w w' : World} {K : Act → World → Prop} (h : (execOp a.eval o).run P w = .ok .skip w') (hK : K (a.put o.dst undef) w') : o.wp P a w K Q := by
  unfold Oper.wp
  rw [h]
  exact hK

theorem exec_mapUpdate {o : Oper} {a : Act} {w w' : World} {T : TypeId} {m k x : Operand} (ho : o.op = .mapUpdate T m k x) {vm vk vx : Value} (hm : a.eval m = vm) (hk : a.eval k = vk) (hx : a.eval x = vx) (h : (Instr.mapUpdate T vm vk vx).run P w = .ok () w') :
    (execOp a.eval o).run P w = .ok .skip w' := by
  unfold execOp
  simp only [ho, hm, hk, hx, Sem.run_bind, h, Result.andThen_ok, Sem.run_pure]
theorem exec_lookup {o : Oper} {a : Act} {w : World} {T : TypeId} {m k : Operand} {ok : Bool} (ho : o.op = .lookup T m k ok) {vm vk v : Value} (hm : a.eval m = vm) (hk : a.eval k = vk) (h : (Instr.lookup T vm vk ok).run P w = .ok v w) :
    (execOp a.eval o).run P w = .ok (.value v) w := by
  unfold execOp
  simp only [ho, hm, hk, Sem.run_bind, h, Result.andThen_ok, Sem.run_pure]
theorem exec_alloc {o : Oper} {a : Act} {w : World} {e : TypeId} (ho : o.op = .alloc e) {z : Value} (hz : ∀ W, (zeroValue e).run P W = .ok z W) :
    (execOp a.eval o).run P w = .ok (.value (.pointer (some ⟨w.heap.size, 0, none⟩))) (w.alloc (.cells z.cells e)) := by
  unfold execOp
  simp only [ho, Instr.alloc, Sem.run_bind, hz, Result.andThen_ok]
  rfl
theorem exec_build {o : Oper} {a : Act} {w : World} {t : TypeId} {parts : Array (Nat × Operand)} (ho : o.op = .build t parts) {cells : Array Value} (h : (Instr.build t (parts.map fun (i, x) => (i, a.eval x))).run P w = .ok (.agg cells) w) :
    (execOp a.eval o).run P w = .ok (.value (.agg cells)) w := by
  unfold execOp
  simp only [ho, Sem.run_bind, h, Result.andThen_ok, Sem.run_pure]
theorem exec_buildSlice {o : Oper} {a : Act} {w w' : World} {t : TypeId} {n : Nat} {parts : Array (Nat × Operand)} (ho : o.op = .buildSlice t n parts) {v : Value} (h : (Instr.buildSlice t n (parts.map fun (i, x) => (i, a.eval x))).run P w = .ok v w') :
    (execOp a.eval o).run P w = .ok (.value v) w' := by
  unfold execOp
  simp only [ho, Sem.run_bind, h, Result.andThen_ok, Sem.run_pure]
theorem exec_buildSlice1 {o : Oper} {a : Act} {w w' : World} {t : TypeId} {n : Nat} {i : Nat} {x : Operand} (ho : o.op = .buildSlice t n #[(i, x)]) {vx v : Value} (hx : a.eval x = vx) (h : (Instr.buildSlice t n #[(i, vx)]).run P w = .ok v w') :
    (execOp a.eval o).run P w = .ok (.value v) w' := exec_buildSlice ho (by simpa [hx] using h)
theorem exec_build1 {o : Oper} {a : Act} {w : World} {t : TypeId} {i : Nat} {x : Operand} (ho : o.op = .build t #[(i, x)]) {vx : Value} {cells : Array Value} (hx : a.eval x = vx) (h : (Instr.build t #[(i, vx)]).run P w = .ok (.agg cells) w) :
    (execOp a.eval o).run P w = .ok (.value (.agg cells)) w := exec_build ho (by simpa [hx] using h)
theorem exec_build2 {o : Oper} {a : Act} {w : World} {t : TypeId} {i j : Nat} {x y : Operand} (ho : o.op = .build t #[(i, x), (j, y)]) {vx vy : Value} {cells : Array Value} (hx : a.eval x = vx) (hy : a.eval y = vy) (h : (Instr.build t #[(i, vx), (j, vy)]).run P w = .ok (.agg cells) w) :
    (execOp a.eval o).run P w = .ok (.value (.agg cells)) w := exec_build ho (by simpa [hx, hy] using h)
theorem exec_store {o : Oper} {a : Act} {w w' : World} {ty : TypeId} {x y : Operand} (ho : o.op = .store ty x y) {ad : Addr} (hx : a.eval x = .pointer (some ad)) {v : Value} (hy : a.eval y = v) (h : (storeVar ty ad v).run P w = .ok () w') :
    (execOp a.eval o).run P w = .ok .skip w' := by
  unfold execOp
  simp only [ho, hx, hy, Instr.storeAt, Instr.sureAddr, Sem.run_bind, Sem.run_pure, Result.andThen_ok, h]
end

/-- The zero value of a type, and its size. -/
theorem zero_of {P : Program} {t : TypeId} {v : Value} (h : (P.info? t).map (·.zero) = some (some v)) (w : World) : (zeroValue t).run P w = .ok v w := by
  cases hq : P.info? t with
  | none => simp [hq] at h
  | some i =>
    simp [hq] at h
    simp [zeroValue, typeInfo, hq, h]
end Go.Proofs.YtbnddpicpomakaaGreatDoor

/- The walks of token.word, number, quoted and blob. -/
set_option linter.unusedSimpArgs false
set_option linter.unusedVariables false
set_option maxRecDepth 100000
namespace Go.Proofs.YtbnddpicpomakaaGreatDoor
open Go.RowKit

abbrev Tk.cs (t : Tk) : Array Value := #[.int .i64 t.kd, .int .i64 t.at_, .string t.tx, .int .i64 t.n]
/-- What a function of front.go hands back. -/
def RetF (r : FrR) (w : World) (e : Ending) (w' : World) : Prop := e = .returned (.tuple #[.agg r.1.cs, .int .i64 (r.2.1 : Int), .int .i64 r.2.2]) ∧ Below w.heap.size w w'
theorem info_tkS : (Tryz.prog.info? 36).map (·.size) = some 4 := by kernel_rfl
theorem results_cell_tmp2 {P : Program} {fn : Func} {p t q : Tmp} {ty : TypeId} (h : fn.results = #[.cell p ty, .tmp t, .tmp q]) (tmps : Array Value) (w : World) {ad : Addr} {v u x : Value}
    (hp : tmps.getD p undef = .pointer (some ad)) (ht : tmps.getD t undef = u) (hq : tmps.getD q undef = x) (hl : (loadVar ty ad).run P w = .ok v w) : (results fn tmps).run P w = .ok (.tuple #[v, u, x]) w := by
  have hp' : tmps[p]?.getD undef = .pointer (some ad) := by simpa using hp
  have ht' : tmps[t]?.getD undef = u := by simpa using ht
  have hq' : tmps[q]?.getD undef = x := by simpa using hq
  simp [results, h, hp', ht', hq', asAddr, hl]
/-- The end: a token is stored in the result's cell. -/
theorem tok_end {w W : World} (t : Tk) (hB : Blk W w.heap.size 36 zTk.cs) (hb : Below w.heap.size w W) :
    (storeVar 36 ⟨w.heap.size, 0, none⟩ (.agg t.cs)).run Tryz.prog W = .ok () (W.setRow w.heap.size t.cs) ∧ (loadVar 36 ⟨w.heap.size, 0, none⟩).run Tryz.prog (W.setRow w.heap.size t.cs) = .ok (.agg t.cs) (W.setRow w.heap.size t.cs) ∧ Below w.heap.size w (W.setRow w.heap.size t.cs) := by
  have hc : Chg [w.heap.size] W (W.setRow w.heap.size t.cs) := (Chg.refl _ _).setRow (.inl (by simp)) _
  exact ⟨run_storeVar_row _ _ _ 36 _ _ hB (by rw [info_tkS]; rfl) rfl (by simp [Value.oneCell']), run_loadVar_row _ _ _ 36 _ (0, 0) _ (Blk.setRow (new := t.cs) hB) Tryz.underlying36 rfl (by rw [info_tkS]; rfl), hb.trans (hc.below hb.size (by simp))⟩
/-- A row of classes that has just been laid. -/
theorem kNew (w : World) (ks : List Int) (T : TypeId) : Arr (w.alloc (.cells (cellsK ks).toArray T)).heap.size (w.alloc (.cells (cellsK ks).toArray T)) (some ⟨w.heap.size, 0, none⟩) (cellsK ks) :=
  .inr ⟨w.heap.size, 0, rfl, by simp, fun i v hi => by rw [Nat.zero_add, World.cell?_alloc_at _ _ _ _ rfl]; simpa using hi⟩
/-- 'run' over classes that have just been laid. -/
theorem runNew (s : ByteArray) (ks : List Int) (hs : s.size ≤ 1000000) (hl : ks.length ≤ 100) (h0 : ks.contains 0 = false) (w : World) :
    Calls Tryz.prog 30 #[.string s, .slice (some ⟨w.heap.size, 0, none⟩) ks.length ks.length] (w.alloc (.cells (cellsK ks).toArray 3)) fun e w' => e = .returned (.int .i64 (skipR ks (bytesU s) : Int)) ∧ Below w.heap.size w w' :=
  (tkRun_any s ks (some ⟨w.heap.size, 0, none⟩) ks.length _ hs (kNew w ks _) hl h0).mono fun e w' h => ⟨h.1, ((Below.refl _ w).alloc (Nat.le_refl _) _).trans (h.2.mono (by simp))⟩
theorem ext_take (s : ByteArray) (z : Nat) : s.extract 0 z = strN ((bytesU s).take z) := by rw [ext_str, List.drop_zero]
theorem zTk_blk (w : World) : Blk (w.alloc (.cells zTk.cs 36)) w.heap.size 36 zTk.cs := Blk.new w _ _

set_option maxHeartbeats 2000000 in
theorem tkWord_any (s : ByteArray) (w : World) (hs : s.size ≤ 400000) : Calls Tryz.prog 55 #[.string s] w (RetF (wordR (bytesU s)) w) := by
  obtain ⟨w0, hw0⟩ : ∃ w0, w.alloc (.cells #[.int .i64 0, .int .i64 0, .string ⟨#[]⟩, .int .i64 0] 36) = w0 := ⟨_, rfl⟩
  have hZ0 : Blk (w.alloc (.cells #[.int .i64 0, .int .i64 0, .string ⟨#[]⟩, .int .i64 0] 36)) w.heap.size 36 zTk.cs := zTk_blk w
  rw [hw0] at hZ0
  have HZ0 := Lib.hid hZ0
  have HB0 : Hid (Below w.heap.size w w0) := by rw [← hw0]; exact (Below.refl _ w).alloc (Nat.le_refl _) _
  have hlt0 : w.heap.size < w0.heap.size := by rw [← hw0]; simp
  have HL0 : Hid (w.heap.size < w0.heap.size) := hlt0
  clear hZ0 hlt0
  have HRun : Hid (∀ W : World, Calls Tryz.prog 30 #[.string s, .slice (some ⟨W.heap.size, 0, none⟩) 2 2] (W.alloc (.cells #[.int .i64 2, .int .i64 3] 3)) fun e w' => e = .returned (.int .i64 (skipR [2, 3] (bytesU s) : Int)) ∧ Below W.heap.size W w') := fun W => runNew s [2, 3] (by omega) (by decide) (by decide) W
  have hz := skipR_le [2, 3] (bytesU s)
  rw [bytesU_len] at hz
  have HV : Hid (wordR (bytesU s) = if (nameV (s.extract 0 (skipR [2, 3] (bytesU s)))).2 = 0 then (⟨1, 0, (nameV (s.extract 0 (skipR [2, 3] (bytesU s)))).1, 0⟩, skipR [2, 3] (bytesU s), 0) else (zTk, 0, 40)) := by simp only [wordR, ext_take, Hid]
  generalize skipR [2, 3] (bytesU s) = z at *
  have HN := Lib.hid (fun W => Name_any (s.extract 0 z) W (by rw [ext_take, strN_size, List.length_take]; omega))
  have hz1 : (z : Int) ≤ (s.size : Int) := by omega
  obtain ⟨⟨nm, er⟩, hnv⟩ : ∃ r, nameV (s.extract 0 z) = r := ⟨_, rfl⟩
  rw [hnv] at HN HV
  simp only at HV
  clear hs hnv
  go_enter Tryz.func55, Tryz.ntmps55
  go_wp2_with fail
  refine (HRun.out w0).mono ?_
  rintro e w1 ⟨rfl, hb1⟩
  have HB1 := Lib.hid (HB0.out.trans (hb1.mono HB0.out.size))
  have HZ1 : Hid (Blk w1 w.heap.size 36 zTk.cs) := (hb1.block _ HL0.out).trans HZ0.out
  have HL1 : Hid (w.heap.size < w1.heap.size) := Nat.lt_of_lt_of_le HL0.out hb1.size
  clear hb1
  go_wp2_with fail
  refine (HN.out _).mono ?_
  rintro e w2 ⟨rfl, hb2⟩
  have HB2 := Lib.hid (HB1.out.trans (hb2.mono HB1.out.size))
  have HZ2 : Hid (Blk w2 w.heap.size 36 zTk.cs) := (hb2.block _ HL1.out).trans HZ1.out
  have HL2 : Hid (w.heap.size < w2.heap.size) := Nat.lt_of_lt_of_le HL1.out hb2.size
  clear hb2
  by_cases h0 : er = 0
  · subst h0
    rw [if_pos rfl] at HV
    obtain ⟨s1, s2, s3⟩ := tok_end (w := w) (⟨1, 0, nm, 0⟩ : Tk) HZ2.out HB2.out
    simp only [Tk.cs, zTk] at s1 s2 s3
    have S1 := Lib.hid s1
    have S2 := Lib.hid s2
    have S3 := Lib.hid s3
    clear s1 s2 s3
    go_wp2_with (first | (guard_target =~ wpList _ _ _ (Oper.mk _ (Op.store 36 _ _) _ _ _ _ :: _) _ _; refine wpList_skp rfl (exec_store rfl rfl rfl S1.out) ?_))
    refine bodyPost_ret (results_cell_tmp2 Tryz.results55 _ _ rfl rfl rfl S2.out) rfl ?_
    unfold RetF
    exact ⟨by rw [HV.out]; rfl, S3.out⟩
  · have q0 : (er != 0) = true := by simpa using h0
    rw [if_neg h0] at HV
    obtain ⟨s1, s2, s3⟩ := tok_end (w := w) zTk HZ2.out HB2.out
    simp only [Tk.cs, zTk] at s1 s2 s3
    have S1 := Lib.hid s1
    have S2 := Lib.hid s2
    have S3 := Lib.hid s3
    clear s1 s2 s3
    go_wp2_with (first | (guard_target =~ wpList _ _ _ (Oper.mk _ (Op.store 36 _ _) _ _ _ _ :: _) _ _; refine wpList_skp rfl (exec_store rfl rfl rfl S1.out) ?_))
    refine bodyPost_ret (results_cell_tmp2 Tryz.results55 _ _ rfl rfl rfl S2.out) rfl ?_
    unfold RetF
    exact ⟨by rw [HV.out]; rfl, S3.out⟩

set_option maxHeartbeats 2000000 in
theorem tkNum_any (s : ByteArray) (w : World) (hT : Pre6 w) (hs : s.size ≤ 400000) : Calls Tryz.prog 56 #[.string s] w (RetF (numR (bytesU s)) w) := by
  obtain ⟨w0, hw0⟩ : ∃ w0, w.alloc (.cells #[.int .i64 0, .int .i64 0, .string ⟨#[]⟩, .int .i64 0] 36) = w0 := ⟨_, rfl⟩
  have hZ0 : Blk (w.alloc (.cells #[.int .i64 0, .int .i64 0, .string ⟨#[]⟩, .int .i64 0] 36)) w.heap.size 36 zTk.cs := zTk_blk w
  rw [hw0] at hZ0
  have HZ0 := Lib.hid hZ0
  have HB0 : Hid (Below w.heap.size w w0) := by rw [← hw0]; exact (Below.refl _ w).alloc (Nat.le_refl _) _
  have hlt0 : w.heap.size < w0.heap.size := by rw [← hw0]; simp
  have HL0 : Hid (w.heap.size < w0.heap.size) := hlt0
  clear hZ0 hlt0
  have HRun : Hid (∀ W : World, Calls Tryz.prog 30 #[.string s, .slice (some ⟨W.heap.size, 0, none⟩) 1 1] (W.alloc (.cells #[.int .i64 3] 3)) fun e w' => e = .returned (.int .i64 (skipR [3] (bytesU s) : Int)) ∧ Below W.heap.size W w') := fun W => runNew s [3] (by omega) (by decide) (by decide) W
  have HRun2 : Hid (∀ W : World, Calls Tryz.prog 30 #[.string s, .slice (some ⟨W.heap.size, 0, none⟩) 2 2] (W.alloc (.cells #[.int .i64 3, .int .i64 2] 3)) fun e w' => e = .returned (.int .i64 (skipR [3, 2] (bytesU s) : Int)) ∧ Below W.heap.size W w') := fun W => runNew s [3, 2] (by omega) (by decide) (by decide) W
  have hz := skipR_le [3] (bytesU s)
  rw [bytesU_len] at hz
  have HV : Hid (numR (bytesU s) = if skipR [3] (bytesU s) < skipR [3, 2] (bytesU s) then (zTk, 0, 40) else if (numberV (s.extract 0 (skipR [3] (bytesU s)))).2 = 0 then (⟨2, 0, ⟨#[]⟩, (numberV (s.extract 0 (skipR [3] (bytesU s)))).1⟩, skipR [3] (bytesU s), 0) else (zTk, 0, (numberV (s.extract 0 (skipR [3] (bytesU s)))).2)) := by simp only [numR, ext_take, Hid]
  generalize skipR [3] (bytesU s) = z at *
  generalize skipR [3, 2] (bytesU s) = y at *
  have HN := Lib.hid (fun W (hb : Below w.heap.size w W) => Number_any (s.extract 0 z) W (hT.below hb).toPre5 (by rw [ext_take, strN_size, List.length_take]; omega))
  have hz1 : (z : Int) ≤ (s.size : Int) := by omega
  obtain ⟨⟨nm, er⟩, hnv⟩ : ∃ r, numberV (s.extract 0 z) = r := ⟨_, rfl⟩
  rw [hnv] at HN HV
  simp only at HV
  clear hs hnv hT
  go_enter Tryz.func56, Tryz.ntmps56
  go_wp2_with fail
  refine (HRun.out w0).mono ?_
  rintro e w1 ⟨rfl, hb1⟩
  have HB1 := Lib.hid (HB0.out.trans (hb1.mono HB0.out.size))
  have HZ1 : Hid (Blk w1 w.heap.size 36 zTk.cs) := (hb1.block _ HL0.out).trans HZ0.out
  have HL1 : Hid (w.heap.size < w1.heap.size) := Nat.lt_of_lt_of_le HL0.out hb1.size
  clear hb1
  go_wp2_with fail
  refine (HRun2.out w1).mono ?_
  rintro e w2 ⟨rfl, hb2⟩
  have HB2 := Lib.hid (HB1.out.trans (hb2.mono HB1.out.size))
  have HZ2 : Hid (Blk w2 w.heap.size 36 zTk.cs) := (hb2.block _ HL1.out).trans HZ1.out
  have HL2 : Hid (w.heap.size < w2.heap.size) := Nat.lt_of_lt_of_le HL1.out hb2.size
  clear hb2
  by_cases hzy : z < y
  · have q0 : decide ((z : Int) < (y : Int)) = true := by simp; omega
    rw [if_pos hzy] at HV
    obtain ⟨s1, s2, s3⟩ := tok_end (w := w) zTk HZ2.out HB2.out
    simp only [Tk.cs, zTk] at s1 s2 s3
    have S1 := Lib.hid s1
    have S2 := Lib.hid s2
    have S3 := Lib.hid s3
    clear s1 s2 s3
    go_wp2_with (first | (guard_target =~ wpList _ _ _ (Oper.mk _ (Op.store 36 _ _) _ _ _ _ :: _) _ _; refine wpList_skp rfl (exec_store rfl rfl rfl S1.out) ?_))
    refine bodyPost_ret (results_cell_tmp2 Tryz.results56 _ _ rfl rfl rfl S2.out) rfl ?_
    unfold RetF
    exact ⟨by rw [HV.out]; rfl, S3.out⟩
  have q0 : decide ((z : Int) < (y : Int)) = false := by simp; omega
  have q1 : ¬ z < y := hzy
  rw [if_neg hzy] at HV
  go_wp2_with fail
  refine (HN.out _ HB2.out).mono ?_
  rintro e w3 ⟨rfl, hb3⟩
  have HB3 := Lib.hid (HB2.out.trans (hb3.mono HB2.out.size))
  have HZ3 : Hid (Blk w3 w.heap.size 36 zTk.cs) := (hb3.block _ HL2.out).trans HZ2.out
  have HL3 : Hid (w.heap.size < w3.heap.size) := Nat.lt_of_lt_of_le HL2.out hb3.size
  clear hb3
  by_cases h0 : er = 0
  · subst h0
    rw [if_pos rfl] at HV
    obtain ⟨s1, s2, s3⟩ := tok_end (w := w) (⟨2, 0, ⟨#[]⟩, nm⟩ : Tk) HZ3.out HB3.out
    simp only [Tk.cs, zTk] at s1 s2 s3
    have S1 := Lib.hid s1
    have S2 := Lib.hid s2
    have S3 := Lib.hid s3
    clear s1 s2 s3
    go_wp2_with (first | (guard_target =~ wpList _ _ _ (Oper.mk _ (Op.store 36 _ _) _ _ _ _ :: _) _ _; refine wpList_skp rfl (exec_store rfl rfl rfl S1.out) ?_))
    refine bodyPost_ret (results_cell_tmp2 Tryz.results56 _ _ rfl rfl rfl S2.out) rfl ?_
    unfold RetF
    exact ⟨by rw [HV.out]; rfl, S3.out⟩
  · have q2 : (er != 0) = true := by simpa using h0
    rw [if_neg h0] at HV
    obtain ⟨s1, s2, s3⟩ := tok_end (w := w) zTk HZ3.out HB3.out
    simp only [Tk.cs, zTk] at s1 s2 s3
    have S1 := Lib.hid s1
    have S2 := Lib.hid s2
    have S3 := Lib.hid s3
    clear s1 s2 s3
    go_wp2_with (first | (guard_target =~ wpList _ _ _ (Oper.mk _ (Op.store 36 _ _) _ _ _ _ :: _) _ _; refine wpList_skp rfl (exec_store rfl rfl rfl S1.out) ?_))
    refine bodyPost_ret (results_cell_tmp2 Tryz.results56 _ _ rfl rfl rfl S2.out) rfl ?_
    unfold RetF
    exact ⟨by rw [HV.out]; rfl, S3.out⟩

set_option maxHeartbeats 2000000 in
theorem tkQuot_any (s : ByteArray) (w : World) (hT : Pre6 w) (hs : s.size ≤ 400000) : Calls Tryz.prog 57 #[.string s] w (RetF (quotR (bytesU s)) w) := by
  obtain ⟨w0, hw0⟩ : ∃ w0, w.alloc (.cells #[.int .i64 0, .int .i64 0, .string ⟨#[]⟩, .int .i64 0] 36) = w0 := ⟨_, rfl⟩
  have hZ0 : Blk (w.alloc (.cells #[.int .i64 0, .int .i64 0, .string ⟨#[]⟩, .int .i64 0] 36)) w.heap.size 36 zTk.cs := zTk_blk w
  rw [hw0] at hZ0
  have HZ0 := Lib.hid hZ0
  have HB0 : Hid (Below w.heap.size w w0) := by rw [← hw0]; exact (Below.refl _ w).alloc (Nat.le_refl _) _
  have hlt0 : w.heap.size < w0.heap.size := by rw [← hw0]; simp
  have HL0 : Hid (w.heap.size < w0.heap.size) := hlt0
  clear hZ0 hlt0
  have HRun := Lib.hid (fun W => tkQuotes_any s W (by omega))
  have hz := quotesR_le (bytesU s)
  rw [bytesU_len] at hz
  have HV : Hid (quotR (bytesU s) = if (unquoteS (s.extract 0 (quotesR (bytesU s)))).2 = 0 then (⟨3, 0, (unquoteS (s.extract 0 (quotesR (bytesU s)))).1, 0⟩, quotesR (bytesU s), 0) else (zTk, 0, 40)) := by simp only [quotR, ext_take, Hid]
  generalize quotesR (bytesU s) = z at *
  have HN := Lib.hid (fun W (hb : Below w.heap.size w W) => Unquote_any (s.extract 0 z) W (hT.below hb).toPre4 (by rw [ext_take, strN_size, List.length_take]; omega))
  have hz1 : (z : Int) ≤ (s.size : Int) := by omega
  obtain ⟨⟨nm, er⟩, hnv⟩ : ∃ r, unquoteS (s.extract 0 z) = r := ⟨_, rfl⟩
  rw [hnv] at HN HV
  simp only at HV
  clear hs hnv hT
  go_enter Tryz.func57, Tryz.ntmps57
  go_wp2_with fail
  refine (HRun.out w0).mono ?_
  rintro e w1 ⟨rfl, hb1⟩
  have HB1 := Lib.hid (HB0.out.trans (hb1.mono HB0.out.size))
  have HZ1 : Hid (Blk w1 w.heap.size 36 zTk.cs) := (hb1.block _ HL0.out).trans HZ0.out
  have HL1 : Hid (w.heap.size < w1.heap.size) := Nat.lt_of_lt_of_le HL0.out hb1.size
  clear hb1
  go_wp2_with fail
  refine (HN.out _ HB1.out).mono ?_
  rintro e w2 ⟨rfl, hb2⟩
  have HB2 := Lib.hid (HB1.out.trans (hb2.mono HB1.out.size))
  have HZ2 : Hid (Blk w2 w.heap.size 36 zTk.cs) := (hb2.block _ HL1.out).trans HZ1.out
  have HL2 : Hid (w.heap.size < w2.heap.size) := Nat.lt_of_lt_of_le HL1.out hb2.size
  clear hb2
  by_cases h0 : er = 0
  · subst h0
    rw [if_pos rfl] at HV
    obtain ⟨s1, s2, s3⟩ := tok_end (w := w) (⟨3, 0, nm, 0⟩ : Tk) HZ2.out HB2.out
    simp only [Tk.cs, zTk] at s1 s2 s3
    have S1 := Lib.hid s1
    have S2 := Lib.hid s2
    have S3 := Lib.hid s3
    clear s1 s2 s3
    go_wp2_with (first | (guard_target =~ wpList _ _ _ (Oper.mk _ (Op.store 36 _ _) _ _ _ _ :: _) _ _; refine wpList_skp rfl (exec_store rfl rfl rfl S1.out) ?_))
    refine bodyPost_ret (results_cell_tmp2 Tryz.results57 _ _ rfl rfl rfl S2.out) rfl ?_
    unfold RetF
    exact ⟨by rw [HV.out]; rfl, S3.out⟩
  · have q0 : (er != 0) = true := by simpa using h0
    rw [if_neg h0] at HV
    obtain ⟨s1, s2, s3⟩ := tok_end (w := w) zTk HZ2.out HB2.out
    simp only [Tk.cs, zTk] at s1 s2 s3
    have S1 := Lib.hid s1
    have S2 := Lib.hid s2
    have S3 := Lib.hid s3
    clear s1 s2 s3
    go_wp2_with (first | (guard_target =~ wpList _ _ _ (Oper.mk _ (Op.store 36 _ _) _ _ _ _ :: _) _ _; refine wpList_skp rfl (exec_store rfl rfl rfl S1.out) ?_))
    refine bodyPost_ret (results_cell_tmp2 Tryz.results57 _ _ rfl rfl rfl S2.out) rfl ?_
    unfold RetF
    exact ⟨by rw [HV.out]; rfl, S3.out⟩
end Go.Proofs.YtbnddpicpomakaaGreatDoor

/- The walks of token.blob, sign and front. -/
set_option linter.unusedSimpArgs false
set_option linter.unusedVariables false
set_option maxRecDepth 100000
namespace Go.Proofs.YtbnddpicpomakaaGreatDoor
open Go.RowKit

theorem bytes_ext (s : ByteArray) (a : Nat) : bytesU (s.extract a s.size) = (bytesU s).drop a := by
  rw [ext_str, List.take_of_length_le (by rw [bytesU_len]; omega)]
  exact bytes_strN fun c hc => bytesU_lt s c (List.mem_of_mem_drop hc)
theorem ext_size (s : ByteArray) (a : Nat) : (s.extract a s.size).size ≤ s.size := by
  have := congrArg List.length (bytes_ext s a)
  rw [bytesU_len, List.length_drop, bytesU_len] at this; omega
theorem unq_size (s : ByteArray) : (unquoteS s).1.size ≤ s.size := by
  unfold unquoteS unquoteL
  split
  · rename_i h
    show (baL (plainL s.data.toList)).size ≤ s.size
    rw [baL_size]
    have h1 := congrArg List.length h
    unfold quoteL at h1
    simp only [List.length_cons, List.length_append, List.length_nil] at h1
    have h2 := (dblL_len (plainL s.data.toList)).1
    have h3 : s.data.toList.length = s.size := by rw [Array.length_toList]; rfl
    omega
  · exact Nat.zero_le _
theorem quotR_tx (l : List Nat) : (quotR l).1.tx.size ≤ l.length ∧ (quotR l).2.1 ≤ l.length := by
  have h1 := quotesR_le l
  have h2 := unq_size (strN (l.take (quotesR l)))
  rw [strN_size, List.length_take] at h2
  simp only [quotR]
  split
  · exact ⟨by simp only; omega, by simp only; omega⟩
  · exact ⟨Nat.zero_le _, Nat.zero_le _⟩
theorem blobR_eq (l : List Nat) : blobR l = if (quotR (l.drop 1)).2.2 = 0 then (if (unhexV (bytesU (quotR (l.drop 1)).1.tx)).2 = true then (⟨4, 0, (unhexV (bytesU (quotR (l.drop 1)).1.tx)).1, 0⟩, 1 + (quotR (l.drop 1)).2.1, 0) else (zTk, 0, 40)) else (zTk, 0, (quotR (l.drop 1)).2.2) := by
  simp only [blobR, unhexV]
  split
  · obtain ⟨u, hu⟩ : ∃ u, unhexR (bytesU (quotR (l.drop 1)).1.tx) = u := ⟨_, rfl⟩
    simp only [hu]
    cases u <;> rfl
  · rfl

set_option maxHeartbeats 2000000 in
theorem tkBlob_any (s : ByteArray) (w : World) (hT : Pre6 w) (hs : s.size ≤ 400000) (h1 : 1 ≤ s.size) : Calls Tryz.prog 53 #[.string s] w (RetF (blobR (bytesU s)) w) := by
  obtain ⟨w0, hw0⟩ : ∃ w0, w.alloc (.cells #[.int .i64 0, .int .i64 0, .string ⟨#[]⟩, .int .i64 0] 36) = w0 := ⟨_, rfl⟩
  have hZ0 : Blk (w.alloc (.cells #[.int .i64 0, .int .i64 0, .string ⟨#[]⟩, .int .i64 0] 36)) w.heap.size 36 zTk.cs := zTk_blk w
  rw [hw0] at hZ0
  have HZ0 := Lib.hid hZ0
  have HB0 : Hid (Below w.heap.size w w0) := by rw [← hw0]; exact (Below.refl _ w).alloc (Nat.le_refl _) _
  have hlt0 : w.heap.size < w0.heap.size := by rw [← hw0]; simp
  have HL0 : Hid (w.heap.size < w0.heap.size) := hlt0
  clear hZ0 hlt0
  have hex := ext_size s 1
  have HQ := Lib.hid (fun W (hb : Below w.heap.size w W) => tkQuot_any (s.extract 1 s.size) W (hT.below hb) (by omega))
  have HV := Lib.hid (blobR_eq (bytesU s))
  have hq := quotR_tx ((bytesU s).drop 1)
  rw [List.length_drop, bytesU_len] at hq
  rw [bytes_ext] at HQ
  have HP := Lib.hid (fun W (hb : Below w.heap.size w W) => hT.below hb)
  obtain ⟨⟨⟨kd, at_, tx, n⟩, z, er⟩, hqr⟩ : ∃ r, quotR ((bytesU s).drop 1) = r := ⟨_, rfl⟩
  rw [hqr] at HQ HV hq
  simp only at HV hq
  have HB := Lib.hid (fun W (hb : Below w.heap.size w W) => bytesOf_any tx W (HP.out W hb) (by omega))
  obtain ⟨⟨bs, ok⟩, hbo⟩ : ∃ r, unhexV (bytesU tx) = r := ⟨_, rfl⟩
  rw [hbo] at HB HV
  simp only at HV
  have h1i : (1 : Int) ≤ (s.size : Int) := by omega
  have wz : IntKind.i64.wrap (1 + (z : Int)) = ((1 + z : Nat) : Int) := by rw [show (1 : Int) + (z : Int) = ((1 + z : Nat) : Int) by omega]; exact IntWalk.i64_in _ (by omega)
  clear hT hs hex hqr hbo hq HP
  unfold RetF at HQ
  simp only [Tk.cs] at HQ
  go_enter Tryz.func53, Tryz.ntmps53
  go_wp2_with fail
  refine (HQ.out w0 HB0.out).mono ?_
  rintro e w1 ⟨rfl, hb1⟩
  have HB1 := Lib.hid (HB0.out.trans (hb1.mono HB0.out.size))
  have HZ1 : Hid (Blk w1 w.heap.size 36 zTk.cs) := (hb1.block _ HL0.out).trans HZ0.out
  have HL1 : Hid (w.heap.size < w1.heap.size) := Nat.lt_of_lt_of_le HL0.out hb1.size
  clear hb1
  by_cases h0 : er = 0
  rotate_left
  · have q0 : (er != 0) = true := by simpa using h0
    rw [if_neg h0] at HV
    have hbA : Below w1.heap.size w1 (w1.alloc (.cells #[.int .i64 kd, .int .i64 at_, .string tx, .int .i64 n] 36)) := (Below.refl _ w1).alloc (Nat.le_refl _) _
    obtain ⟨w2, hw2⟩ : ∃ w2, w1.alloc (.cells #[.int .i64 kd, .int .i64 at_, .string tx, .int .i64 n] 36) = w2 := ⟨_, rfl⟩
    rw [hw2] at hbA
    have HB2 := Lib.hid (HB1.out.trans (hbA.mono HB1.out.size))
    have HZ2 : Hid (Blk w2 w.heap.size 36 zTk.cs) := (hbA.block _ HL1.out).trans HZ1.out
    clear hbA
    obtain ⟨s1, s2, s3⟩ := tok_end (w := w) zTk HZ2.out HB2.out
    simp only [Tk.cs, zTk] at s1 s2 s3
    have S1 := Lib.hid s1
    have S2 := Lib.hid s2
    have S3 := Lib.hid s3
    clear s1 s2 s3
    go_wp2_with (first | (guard_target =~ wpList _ _ _ (Oper.mk _ (Op.store 36 _ _) _ _ _ _ :: _) _ _; refine wpList_skp rfl (exec_store rfl rfl rfl S1.out) ?_))
    refine bodyPost_ret (results_cell_tmp2 Tryz.results53 _ _ rfl rfl rfl S2.out) rfl ?_
    unfold RetF
    exact ⟨by rw [HV.out]; rfl, S3.out⟩
  subst h0
  rw [if_pos rfl] at HV
  have hbA : Below w1.heap.size w1 (w1.alloc (.cells #[.int .i64 kd, .int .i64 at_, .string tx, .int .i64 n] 36)) := (Below.refl _ w1).alloc (Nat.le_refl _) _
  have c2 : (w1.alloc (.cells #[.int .i64 kd, .int .i64 at_, .string tx, .int .i64 n] 36)).cell? ⟨w1.heap.size, 2, none⟩ = some (.string tx) := by rw [World.cell?_alloc_at _ _ _ _ rfl]; rfl
  obtain ⟨w2, hw2⟩ : ∃ w2, w1.alloc (.cells #[.int .i64 kd, .int .i64 at_, .string tx, .int .i64 n] 36) = w2 := ⟨_, rfl⟩
  rw [hw2] at hbA c2
  have HB2 := Lib.hid (HB1.out.trans (hbA.mono HB1.out.size))
  have HZ2 : Hid (Blk w2 w.heap.size 36 zTk.cs) := (hbA.block _ HL1.out).trans HZ1.out
  have HL2 : Hid (w.heap.size < w2.heap.size) := Nat.lt_of_lt_of_le HL1.out hbA.size
  clear hbA
  go_wp2_with fail
  refine (HB.out _ HB2.out).mono ?_
  rintro e w3 ⟨rfl, hb3⟩
  have HB3 := Lib.hid (HB2.out.trans (hb3.mono HB2.out.size))
  have HZ3 : Hid (Blk w3 w.heap.size 36 zTk.cs) := (hb3.block _ HL2.out).trans HZ2.out
  have HL3 : Hid (w.heap.size < w3.heap.size) := Nat.lt_of_lt_of_le HL2.out hb3.size
  clear hb3
  clear c2
  cases ok with
  | true =>
    rw [if_pos rfl] at HV
    obtain ⟨s1, s2, s3⟩ := tok_end (w := w) (⟨4, 0, bs, 0⟩ : Tk) HZ3.out HB3.out
    simp only [Tk.cs, zTk] at s1 s2 s3
    have S1 := Lib.hid s1
    have S2 := Lib.hid s2
    have S3 := Lib.hid s3
    clear s1 s2 s3
    go_wp2_with (first | (guard_target =~ wpList _ _ _ (Oper.mk _ (Op.store 36 _ _) _ _ _ _ :: _) _ _; refine wpList_skp rfl (exec_store rfl rfl rfl S1.out) ?_))
    refine bodyPost_ret (results_cell_tmp2 Tryz.results53 _ _ rfl rfl rfl S2.out) rfl ?_
    unfold RetF
    exact ⟨by rw [HV.out]; rfl, S3.out⟩
  | false =>
    rw [if_neg (by simp)] at HV
    obtain ⟨s1, s2, s3⟩ := tok_end (w := w) zTk HZ3.out HB3.out
    simp only [Tk.cs, zTk] at s1 s2 s3
    have S1 := Lib.hid s1
    have S2 := Lib.hid s2
    have S3 := Lib.hid s3
    clear s1 s2 s3
    go_wp2_with (first | (guard_target =~ wpList _ _ _ (Oper.mk _ (Op.store 36 _ _) _ _ _ _ :: _) _ _; refine wpList_skp rfl (exec_store rfl rfl rfl S1.out) ?_))
    refine bodyPost_ret (results_cell_tmp2 Tryz.results53 _ _ rfl rfl rfl S2.out) rfl ?_
    unfold RetF
    exact ⟨by rw [HV.out]; rfl, S3.out⟩

def signG (xs : List (List Nat)) (l : List Nat) : FrR := match xs.find? (fun x => x.isPrefixOf l) with
  | some x => (⟨5, 0, strN x, 0⟩, x.length, 0)
  | none => (zTk, 0, 40)
theorem signG_yes {x : List Nat} {xs : List (List Nat)} {l : List Nat} (h : x.isPrefixOf l = true) : signG (x :: xs) l = (⟨5, 0, strN x, 0⟩, x.length, 0) := by
  unfold signG; rw [List.find?_cons_of_pos (by simpa using h)]
theorem signG_no {x : List Nat} {xs : List (List Nat)} {l : List Nat} (h : x.isPrefixOf l = false) : signG (x :: xs) l = signG xs l := by
  unfold signG; rw [List.find?_cons_of_neg (by simp [h])]
theorem pre_map : ∀ (x : List UInt8) (l : List UInt8), x.isPrefixOf l = (x.map UInt8.toNat).isPrefixOf (l.map UInt8.toNat)
  | [], l => by simp
  | a :: x, [] => rfl
  | a :: x, b :: l => by
    simp only [List.isPrefixOf, List.map_cons]
    rw [pre_map x l]
    congr 1
    rw [Bool.eq_iff_iff, beq_iff_eq, beq_iff_eq]
    exact ⟨fun h => by rw [h], fun h => UInt8.toNat_inj.1 h⟩
/-- A front, byte by byte. -/
theorem pre_any (s p : ByteArray) (W : World) : Calls Tryz.prog 52 #[.string s, .string p] W fun e w' => e = .returned (.bool ((bytesU p).isPrefixOf (bytesU s))) ∧ w' = W := by
  have := Any.strings_HasPrefix Tryz.laysHasP s p W
  refine Calls.mono this ?_
  rintro e w' ⟨rfl, rfl⟩
  exact ⟨by unfold Lib.hasPrefix bytesU; rw [pre_map], rfl⟩

theorem sgn0 (W : World) : (Instr.index 125 (.agg #[.string ⟨#[60, 61]⟩, .string ⟨#[62, 61]⟩, .string ⟨#[60, 62]⟩, .string ⟨#[124, 124]⟩, .string ⟨#[40]⟩, .string ⟨#[41]⟩, .string ⟨#[44]⟩, .string ⟨#[59]⟩, .string ⟨#[46]⟩, .string ⟨#[42]⟩, .string ⟨#[43]⟩, .string ⟨#[45]⟩, .string ⟨#[47]⟩, .string ⟨#[37]⟩, .string ⟨#[61]⟩, .string ⟨#[60]⟩, .string ⟨#[62]⟩]) (.int .i64 0)).run Tryz.prog W = .ok (.string ⟨#[60, 61]⟩) W := by rfl
theorem sgn1 (W : World) : (Instr.index 125 (.agg #[.string ⟨#[60, 61]⟩, .string ⟨#[62, 61]⟩, .string ⟨#[60, 62]⟩, .string ⟨#[124, 124]⟩, .string ⟨#[40]⟩, .string ⟨#[41]⟩, .string ⟨#[44]⟩, .string ⟨#[59]⟩, .string ⟨#[46]⟩, .string ⟨#[42]⟩, .string ⟨#[43]⟩, .string ⟨#[45]⟩, .string ⟨#[47]⟩, .string ⟨#[37]⟩, .string ⟨#[61]⟩, .string ⟨#[60]⟩, .string ⟨#[62]⟩]) (.int .i64 1)).run Tryz.prog W = .ok (.string ⟨#[62, 61]⟩) W := by rfl
theorem sgn2 (W : World) : (Instr.index 125 (.agg #[.string ⟨#[60, 61]⟩, .string ⟨#[62, 61]⟩, .string ⟨#[60, 62]⟩, .string ⟨#[124, 124]⟩, .string ⟨#[40]⟩, .string ⟨#[41]⟩, .string ⟨#[44]⟩, .string ⟨#[59]⟩, .string ⟨#[46]⟩, .string ⟨#[42]⟩, .string ⟨#[43]⟩, .string ⟨#[45]⟩, .string ⟨#[47]⟩, .string ⟨#[37]⟩, .string ⟨#[61]⟩, .string ⟨#[60]⟩, .string ⟨#[62]⟩]) (.int .i64 2)).run Tryz.prog W = .ok (.string ⟨#[60, 62]⟩) W := by rfl
theorem sgn3 (W : World) : (Instr.index 125 (.agg #[.string ⟨#[60, 61]⟩, .string ⟨#[62, 61]⟩, .string ⟨#[60, 62]⟩, .string ⟨#[124, 124]⟩, .string ⟨#[40]⟩, .string ⟨#[41]⟩, .string ⟨#[44]⟩, .string ⟨#[59]⟩, .string ⟨#[46]⟩, .string ⟨#[42]⟩, .string ⟨#[43]⟩, .string ⟨#[45]⟩, .string ⟨#[47]⟩, .string ⟨#[37]⟩, .string ⟨#[61]⟩, .string ⟨#[60]⟩, .string ⟨#[62]⟩]) (.int .i64 3)).run Tryz.prog W = .ok (.string ⟨#[124, 124]⟩) W := by rfl
theorem sgn4 (W : World) : (Instr.index 125 (.agg #[.string ⟨#[60, 61]⟩, .string ⟨#[62, 61]⟩, .string ⟨#[60, 62]⟩, .string ⟨#[124, 124]⟩, .string ⟨#[40]⟩, .string ⟨#[41]⟩, .string ⟨#[44]⟩, .string ⟨#[59]⟩, .string ⟨#[46]⟩, .string ⟨#[42]⟩, .string ⟨#[43]⟩, .string ⟨#[45]⟩, .string ⟨#[47]⟩, .string ⟨#[37]⟩, .string ⟨#[61]⟩, .string ⟨#[60]⟩, .string ⟨#[62]⟩]) (.int .i64 4)).run Tryz.prog W = .ok (.string ⟨#[40]⟩) W := by rfl
theorem sgn5 (W : World) : (Instr.index 125 (.agg #[.string ⟨#[60, 61]⟩, .string ⟨#[62, 61]⟩, .string ⟨#[60, 62]⟩, .string ⟨#[124, 124]⟩, .string ⟨#[40]⟩, .string ⟨#[41]⟩, .string ⟨#[44]⟩, .string ⟨#[59]⟩, .string ⟨#[46]⟩, .string ⟨#[42]⟩, .string ⟨#[43]⟩, .string ⟨#[45]⟩, .string ⟨#[47]⟩, .string ⟨#[37]⟩, .string ⟨#[61]⟩, .string ⟨#[60]⟩, .string ⟨#[62]⟩]) (.int .i64 5)).run Tryz.prog W = .ok (.string ⟨#[41]⟩) W := by rfl
theorem sgn6 (W : World) : (Instr.index 125 (.agg #[.string ⟨#[60, 61]⟩, .string ⟨#[62, 61]⟩, .string ⟨#[60, 62]⟩, .string ⟨#[124, 124]⟩, .string ⟨#[40]⟩, .string ⟨#[41]⟩, .string ⟨#[44]⟩, .string ⟨#[59]⟩, .string ⟨#[46]⟩, .string ⟨#[42]⟩, .string ⟨#[43]⟩, .string ⟨#[45]⟩, .string ⟨#[47]⟩, .string ⟨#[37]⟩, .string ⟨#[61]⟩, .string ⟨#[60]⟩, .string ⟨#[62]⟩]) (.int .i64 6)).run Tryz.prog W = .ok (.string ⟨#[44]⟩) W := by rfl
theorem sgn7 (W : World) : (Instr.index 125 (.agg #[.string ⟨#[60, 61]⟩, .string ⟨#[62, 61]⟩, .string ⟨#[60, 62]⟩, .string ⟨#[124, 124]⟩, .string ⟨#[40]⟩, .string ⟨#[41]⟩, .string ⟨#[44]⟩, .string ⟨#[59]⟩, .string ⟨#[46]⟩, .string ⟨#[42]⟩, .string ⟨#[43]⟩, .string ⟨#[45]⟩, .string ⟨#[47]⟩, .string ⟨#[37]⟩, .string ⟨#[61]⟩, .string ⟨#[60]⟩, .string ⟨#[62]⟩]) (.int .i64 7)).run Tryz.prog W = .ok (.string ⟨#[59]⟩) W := by rfl
theorem sgn8 (W : World) : (Instr.index 125 (.agg #[.string ⟨#[60, 61]⟩, .string ⟨#[62, 61]⟩, .string ⟨#[60, 62]⟩, .string ⟨#[124, 124]⟩, .string ⟨#[40]⟩, .string ⟨#[41]⟩, .string ⟨#[44]⟩, .string ⟨#[59]⟩, .string ⟨#[46]⟩, .string ⟨#[42]⟩, .string ⟨#[43]⟩, .string ⟨#[45]⟩, .string ⟨#[47]⟩, .string ⟨#[37]⟩, .string ⟨#[61]⟩, .string ⟨#[60]⟩, .string ⟨#[62]⟩]) (.int .i64 8)).run Tryz.prog W = .ok (.string ⟨#[46]⟩) W := by rfl
theorem sgn9 (W : World) : (Instr.index 125 (.agg #[.string ⟨#[60, 61]⟩, .string ⟨#[62, 61]⟩, .string ⟨#[60, 62]⟩, .string ⟨#[124, 124]⟩, .string ⟨#[40]⟩, .string ⟨#[41]⟩, .string ⟨#[44]⟩, .string ⟨#[59]⟩, .string ⟨#[46]⟩, .string ⟨#[42]⟩, .string ⟨#[43]⟩, .string ⟨#[45]⟩, .string ⟨#[47]⟩, .string ⟨#[37]⟩, .string ⟨#[61]⟩, .string ⟨#[60]⟩, .string ⟨#[62]⟩]) (.int .i64 9)).run Tryz.prog W = .ok (.string ⟨#[42]⟩) W := by rfl
theorem sgn10 (W : World) : (Instr.index 125 (.agg #[.string ⟨#[60, 61]⟩, .string ⟨#[62, 61]⟩, .string ⟨#[60, 62]⟩, .string ⟨#[124, 124]⟩, .string ⟨#[40]⟩, .string ⟨#[41]⟩, .string ⟨#[44]⟩, .string ⟨#[59]⟩, .string ⟨#[46]⟩, .string ⟨#[42]⟩, .string ⟨#[43]⟩, .string ⟨#[45]⟩, .string ⟨#[47]⟩, .string ⟨#[37]⟩, .string ⟨#[61]⟩, .string ⟨#[60]⟩, .string ⟨#[62]⟩]) (.int .i64 10)).run Tryz.prog W = .ok (.string ⟨#[43]⟩) W := by rfl
theorem sgn11 (W : World) : (Instr.index 125 (.agg #[.string ⟨#[60, 61]⟩, .string ⟨#[62, 61]⟩, .string ⟨#[60, 62]⟩, .string ⟨#[124, 124]⟩, .string ⟨#[40]⟩, .string ⟨#[41]⟩, .string ⟨#[44]⟩, .string ⟨#[59]⟩, .string ⟨#[46]⟩, .string ⟨#[42]⟩, .string ⟨#[43]⟩, .string ⟨#[45]⟩, .string ⟨#[47]⟩, .string ⟨#[37]⟩, .string ⟨#[61]⟩, .string ⟨#[60]⟩, .string ⟨#[62]⟩]) (.int .i64 11)).run Tryz.prog W = .ok (.string ⟨#[45]⟩) W := by rfl
theorem sgn12 (W : World) : (Instr.index 125 (.agg #[.string ⟨#[60, 61]⟩, .string ⟨#[62, 61]⟩, .string ⟨#[60, 62]⟩, .string ⟨#[124, 124]⟩, .string ⟨#[40]⟩, .string ⟨#[41]⟩, .string ⟨#[44]⟩, .string ⟨#[59]⟩, .string ⟨#[46]⟩, .string ⟨#[42]⟩, .string ⟨#[43]⟩, .string ⟨#[45]⟩, .string ⟨#[47]⟩, .string ⟨#[37]⟩, .string ⟨#[61]⟩, .string ⟨#[60]⟩, .string ⟨#[62]⟩]) (.int .i64 12)).run Tryz.prog W = .ok (.string ⟨#[47]⟩) W := by rfl
theorem sgn13 (W : World) : (Instr.index 125 (.agg #[.string ⟨#[60, 61]⟩, .string ⟨#[62, 61]⟩, .string ⟨#[60, 62]⟩, .string ⟨#[124, 124]⟩, .string ⟨#[40]⟩, .string ⟨#[41]⟩, .string ⟨#[44]⟩, .string ⟨#[59]⟩, .string ⟨#[46]⟩, .string ⟨#[42]⟩, .string ⟨#[43]⟩, .string ⟨#[45]⟩, .string ⟨#[47]⟩, .string ⟨#[37]⟩, .string ⟨#[61]⟩, .string ⟨#[60]⟩, .string ⟨#[62]⟩]) (.int .i64 13)).run Tryz.prog W = .ok (.string ⟨#[37]⟩) W := by rfl
theorem sgn14 (W : World) : (Instr.index 125 (.agg #[.string ⟨#[60, 61]⟩, .string ⟨#[62, 61]⟩, .string ⟨#[60, 62]⟩, .string ⟨#[124, 124]⟩, .string ⟨#[40]⟩, .string ⟨#[41]⟩, .string ⟨#[44]⟩, .string ⟨#[59]⟩, .string ⟨#[46]⟩, .string ⟨#[42]⟩, .string ⟨#[43]⟩, .string ⟨#[45]⟩, .string ⟨#[47]⟩, .string ⟨#[37]⟩, .string ⟨#[61]⟩, .string ⟨#[60]⟩, .string ⟨#[62]⟩]) (.int .i64 14)).run Tryz.prog W = .ok (.string ⟨#[61]⟩) W := by rfl
theorem sgn15 (W : World) : (Instr.index 125 (.agg #[.string ⟨#[60, 61]⟩, .string ⟨#[62, 61]⟩, .string ⟨#[60, 62]⟩, .string ⟨#[124, 124]⟩, .string ⟨#[40]⟩, .string ⟨#[41]⟩, .string ⟨#[44]⟩, .string ⟨#[59]⟩, .string ⟨#[46]⟩, .string ⟨#[42]⟩, .string ⟨#[43]⟩, .string ⟨#[45]⟩, .string ⟨#[47]⟩, .string ⟨#[37]⟩, .string ⟨#[61]⟩, .string ⟨#[60]⟩, .string ⟨#[62]⟩]) (.int .i64 15)).run Tryz.prog W = .ok (.string ⟨#[60]⟩) W := by rfl
theorem sgn16 (W : World) : (Instr.index 125 (.agg #[.string ⟨#[60, 61]⟩, .string ⟨#[62, 61]⟩, .string ⟨#[60, 62]⟩, .string ⟨#[124, 124]⟩, .string ⟨#[40]⟩, .string ⟨#[41]⟩, .string ⟨#[44]⟩, .string ⟨#[59]⟩, .string ⟨#[46]⟩, .string ⟨#[42]⟩, .string ⟨#[43]⟩, .string ⟨#[45]⟩, .string ⟨#[47]⟩, .string ⟨#[37]⟩, .string ⟨#[61]⟩, .string ⟨#[60]⟩, .string ⟨#[62]⟩]) (.int .i64 16)).run Tryz.prog W = .ok (.string ⟨#[62]⟩) W := by rfl
set_option maxHeartbeats 8000000 in
theorem tkSign_any (s : ByteArray) (w : World) : Calls Tryz.prog 58 #[.string s] w (RetF (signR (bytesU s)) w) := by
  obtain ⟨w0, hw0⟩ : ∃ w0, w.alloc (.cells #[.int .i64 0, .int .i64 0, .string ⟨#[]⟩, .int .i64 0] 36) = w0 := ⟨_, rfl⟩
  have hZ0 : Blk (w.alloc (.cells #[.int .i64 0, .int .i64 0, .string ⟨#[]⟩, .int .i64 0] 36)) w.heap.size 36 zTk.cs := zTk_blk w
  rw [hw0] at hZ0
  have HZ0 := Lib.hid hZ0
  have HB0 : Hid (Below w.heap.size w w0) := by rw [← hw0]; exact (Below.refl _ w).alloc (Nat.le_refl _) _
  have hlt0 : w.heap.size < w0.heap.size := by rw [← hw0]; simp
  have HL0 : Hid (w.heap.size < w0.heap.size) := hlt0
  clear hZ0 hlt0
  have HPx := Lib.hid (fun p W => pre_any s p W)
  have HI0 : Hid (signR (bytesU s) = signG signsR (bytesU s)) := rfl
  generalize signR (bytesU s) = R at *
  generalize bytesU s = l at *
  obtain ⟨pf, hpf⟩ : ∃ pf : ByteArray → Bool, ∀ p, (bytesU p).isPrefixOf l = pf p := ⟨_, fun _ => rfl⟩
  have HPf := Lib.hid hpf
  have HPy : Hid (∀ p W, Calls Tryz.prog 52 #[.string s, .string p] W fun e w' => e = .returned (.bool (pf p)) ∧ w' = W) := fun p W => by rw [← hpf]; exact HPx.out p W
  clear hpf HPx
  go_enter Tryz.func58, Tryz.ntmps58
  go_wp2
  go_loopw [10] (fun i wr => ∃ (k : Nat) (K : Int), k ≤ 17 ∧ i = .int .i64 K ∧ K = (k : Int) ∧ Hid (Blk wr w.heap.size 36 zTk.cs) ∧ Hid (Below w.heap.size w wr) ∧ Hid (R = signG (signsR.drop k) l)) (fun i _ => 17 - (intOf i).toNat)
  case atStart =>
    refine ⟨0, 0, by omega, rfl, rfl, ?_, ?_, HI0.out⟩
    · exact (Below.heap_alloc w0 _ _ HL0.out).trans HZ0.out
    · exact HB0.out.trans (((Below.refl w0.heap.size w0).alloc (Nat.le_refl _) _).mono HB0.out.size)
  case round =>
    obtain ⟨k, K, hk, rfl, hK, HZ, HB, HI⟩ := hrel
    have hk17 : k = 0 ∨ k = 1 ∨ k = 2 ∨ k = 3 ∨ k = 4 ∨ k = 5 ∨ k = 6 ∨ k = 7 ∨ k = 8 ∨ k = 9 ∨ k = 10 ∨ k = 11 ∨ k = 12 ∨ k = 13 ∨ k = 14 ∨ k = 15 ∨ k = 16 ∨ k = 17 := by omega
    clear hk
    rcases hk17 with rfl | rfl | rfl | rfl | rfl | rfl | rfl | rfl | rfl | rfl | rfl | rfl | rfl | rfl | rfl | rfl | rfl | rfl
    · obtain rfl : K = 0 := by omega
      clear hK
      have hix := sgn0
      cases ht : pf ⟨#[60, 61]⟩ with
      | true =>
        have HV : Hid (R = (⟨5, 0, strN [60, 61], 0⟩, 2, 0)) := HI.out.trans (signG_yes (x := [60, 61]) ((HPf.out ⟨#[60, 61]⟩).trans ht))
        clear HI
        go_wp2_with fail
        refine (HPy.out _ _).mono ?_
        rintro e w1 ⟨rfl, rfl⟩
        obtain ⟨s1, s2, s3⟩ := tok_end (w := w) (W := w1) (⟨5, 0, ⟨#[60, 61]⟩, 0⟩ : Tk) HZ.out HB.out
        simp only [Tk.cs, zTk] at s1 s2 s3
        have S1 := Lib.hid s1
        have S2 := Lib.hid s2
        have S3 := Lib.hid s3
        clear s1 s2 s3
        go_wp2_with (first | (guard_target =~ wpList _ _ _ (Oper.mk _ (Op.store 36 _ _) _ _ _ _ :: _) _ _; refine wpList_skp rfl (exec_store rfl rfl rfl S1.out) ?_))
        refine bodyPost_ret (results_cell_tmp2 Tryz.results58 _ _ rfl rfl rfl S2.out) rfl ?_
        unfold RetF
        exact ⟨by rw [HV.out]; rfl, S3.out⟩
      | false =>
        have HI2 : Hid (R = signG (signsR.drop 1) l) := HI.out.trans (signG_no (x := [60, 61]) ((HPf.out ⟨#[60, 61]⟩).trans ht))
        clear HI
        go_wp2_with fail
        refine (HPy.out _ _).mono ?_
        rintro e w1 ⟨rfl, rfl⟩
        go_wp2
        go_roundw
        case rel => exact ⟨1, 1, by omega, by go_num, rfl, HZ.out, HB.out, HI2.out⟩
        case measure => simp [intOf]
    · obtain rfl : K = 1 := by omega
      clear hK
      have hix := sgn1
      cases ht : pf ⟨#[62, 61]⟩ with
      | true =>
        have HV : Hid (R = (⟨5, 0, strN [62, 61], 0⟩, 2, 0)) := HI.out.trans (signG_yes (x := [62, 61]) ((HPf.out ⟨#[62, 61]⟩).trans ht))
        clear HI
        go_wp2_with fail
        refine (HPy.out _ _).mono ?_
        rintro e w1 ⟨rfl, rfl⟩
        obtain ⟨s1, s2, s3⟩ := tok_end (w := w) (W := w1) (⟨5, 0, ⟨#[62, 61]⟩, 0⟩ : Tk) HZ.out HB.out
        simp only [Tk.cs, zTk] at s1 s2 s3
        have S1 := Lib.hid s1
        have S2 := Lib.hid s2
        have S3 := Lib.hid s3
        clear s1 s2 s3
        go_wp2_with (first | (guard_target =~ wpList _ _ _ (Oper.mk _ (Op.store 36 _ _) _ _ _ _ :: _) _ _; refine wpList_skp rfl (exec_store rfl rfl rfl S1.out) ?_))
        refine bodyPost_ret (results_cell_tmp2 Tryz.results58 _ _ rfl rfl rfl S2.out) rfl ?_
        unfold RetF
        exact ⟨by rw [HV.out]; rfl, S3.out⟩
      | false =>
        have HI2 : Hid (R = signG (signsR.drop 2) l) := HI.out.trans (signG_no (x := [62, 61]) ((HPf.out ⟨#[62, 61]⟩).trans ht))
        clear HI
        go_wp2_with fail
        refine (HPy.out _ _).mono ?_
        rintro e w1 ⟨rfl, rfl⟩
        go_wp2
        go_roundw
        case rel => exact ⟨2, 2, by omega, by go_num, rfl, HZ.out, HB.out, HI2.out⟩
        case measure => simp [intOf]
    · obtain rfl : K = 2 := by omega
      clear hK
      have hix := sgn2
      cases ht : pf ⟨#[60, 62]⟩ with
      | true =>
        have HV : Hid (R = (⟨5, 0, strN [60, 62], 0⟩, 2, 0)) := HI.out.trans (signG_yes (x := [60, 62]) ((HPf.out ⟨#[60, 62]⟩).trans ht))
        clear HI
        go_wp2_with fail
        refine (HPy.out _ _).mono ?_
        rintro e w1 ⟨rfl, rfl⟩
        obtain ⟨s1, s2, s3⟩ := tok_end (w := w) (W := w1) (⟨5, 0, ⟨#[60, 62]⟩, 0⟩ : Tk) HZ.out HB.out
        simp only [Tk.cs, zTk] at s1 s2 s3
        have S1 := Lib.hid s1
        have S2 := Lib.hid s2
        have S3 := Lib.hid s3
        clear s1 s2 s3
        go_wp2_with (first | (guard_target =~ wpList _ _ _ (Oper.mk _ (Op.store 36 _ _) _ _ _ _ :: _) _ _; refine wpList_skp rfl (exec_store rfl rfl rfl S1.out) ?_))
        refine bodyPost_ret (results_cell_tmp2 Tryz.results58 _ _ rfl rfl rfl S2.out) rfl ?_
        unfold RetF
        exact ⟨by rw [HV.out]; rfl, S3.out⟩
      | false =>
        have HI2 : Hid (R = signG (signsR.drop 3) l) := HI.out.trans (signG_no (x := [60, 62]) ((HPf.out ⟨#[60, 62]⟩).trans ht))
        clear HI
        go_wp2_with fail
        refine (HPy.out _ _).mono ?_
        rintro e w1 ⟨rfl, rfl⟩
        go_wp2
        go_roundw
        case rel => exact ⟨3, 3, by omega, by go_num, rfl, HZ.out, HB.out, HI2.out⟩
        case measure => simp [intOf]
    · obtain rfl : K = 3 := by omega
      clear hK
      have hix := sgn3
      cases ht : pf ⟨#[124, 124]⟩ with
      | true =>
        have HV : Hid (R = (⟨5, 0, strN [124, 124], 0⟩, 2, 0)) := HI.out.trans (signG_yes (x := [124, 124]) ((HPf.out ⟨#[124, 124]⟩).trans ht))
        clear HI
        go_wp2_with fail
        refine (HPy.out _ _).mono ?_
        rintro e w1 ⟨rfl, rfl⟩
        obtain ⟨s1, s2, s3⟩ := tok_end (w := w) (W := w1) (⟨5, 0, ⟨#[124, 124]⟩, 0⟩ : Tk) HZ.out HB.out
        simp only [Tk.cs, zTk] at s1 s2 s3
        have S1 := Lib.hid s1
        have S2 := Lib.hid s2
        have S3 := Lib.hid s3
        clear s1 s2 s3
        go_wp2_with (first | (guard_target =~ wpList _ _ _ (Oper.mk _ (Op.store 36 _ _) _ _ _ _ :: _) _ _; refine wpList_skp rfl (exec_store rfl rfl rfl S1.out) ?_))
        refine bodyPost_ret (results_cell_tmp2 Tryz.results58 _ _ rfl rfl rfl S2.out) rfl ?_
        unfold RetF
        exact ⟨by rw [HV.out]; rfl, S3.out⟩
      | false =>
        have HI2 : Hid (R = signG (signsR.drop 4) l) := HI.out.trans (signG_no (x := [124, 124]) ((HPf.out ⟨#[124, 124]⟩).trans ht))
        clear HI
        go_wp2_with fail
        refine (HPy.out _ _).mono ?_
        rintro e w1 ⟨rfl, rfl⟩
        go_wp2
        go_roundw
        case rel => exact ⟨4, 4, by omega, by go_num, rfl, HZ.out, HB.out, HI2.out⟩
        case measure => simp [intOf]
    · obtain rfl : K = 4 := by omega
      clear hK
      have hix := sgn4
      cases ht : pf ⟨#[40]⟩ with
      | true =>
        have HV : Hid (R = (⟨5, 0, strN [40], 0⟩, 1, 0)) := HI.out.trans (signG_yes (x := [40]) ((HPf.out ⟨#[40]⟩).trans ht))
        clear HI
        go_wp2_with fail
        refine (HPy.out _ _).mono ?_
        rintro e w1 ⟨rfl, rfl⟩
        obtain ⟨s1, s2, s3⟩ := tok_end (w := w) (W := w1) (⟨5, 0, ⟨#[40]⟩, 0⟩ : Tk) HZ.out HB.out
        simp only [Tk.cs, zTk] at s1 s2 s3
        have S1 := Lib.hid s1
        have S2 := Lib.hid s2
        have S3 := Lib.hid s3
        clear s1 s2 s3
        go_wp2_with (first | (guard_target =~ wpList _ _ _ (Oper.mk _ (Op.store 36 _ _) _ _ _ _ :: _) _ _; refine wpList_skp rfl (exec_store rfl rfl rfl S1.out) ?_))
        refine bodyPost_ret (results_cell_tmp2 Tryz.results58 _ _ rfl rfl rfl S2.out) rfl ?_
        unfold RetF
        exact ⟨by rw [HV.out]; rfl, S3.out⟩
      | false =>
        have HI2 : Hid (R = signG (signsR.drop 5) l) := HI.out.trans (signG_no (x := [40]) ((HPf.out ⟨#[40]⟩).trans ht))
        clear HI
        go_wp2_with fail
        refine (HPy.out _ _).mono ?_
        rintro e w1 ⟨rfl, rfl⟩
        go_wp2
        go_roundw
        case rel => exact ⟨5, 5, by omega, by go_num, rfl, HZ.out, HB.out, HI2.out⟩
        case measure => simp [intOf]
    · obtain rfl : K = 5 := by omega
      clear hK
      have hix := sgn5
      cases ht : pf ⟨#[41]⟩ with
      | true =>
        have HV : Hid (R = (⟨5, 0, strN [41], 0⟩, 1, 0)) := HI.out.trans (signG_yes (x := [41]) ((HPf.out ⟨#[41]⟩).trans ht))
        clear HI
        go_wp2_with fail
        refine (HPy.out _ _).mono ?_
        rintro e w1 ⟨rfl, rfl⟩
        obtain ⟨s1, s2, s3⟩ := tok_end (w := w) (W := w1) (⟨5, 0, ⟨#[41]⟩, 0⟩ : Tk) HZ.out HB.out
        simp only [Tk.cs, zTk] at s1 s2 s3
        have S1 := Lib.hid s1
        have S2 := Lib.hid s2
        have S3 := Lib.hid s3
        clear s1 s2 s3
        go_wp2_with (first | (guard_target =~ wpList _ _ _ (Oper.mk _ (Op.store 36 _ _) _ _ _ _ :: _) _ _; refine wpList_skp rfl (exec_store rfl rfl rfl S1.out) ?_))
        refine bodyPost_ret (results_cell_tmp2 Tryz.results58 _ _ rfl rfl rfl S2.out) rfl ?_
        unfold RetF
        exact ⟨by rw [HV.out]; rfl, S3.out⟩
      | false =>
        have HI2 : Hid (R = signG (signsR.drop 6) l) := HI.out.trans (signG_no (x := [41]) ((HPf.out ⟨#[41]⟩).trans ht))
        clear HI
        go_wp2_with fail
        refine (HPy.out _ _).mono ?_
        rintro e w1 ⟨rfl, rfl⟩
        go_wp2
        go_roundw
        case rel => exact ⟨6, 6, by omega, by go_num, rfl, HZ.out, HB.out, HI2.out⟩
        case measure => simp [intOf]
    · obtain rfl : K = 6 := by omega
      clear hK
      have hix := sgn6
      cases ht : pf ⟨#[44]⟩ with
      | true =>
        have HV : Hid (R = (⟨5, 0, strN [44], 0⟩, 1, 0)) := HI.out.trans (signG_yes (x := [44]) ((HPf.out ⟨#[44]⟩).trans ht))
        clear HI
        go_wp2_with fail
        refine (HPy.out _ _).mono ?_
        rintro e w1 ⟨rfl, rfl⟩
        obtain ⟨s1, s2, s3⟩ := tok_end (w := w) (W := w1) (⟨5, 0, ⟨#[44]⟩, 0⟩ : Tk) HZ.out HB.out
        simp only [Tk.cs, zTk] at s1 s2 s3
        have S1 := Lib.hid s1
        have S2 := Lib.hid s2
        have S3 := Lib.hid s3
        clear s1 s2 s3
        go_wp2_with (first | (guard_target =~ wpList _ _ _ (Oper.mk _ (Op.store 36 _ _) _ _ _ _ :: _) _ _; refine wpList_skp rfl (exec_store rfl rfl rfl S1.out) ?_))
        refine bodyPost_ret (results_cell_tmp2 Tryz.results58 _ _ rfl rfl rfl S2.out) rfl ?_
        unfold RetF
        exact ⟨by rw [HV.out]; rfl, S3.out⟩
      | false =>
        have HI2 : Hid (R = signG (signsR.drop 7) l) := HI.out.trans (signG_no (x := [44]) ((HPf.out ⟨#[44]⟩).trans ht))
        clear HI
        go_wp2_with fail
        refine (HPy.out _ _).mono ?_
        rintro e w1 ⟨rfl, rfl⟩
        go_wp2
        go_roundw
        case rel => exact ⟨7, 7, by omega, by go_num, rfl, HZ.out, HB.out, HI2.out⟩
        case measure => simp [intOf]
    · obtain rfl : K = 7 := by omega
      clear hK
      have hix := sgn7
      cases ht : pf ⟨#[59]⟩ with
      | true =>
        have HV : Hid (R = (⟨5, 0, strN [59], 0⟩, 1, 0)) := HI.out.trans (signG_yes (x := [59]) ((HPf.out ⟨#[59]⟩).trans ht))
        clear HI
        go_wp2_with fail
        refine (HPy.out _ _).mono ?_
        rintro e w1 ⟨rfl, rfl⟩
        obtain ⟨s1, s2, s3⟩ := tok_end (w := w) (W := w1) (⟨5, 0, ⟨#[59]⟩, 0⟩ : Tk) HZ.out HB.out
        simp only [Tk.cs, zTk] at s1 s2 s3
        have S1 := Lib.hid s1
        have S2 := Lib.hid s2
        have S3 := Lib.hid s3
        clear s1 s2 s3
        go_wp2_with (first | (guard_target =~ wpList _ _ _ (Oper.mk _ (Op.store 36 _ _) _ _ _ _ :: _) _ _; refine wpList_skp rfl (exec_store rfl rfl rfl S1.out) ?_))
        refine bodyPost_ret (results_cell_tmp2 Tryz.results58 _ _ rfl rfl rfl S2.out) rfl ?_
        unfold RetF
        exact ⟨by rw [HV.out]; rfl, S3.out⟩
      | false =>
        have HI2 : Hid (R = signG (signsR.drop 8) l) := HI.out.trans (signG_no (x := [59]) ((HPf.out ⟨#[59]⟩).trans ht))
        clear HI
        go_wp2_with fail
        refine (HPy.out _ _).mono ?_
        rintro e w1 ⟨rfl, rfl⟩
        go_wp2
        go_roundw
        case rel => exact ⟨8, 8, by omega, by go_num, rfl, HZ.out, HB.out, HI2.out⟩
        case measure => simp [intOf]
    · obtain rfl : K = 8 := by omega
      clear hK
      have hix := sgn8
      cases ht : pf ⟨#[46]⟩ with
      | true =>
        have HV : Hid (R = (⟨5, 0, strN [46], 0⟩, 1, 0)) := HI.out.trans (signG_yes (x := [46]) ((HPf.out ⟨#[46]⟩).trans ht))
        clear HI
        go_wp2_with fail
        refine (HPy.out _ _).mono ?_
        rintro e w1 ⟨rfl, rfl⟩
        obtain ⟨s1, s2, s3⟩ := tok_end (w := w) (W := w1) (⟨5, 0, ⟨#[46]⟩, 0⟩ : Tk) HZ.out HB.out
        simp only [Tk.cs, zTk] at s1 s2 s3
        have S1 := Lib.hid s1
        have S2 := Lib.hid s2
        have S3 := Lib.hid s3
        clear s1 s2 s3
        go_wp2_with (first | (guard_target =~ wpList _ _ _ (Oper.mk _ (Op.store 36 _ _) _ _ _ _ :: _) _ _; refine wpList_skp rfl (exec_store rfl rfl rfl S1.out) ?_))
        refine bodyPost_ret (results_cell_tmp2 Tryz.results58 _ _ rfl rfl rfl S2.out) rfl ?_
        unfold RetF
        exact ⟨by rw [HV.out]; rfl, S3.out⟩
      | false =>
        have HI2 : Hid (R = signG (signsR.drop 9) l) := HI.out.trans (signG_no (x := [46]) ((HPf.out ⟨#[46]⟩).trans ht))
        clear HI
        go_wp2_with fail
        refine (HPy.out _ _).mono ?_
        rintro e w1 ⟨rfl, rfl⟩
        go_wp2
        go_roundw
        case rel => exact ⟨9, 9, by omega, by go_num, rfl, HZ.out, HB.out, HI2.out⟩
        case measure => simp [intOf]
    · obtain rfl : K = 9 := by omega
      clear hK
      have hix := sgn9
      cases ht : pf ⟨#[42]⟩ with
      | true =>
        have HV : Hid (R = (⟨5, 0, strN [42], 0⟩, 1, 0)) := HI.out.trans (signG_yes (x := [42]) ((HPf.out ⟨#[42]⟩).trans ht))
        clear HI
        go_wp2_with fail
        refine (HPy.out _ _).mono ?_
        rintro e w1 ⟨rfl, rfl⟩
        obtain ⟨s1, s2, s3⟩ := tok_end (w := w) (W := w1) (⟨5, 0, ⟨#[42]⟩, 0⟩ : Tk) HZ.out HB.out
        simp only [Tk.cs, zTk] at s1 s2 s3
        have S1 := Lib.hid s1
        have S2 := Lib.hid s2
        have S3 := Lib.hid s3
        clear s1 s2 s3
        go_wp2_with (first | (guard_target =~ wpList _ _ _ (Oper.mk _ (Op.store 36 _ _) _ _ _ _ :: _) _ _; refine wpList_skp rfl (exec_store rfl rfl rfl S1.out) ?_))
        refine bodyPost_ret (results_cell_tmp2 Tryz.results58 _ _ rfl rfl rfl S2.out) rfl ?_
        unfold RetF
        exact ⟨by rw [HV.out]; rfl, S3.out⟩
      | false =>
        have HI2 : Hid (R = signG (signsR.drop 10) l) := HI.out.trans (signG_no (x := [42]) ((HPf.out ⟨#[42]⟩).trans ht))
        clear HI
        go_wp2_with fail
        refine (HPy.out _ _).mono ?_
        rintro e w1 ⟨rfl, rfl⟩
        go_wp2
        go_roundw
        case rel => exact ⟨10, 10, by omega, by go_num, rfl, HZ.out, HB.out, HI2.out⟩
        case measure => simp [intOf]
    · obtain rfl : K = 10 := by omega
      clear hK
      have hix := sgn10
      cases ht : pf ⟨#[43]⟩ with
      | true =>
        have HV : Hid (R = (⟨5, 0, strN [43], 0⟩, 1, 0)) := HI.out.trans (signG_yes (x := [43]) ((HPf.out ⟨#[43]⟩).trans ht))
        clear HI
        go_wp2_with fail
        refine (HPy.out _ _).mono ?_
        rintro e w1 ⟨rfl, rfl⟩
        obtain ⟨s1, s2, s3⟩ := tok_end (w := w) (W := w1) (⟨5, 0, ⟨#[43]⟩, 0⟩ : Tk) HZ.out HB.out
        simp only [Tk.cs, zTk] at s1 s2 s3
        have S1 := Lib.hid s1
        have S2 := Lib.hid s2
        have S3 := Lib.hid s3
        clear s1 s2 s3
        go_wp2_with (first | (guard_target =~ wpList _ _ _ (Oper.mk _ (Op.store 36 _ _) _ _ _ _ :: _) _ _; refine wpList_skp rfl (exec_store rfl rfl rfl S1.out) ?_))
        refine bodyPost_ret (results_cell_tmp2 Tryz.results58 _ _ rfl rfl rfl S2.out) rfl ?_
        unfold RetF
        exact ⟨by rw [HV.out]; rfl, S3.out⟩
      | false =>
        have HI2 : Hid (R = signG (signsR.drop 11) l) := HI.out.trans (signG_no (x := [43]) ((HPf.out ⟨#[43]⟩).trans ht))
        clear HI
        go_wp2_with fail
        refine (HPy.out _ _).mono ?_
        rintro e w1 ⟨rfl, rfl⟩
        go_wp2
        go_roundw
        case rel => exact ⟨11, 11, by omega, by go_num, rfl, HZ.out, HB.out, HI2.out⟩
        case measure => simp [intOf]
    · obtain rfl : K = 11 := by omega
      clear hK
      have hix := sgn11
      cases ht : pf ⟨#[45]⟩ with
      | true =>
        have HV : Hid (R = (⟨5, 0, strN [45], 0⟩, 1, 0)) := HI.out.trans (signG_yes (x := [45]) ((HPf.out ⟨#[45]⟩).trans ht))
        clear HI
        go_wp2_with fail
        refine (HPy.out _ _).mono ?_
        rintro e w1 ⟨rfl, rfl⟩
        obtain ⟨s1, s2, s3⟩ := tok_end (w := w) (W := w1) (⟨5, 0, ⟨#[45]⟩, 0⟩ : Tk) HZ.out HB.out
        simp only [Tk.cs, zTk] at s1 s2 s3
        have S1 := Lib.hid s1
        have S2 := Lib.hid s2
        have S3 := Lib.hid s3
        clear s1 s2 s3
        go_wp2_with (first | (guard_target =~ wpList _ _ _ (Oper.mk _ (Op.store 36 _ _) _ _ _ _ :: _) _ _; refine wpList_skp rfl (exec_store rfl rfl rfl S1.out) ?_))
        refine bodyPost_ret (results_cell_tmp2 Tryz.results58 _ _ rfl rfl rfl S2.out) rfl ?_
        unfold RetF
        exact ⟨by rw [HV.out]; rfl, S3.out⟩
      | false =>
        have HI2 : Hid (R = signG (signsR.drop 12) l) := HI.out.trans (signG_no (x := [45]) ((HPf.out ⟨#[45]⟩).trans ht))
        clear HI
        go_wp2_with fail
        refine (HPy.out _ _).mono ?_
        rintro e w1 ⟨rfl, rfl⟩
        go_wp2
        go_roundw
        case rel => exact ⟨12, 12, by omega, by go_num, rfl, HZ.out, HB.out, HI2.out⟩
        case measure => simp [intOf]
    · obtain rfl : K = 12 := by omega
      clear hK
      have hix := sgn12
      cases ht : pf ⟨#[47]⟩ with
      | true =>
        have HV : Hid (R = (⟨5, 0, strN [47], 0⟩, 1, 0)) := HI.out.trans (signG_yes (x := [47]) ((HPf.out ⟨#[47]⟩).trans ht))
        clear HI
        go_wp2_with fail
        refine (HPy.out _ _).mono ?_
        rintro e w1 ⟨rfl, rfl⟩
        obtain ⟨s1, s2, s3⟩ := tok_end (w := w) (W := w1) (⟨5, 0, ⟨#[47]⟩, 0⟩ : Tk) HZ.out HB.out
        simp only [Tk.cs, zTk] at s1 s2 s3
        have S1 := Lib.hid s1
        have S2 := Lib.hid s2
        have S3 := Lib.hid s3
        clear s1 s2 s3
        go_wp2_with (first | (guard_target =~ wpList _ _ _ (Oper.mk _ (Op.store 36 _ _) _ _ _ _ :: _) _ _; refine wpList_skp rfl (exec_store rfl rfl rfl S1.out) ?_))
        refine bodyPost_ret (results_cell_tmp2 Tryz.results58 _ _ rfl rfl rfl S2.out) rfl ?_
        unfold RetF
        exact ⟨by rw [HV.out]; rfl, S3.out⟩
      | false =>
        have HI2 : Hid (R = signG (signsR.drop 13) l) := HI.out.trans (signG_no (x := [47]) ((HPf.out ⟨#[47]⟩).trans ht))
        clear HI
        go_wp2_with fail
        refine (HPy.out _ _).mono ?_
        rintro e w1 ⟨rfl, rfl⟩
        go_wp2
        go_roundw
        case rel => exact ⟨13, 13, by omega, by go_num, rfl, HZ.out, HB.out, HI2.out⟩
        case measure => simp [intOf]
    · obtain rfl : K = 13 := by omega
      clear hK
      have hix := sgn13
      cases ht : pf ⟨#[37]⟩ with
      | true =>
        have HV : Hid (R = (⟨5, 0, strN [37], 0⟩, 1, 0)) := HI.out.trans (signG_yes (x := [37]) ((HPf.out ⟨#[37]⟩).trans ht))
        clear HI
        go_wp2_with fail
        refine (HPy.out _ _).mono ?_
        rintro e w1 ⟨rfl, rfl⟩
        obtain ⟨s1, s2, s3⟩ := tok_end (w := w) (W := w1) (⟨5, 0, ⟨#[37]⟩, 0⟩ : Tk) HZ.out HB.out
        simp only [Tk.cs, zTk] at s1 s2 s3
        have S1 := Lib.hid s1
        have S2 := Lib.hid s2
        have S3 := Lib.hid s3
        clear s1 s2 s3
        go_wp2_with (first | (guard_target =~ wpList _ _ _ (Oper.mk _ (Op.store 36 _ _) _ _ _ _ :: _) _ _; refine wpList_skp rfl (exec_store rfl rfl rfl S1.out) ?_))
        refine bodyPost_ret (results_cell_tmp2 Tryz.results58 _ _ rfl rfl rfl S2.out) rfl ?_
        unfold RetF
        exact ⟨by rw [HV.out]; rfl, S3.out⟩
      | false =>
        have HI2 : Hid (R = signG (signsR.drop 14) l) := HI.out.trans (signG_no (x := [37]) ((HPf.out ⟨#[37]⟩).trans ht))
        clear HI
        go_wp2_with fail
        refine (HPy.out _ _).mono ?_
        rintro e w1 ⟨rfl, rfl⟩
        go_wp2
        go_roundw
        case rel => exact ⟨14, 14, by omega, by go_num, rfl, HZ.out, HB.out, HI2.out⟩
        case measure => simp [intOf]
    · obtain rfl : K = 14 := by omega
      clear hK
      have hix := sgn14
      cases ht : pf ⟨#[61]⟩ with
      | true =>
        have HV : Hid (R = (⟨5, 0, strN [61], 0⟩, 1, 0)) := HI.out.trans (signG_yes (x := [61]) ((HPf.out ⟨#[61]⟩).trans ht))
        clear HI
        go_wp2_with fail
        refine (HPy.out _ _).mono ?_
        rintro e w1 ⟨rfl, rfl⟩
        obtain ⟨s1, s2, s3⟩ := tok_end (w := w) (W := w1) (⟨5, 0, ⟨#[61]⟩, 0⟩ : Tk) HZ.out HB.out
        simp only [Tk.cs, zTk] at s1 s2 s3
        have S1 := Lib.hid s1
        have S2 := Lib.hid s2
        have S3 := Lib.hid s3
        clear s1 s2 s3
        go_wp2_with (first | (guard_target =~ wpList _ _ _ (Oper.mk _ (Op.store 36 _ _) _ _ _ _ :: _) _ _; refine wpList_skp rfl (exec_store rfl rfl rfl S1.out) ?_))
        refine bodyPost_ret (results_cell_tmp2 Tryz.results58 _ _ rfl rfl rfl S2.out) rfl ?_
        unfold RetF
        exact ⟨by rw [HV.out]; rfl, S3.out⟩
      | false =>
        have HI2 : Hid (R = signG (signsR.drop 15) l) := HI.out.trans (signG_no (x := [61]) ((HPf.out ⟨#[61]⟩).trans ht))
        clear HI
        go_wp2_with fail
        refine (HPy.out _ _).mono ?_
        rintro e w1 ⟨rfl, rfl⟩
        go_wp2
        go_roundw
        case rel => exact ⟨15, 15, by omega, by go_num, rfl, HZ.out, HB.out, HI2.out⟩
        case measure => simp [intOf]
    · obtain rfl : K = 15 := by omega
      clear hK
      have hix := sgn15
      cases ht : pf ⟨#[60]⟩ with
      | true =>
        have HV : Hid (R = (⟨5, 0, strN [60], 0⟩, 1, 0)) := HI.out.trans (signG_yes (x := [60]) ((HPf.out ⟨#[60]⟩).trans ht))
        clear HI
        go_wp2_with fail
        refine (HPy.out _ _).mono ?_
        rintro e w1 ⟨rfl, rfl⟩
        obtain ⟨s1, s2, s3⟩ := tok_end (w := w) (W := w1) (⟨5, 0, ⟨#[60]⟩, 0⟩ : Tk) HZ.out HB.out
        simp only [Tk.cs, zTk] at s1 s2 s3
        have S1 := Lib.hid s1
        have S2 := Lib.hid s2
        have S3 := Lib.hid s3
        clear s1 s2 s3
        go_wp2_with (first | (guard_target =~ wpList _ _ _ (Oper.mk _ (Op.store 36 _ _) _ _ _ _ :: _) _ _; refine wpList_skp rfl (exec_store rfl rfl rfl S1.out) ?_))
        refine bodyPost_ret (results_cell_tmp2 Tryz.results58 _ _ rfl rfl rfl S2.out) rfl ?_
        unfold RetF
        exact ⟨by rw [HV.out]; rfl, S3.out⟩
      | false =>
        have HI2 : Hid (R = signG (signsR.drop 16) l) := HI.out.trans (signG_no (x := [60]) ((HPf.out ⟨#[60]⟩).trans ht))
        clear HI
        go_wp2_with fail
        refine (HPy.out _ _).mono ?_
        rintro e w1 ⟨rfl, rfl⟩
        go_wp2
        go_roundw
        case rel => exact ⟨16, 16, by omega, by go_num, rfl, HZ.out, HB.out, HI2.out⟩
        case measure => simp [intOf]
    · obtain rfl : K = 16 := by omega
      clear hK
      have hix := sgn16
      cases ht : pf ⟨#[62]⟩ with
      | true =>
        have HV : Hid (R = (⟨5, 0, strN [62], 0⟩, 1, 0)) := HI.out.trans (signG_yes (x := [62]) ((HPf.out ⟨#[62]⟩).trans ht))
        clear HI
        go_wp2_with fail
        refine (HPy.out _ _).mono ?_
        rintro e w1 ⟨rfl, rfl⟩
        obtain ⟨s1, s2, s3⟩ := tok_end (w := w) (W := w1) (⟨5, 0, ⟨#[62]⟩, 0⟩ : Tk) HZ.out HB.out
        simp only [Tk.cs, zTk] at s1 s2 s3
        have S1 := Lib.hid s1
        have S2 := Lib.hid s2
        have S3 := Lib.hid s3
        clear s1 s2 s3
        go_wp2_with (first | (guard_target =~ wpList _ _ _ (Oper.mk _ (Op.store 36 _ _) _ _ _ _ :: _) _ _; refine wpList_skp rfl (exec_store rfl rfl rfl S1.out) ?_))
        refine bodyPost_ret (results_cell_tmp2 Tryz.results58 _ _ rfl rfl rfl S2.out) rfl ?_
        unfold RetF
        exact ⟨by rw [HV.out]; rfl, S3.out⟩
      | false =>
        have HI2 : Hid (R = signG (signsR.drop 17) l) := HI.out.trans (signG_no (x := [62]) ((HPf.out ⟨#[62]⟩).trans ht))
        clear HI
        go_wp2_with fail
        refine (HPy.out _ _).mono ?_
        rintro e w1 ⟨rfl, rfl⟩
        go_wp2
        go_roundw
        case rel => exact ⟨17, 17, by omega, by go_num, rfl, HZ.out, HB.out, HI2.out⟩
        case measure => simp [intOf]
    · obtain rfl : K = 17 := by omega
      clear hK
      have HV : Hid (R = (zTk, 0, 40)) := HI.out
      clear HI
      obtain ⟨s1, s2, s3⟩ := tok_end (w := w) zTk HZ.out HB.out
      simp only [Tk.cs, zTk] at s1 s2 s3
      have S1 := Lib.hid s1
      have S2 := Lib.hid s2
      have S3 := Lib.hid s3
      clear s1 s2 s3
      go_wp2_with (first | (guard_target =~ wpList _ _ _ (Oper.mk _ (Op.store 36 _ _) _ _ _ _ :: _) _ _; refine wpList_skp rfl (exec_store rfl rfl rfl S1.out) ?_))
      refine bodyPost_ret (results_cell_tmp2 Tryz.results58 _ _ rfl rfl rfl S2.out) rfl ?_
      unfold RetF
      exact ⟨by rw [HV.out]; rfl, S3.out⟩
end Go.Proofs.YtbnddpicpomakaaGreatDoor

/- The walk of token.front. -/
set_option linter.unusedSimpArgs false
set_option linter.unusedVariables false
set_option maxRecDepth 100000
namespace Go.Proofs.YtbnddpicpomakaaGreatDoor
open Go.RowKit

theorem class_front (s : ByteArray) (h : 1 ≤ s.size) : classZ ((Lib.decodeGo s).1 : Int) = classZ (((bytesU s).headD 128 : Nat) : Int) := by
  have hp : 0 < s.size := h
  have hB := byteN_at s 0 hp
  have hh : (bytesU s).headD 128 = byteN s 0 := by
    have hl : 0 < (bytesU s).length := by rw [bytesU_len]; exact hp
    unfold byteN
    cases hb : bytesU s with
    | nil => rw [hb] at hl; simp at hl
    | cons c r => rfl
  rw [hh]
  unfold Lib.decodeGo
  rw [if_neg (by omega)]
  by_cases ha : (s[0]'hp).toNat < 128
  · rw [decode_ascii s 0 hp ha, hB]
  · have := decode_high s 0 hp (by omega)
    rw [class_high (by omega), class_high (by omega)]

set_option maxHeartbeats 4000000 in
theorem tkFront_any (s : ByteArray) (w : World) (hT : Pre6 w) (hs : s.size ≤ 400000) (h1 : 1 ≤ s.size) : Calls Tryz.prog 31 #[.string s] w (RetF (frontR (bytesU s)) w) := by
  obtain ⟨w0, hw0⟩ : ∃ w0, w.alloc (.cells #[.int .i64 0, .int .i64 0, .string ⟨#[]⟩, .int .i64 0] 36) = w0 := ⟨_, rfl⟩
  have hZ0 : Blk (w.alloc (.cells #[.int .i64 0, .int .i64 0, .string ⟨#[]⟩, .int .i64 0] 36)) w.heap.size 36 zTk.cs := zTk_blk w
  rw [hw0] at hZ0
  have HZ0 := Lib.hid hZ0
  have HB0 : Hid (Below w.heap.size w w0) := by rw [← hw0]; exact (Below.refl _ w).alloc (Nat.le_refl _) _
  have hlt0 : w.heap.size < w0.heap.size := by rw [← hw0]; simp
  have HL0 : Hid (w.heap.size < w0.heap.size) := hlt0
  clear hZ0 hlt0
  have HPx : Hid (∀ W, Calls Tryz.prog 52 #[.string s, .string ⟨#[120, 39]⟩] W fun e w' => e = .returned (.bool ([120, 39].isPrefixOf (bytesU s))) ∧ w' = W) := fun W => pre_any s ⟨#[120, 39]⟩ W
  have HPX : Hid (∀ W, Calls Tryz.prog 52 #[.string s, .string ⟨#[88, 39]⟩] W fun e w' => e = .returned (.bool ([88, 39].isPrefixOf (bytesU s))) ∧ w' = W) := fun W => pre_any s ⟨#[88, 39]⟩ W
  have HBl := Lib.hid (fun W (hb : Below w.heap.size w W) => tkBlob_any s W (hT.below hb) hs h1)
  have HWd := Lib.hid (fun W => tkWord_any s W hs)
  have HNm := Lib.hid (fun W (hb : Below w.heap.size w W) => tkNum_any s W (hT.below hb) hs)
  have HQu := Lib.hid (fun W (hb : Below w.heap.size w W) => tkQuot_any s W (hT.below hb) hs)
  have HSi := Lib.hid (fun W => tkSign_any s W)
  have HDe : Hid (∀ W, Below w.heap.size w W → Calls Tryz.prog 54 #[.string s] W fun e w' => e = .returned (.tuple #[.int .i32 ((Lib.decodeGo s).1 : Int), .int .i64 ((Lib.decodeGo s).2 : Int)]) ∧ Below W.heap.size W w') := fun W hb => Any.utf8_DecodeRuneInString Tryz.laysDec s W (hT.below hb).tabs
  obtain ⟨dr, hdr⟩ : ∃ r : Nat, (Lib.decodeGo s).1 = r := ⟨_, rfl⟩
  obtain ⟨dk, hdk⟩ : ∃ r : Nat, (Lib.decodeGo s).2 = r := ⟨_, rfl⟩
  have hcf := class_front s h1
  have HV : Hid (frontR (bytesU s) = if ([120, 39].isPrefixOf (bytesU s) || [88, 39].isPrefixOf (bytesU s)) = true then blobR (bytesU s) else if classZ (((bytesU s).headD 128 : Nat) : Int) = 2 then wordR (bytesU s) else if classZ (((bytesU s).headD 128 : Nat) : Int) = 3 then numR (bytesU s) else if classZ (((bytesU s).headD 128 : Nat) : Int) = 4 then quotR (bytesU s) else signR (bytesU s)) := by simp only [frontR, Hid]
  have HCl := Lib.hid (fun W => Class_any (dr : Int) W)
  rw [← hcf, hdr] at HV
  rw [hdr, hdk] at HDe
  generalize classZ (dr : Int) = c at *
  unfold RetF at HBl HWd HNm HQu HSi
  obtain ⟨⟨⟨ka, aa, xa, na⟩, za, ea⟩, hra⟩ : ∃ r, blobR (bytesU s) = r := ⟨_, rfl⟩
  obtain ⟨⟨⟨kb, ab, xb, nb⟩, zb, eb⟩, hrb⟩ : ∃ r, wordR (bytesU s) = r := ⟨_, rfl⟩
  obtain ⟨⟨⟨kc, ac, xc, nc⟩, zc, ec⟩, hrc⟩ : ∃ r, numR (bytesU s) = r := ⟨_, rfl⟩
  obtain ⟨⟨⟨kd, ad, xd, nd⟩, zd, ed⟩, hrd⟩ : ∃ r, quotR (bytesU s) = r := ⟨_, rfl⟩
  obtain ⟨⟨⟨ke, ae, xe, ne⟩, ze, ee⟩, hre⟩ : ∃ r, signR (bytesU s) = r := ⟨_, rfl⟩
  rw [hra] at HBl HV
  rw [hrb] at HWd HV
  rw [hrc] at HNm HV
  rw [hrd] at HQu HV
  rw [hre] at HSi HV
  simp only [Tk.cs] at HBl HWd HNm HQu HSi
  generalize [120, 39].isPrefixOf (bytesU s) = p1 at *
  generalize [88, 39].isPrefixOf (bytesU s) = p2 at *
  clear hT hs h1 hdr hdk hcf hra hrb hrc hrd hre
  go_enter Tryz.func31, Tryz.ntmps31
  cases p1 with
  | true =>
    rw [if_pos (by rfl)] at HV
    go_wp2_with fail
    refine (HPx.out _).mono ?_
    rintro e w9 ⟨rfl, rfl⟩
    go_wp2_with fail
    refine (HBl.out _ HB0.out).mono ?_
    rintro e w2 ⟨rfl, hb2⟩
    have HB2 := Lib.hid (HB0.out.trans (hb2.mono HB0.out.size))
    have HZ2 : Hid (Blk w2 w.heap.size 36 zTk.cs) := (hb2.block _ HL0.out).trans HZ0.out
    have HL2 : Hid (w.heap.size < w2.heap.size) := Nat.lt_of_lt_of_le HL0.out hb2.size
    clear hb2
    obtain ⟨s1, s2, s3⟩ := tok_end (w := w) (⟨ka, aa, xa, na⟩ : Tk) HZ2.out HB2.out
    simp only [Tk.cs, zTk] at s1 s2 s3
    have S1 := Lib.hid s1
    have S2 := Lib.hid s2
    have S3 := Lib.hid s3
    clear s1 s2 s3
    go_wp2_with (first | (guard_target =~ wpList _ _ _ (Oper.mk _ (Op.store 36 _ _) _ _ _ _ :: _) _ _; refine wpList_skp rfl (exec_store rfl rfl rfl S1.out) ?_))
    refine bodyPost_ret (results_cell_tmp2 Tryz.results31 _ _ rfl rfl rfl S2.out) rfl ?_
    unfold RetF
    exact ⟨by rw [HV.out]; rfl, S3.out⟩
  | false =>
    go_wp2_with fail
    refine (HPx.out _).mono ?_
    rintro e w9 ⟨rfl, rfl⟩
    cases p2 with
    | true =>
      rw [if_pos (by rfl)] at HV
      go_wp2_with fail
      refine (HPX.out _).mono ?_
      rintro e w9 ⟨rfl, rfl⟩
      go_wp2_with fail
      refine (HBl.out _ HB0.out).mono ?_
      rintro e w2 ⟨rfl, hb2⟩
      have HB2 := Lib.hid (HB0.out.trans (hb2.mono HB0.out.size))
      have HZ2 : Hid (Blk w2 w.heap.size 36 zTk.cs) := (hb2.block _ HL0.out).trans HZ0.out
      have HL2 : Hid (w.heap.size < w2.heap.size) := Nat.lt_of_lt_of_le HL0.out hb2.size
      clear hb2
      obtain ⟨s1, s2, s3⟩ := tok_end (w := w) (⟨ka, aa, xa, na⟩ : Tk) HZ2.out HB2.out
      simp only [Tk.cs, zTk] at s1 s2 s3
      have S1 := Lib.hid s1
      have S2 := Lib.hid s2
      have S3 := Lib.hid s3
      clear s1 s2 s3
      go_wp2_with (first | (guard_target =~ wpList _ _ _ (Oper.mk _ (Op.store 36 _ _) _ _ _ _ :: _) _ _; refine wpList_skp rfl (exec_store rfl rfl rfl S1.out) ?_))
      refine bodyPost_ret (results_cell_tmp2 Tryz.results31 _ _ rfl rfl rfl S2.out) rfl ?_
      unfold RetF
      exact ⟨by rw [HV.out]; rfl, S3.out⟩
    | false =>
      rw [if_neg (by decide)] at HV
      go_wp2_with fail
      refine (HPX.out _).mono ?_
      rintro e w9 ⟨rfl, rfl⟩
      go_wp2_with fail
      refine (HDe.out _ HB0.out).mono ?_
      rintro e w1 ⟨rfl, hb1⟩
      have HB1 := Lib.hid (HB0.out.trans (hb1.mono HB0.out.size))
      have HZ1 : Hid (Blk w1 w.heap.size 36 zTk.cs) := (hb1.block _ HL0.out).trans HZ0.out
      have HL1 : Hid (w.heap.size < w1.heap.size) := Nat.lt_of_lt_of_le HL0.out hb1.size
      clear hb1
      go_wp2_with fail
      refine (HCl.out _).mono ?_
      rintro e w9 ⟨rfl, rfl⟩
      by_cases k2 : c = 2
      · subst k2
        rw [if_pos rfl] at HV
        go_wp2_with fail
        refine (HWd.out _).mono ?_
        rintro e w2 ⟨rfl, hb2⟩
        have HB2 := Lib.hid (HB1.out.trans (hb2.mono HB1.out.size))
        have HZ2 : Hid (Blk w2 w.heap.size 36 zTk.cs) := (hb2.block _ HL1.out).trans HZ1.out
        have HL2 : Hid (w.heap.size < w2.heap.size) := Nat.lt_of_lt_of_le HL1.out hb2.size
        clear hb2
        obtain ⟨s1, s2, s3⟩ := tok_end (w := w) (⟨kb, ab, xb, nb⟩ : Tk) HZ2.out HB2.out
        simp only [Tk.cs, zTk] at s1 s2 s3
        have S1 := Lib.hid s1
        have S2 := Lib.hid s2
        have S3 := Lib.hid s3
        clear s1 s2 s3
        go_wp2_with (first | (guard_target =~ wpList _ _ _ (Oper.mk _ (Op.store 36 _ _) _ _ _ _ :: _) _ _; refine wpList_skp rfl (exec_store rfl rfl rfl S1.out) ?_))
        refine bodyPost_ret (results_cell_tmp2 Tryz.results31 _ _ rfl rfl rfl S2.out) rfl ?_
        unfold RetF
        exact ⟨by rw [HV.out]; rfl, S3.out⟩
      have q2 : (c == 2) = false := by simpa using k2
      rw [if_neg k2] at HV
      by_cases k3 : c = 3
      · subst k3
        rw [if_pos rfl] at HV
        go_wp2_with fail
        refine (HNm.out _ HB1.out).mono ?_
        rintro e w2 ⟨rfl, hb2⟩
        have HB2 := Lib.hid (HB1.out.trans (hb2.mono HB1.out.size))
        have HZ2 : Hid (Blk w2 w.heap.size 36 zTk.cs) := (hb2.block _ HL1.out).trans HZ1.out
        have HL2 : Hid (w.heap.size < w2.heap.size) := Nat.lt_of_lt_of_le HL1.out hb2.size
        clear hb2
        obtain ⟨s1, s2, s3⟩ := tok_end (w := w) (⟨kc, ac, xc, nc⟩ : Tk) HZ2.out HB2.out
        simp only [Tk.cs, zTk] at s1 s2 s3
        have S1 := Lib.hid s1
        have S2 := Lib.hid s2
        have S3 := Lib.hid s3
        clear s1 s2 s3
        go_wp2_with (first | (guard_target =~ wpList _ _ _ (Oper.mk _ (Op.store 36 _ _) _ _ _ _ :: _) _ _; refine wpList_skp rfl (exec_store rfl rfl rfl S1.out) ?_))
        refine bodyPost_ret (results_cell_tmp2 Tryz.results31 _ _ rfl rfl rfl S2.out) rfl ?_
        unfold RetF
        exact ⟨by rw [HV.out]; rfl, S3.out⟩
      have q3 : (c == 3) = false := by simpa using k3
      rw [if_neg k3] at HV
      by_cases k4 : c = 4
      · subst k4
        rw [if_pos rfl] at HV
        go_wp2_with fail
        refine (HQu.out _ HB1.out).mono ?_
        rintro e w2 ⟨rfl, hb2⟩
        have HB2 := Lib.hid (HB1.out.trans (hb2.mono HB1.out.size))
        have HZ2 : Hid (Blk w2 w.heap.size 36 zTk.cs) := (hb2.block _ HL1.out).trans HZ1.out
        have HL2 : Hid (w.heap.size < w2.heap.size) := Nat.lt_of_lt_of_le HL1.out hb2.size
        clear hb2
        obtain ⟨s1, s2, s3⟩ := tok_end (w := w) (⟨kd, ad, xd, nd⟩ : Tk) HZ2.out HB2.out
        simp only [Tk.cs, zTk] at s1 s2 s3
        have S1 := Lib.hid s1
        have S2 := Lib.hid s2
        have S3 := Lib.hid s3
        clear s1 s2 s3
        go_wp2_with (first | (guard_target =~ wpList _ _ _ (Oper.mk _ (Op.store 36 _ _) _ _ _ _ :: _) _ _; refine wpList_skp rfl (exec_store rfl rfl rfl S1.out) ?_))
        refine bodyPost_ret (results_cell_tmp2 Tryz.results31 _ _ rfl rfl rfl S2.out) rfl ?_
        unfold RetF
        exact ⟨by rw [HV.out]; rfl, S3.out⟩
      have q4 : (c == 4) = false := by simpa using k4
      rw [if_neg k4] at HV
      go_wp2_with fail
      refine (HSi.out _).mono ?_
      rintro e w2 ⟨rfl, hb2⟩
      have HB2 := Lib.hid (HB1.out.trans (hb2.mono HB1.out.size))
      have HZ2 : Hid (Blk w2 w.heap.size 36 zTk.cs) := (hb2.block _ HL1.out).trans HZ1.out
      have HL2 : Hid (w.heap.size < w2.heap.size) := Nat.lt_of_lt_of_le HL1.out hb2.size
      clear hb2
      obtain ⟨s1, s2, s3⟩ := tok_end (w := w) (⟨ke, ae, xe, ne⟩ : Tk) HZ2.out HB2.out
      simp only [Tk.cs, zTk] at s1 s2 s3
      have S1 := Lib.hid s1
      have S2 := Lib.hid s2
      have S3 := Lib.hid s3
      clear s1 s2 s3
      go_wp2_with (first | (guard_target =~ wpList _ _ _ (Oper.mk _ (Op.store 36 _ _) _ _ _ _ :: _) _ _; refine wpList_skp rfl (exec_store rfl rfl rfl S1.out) ?_))
      refine bodyPost_ret (results_cell_tmp2 Tryz.results31 _ _ rfl rfl rfl S2.out) rfl ?_
      unfold RetF
      exact ⟨by rw [HV.out]; rfl, S3.out⟩
end Go.Proofs.YtbnddpicpomakaaGreatDoor

/- Rows of the call's own: where they lie, what leaves them as they are. -/
set_option linter.unusedSimpArgs false
set_option linter.unusedVariables false
set_option maxRecDepth 100000
namespace Go.Proofs.YtbnddpicpomakaaGreatDoor
open Go.RowKit

theorem own_lt {w : World} {base : Nat} {e : TypeId} {size n : Nat} {v : Value} {xs : List Value} (h : w.ownsRow base e size v n xs) {g : Nat} (hg : v.ownBlock = some g) : g < w.heap.size := by
  rcases h.2 with ⟨rfl, _⟩ | ⟨g', cap, cur, rfl, _, hh, _⟩
  · simp [Value.ownBlock] at hg
  · have : g' = g := by simpa [Value.ownBlock] using hg
    subst this
    exact Blk.lt (t := e) hh
theorem own_keep {w w' : World} {base : Nat} {e : TypeId} {size n : Nat} {v : Value} {xs : List Value} (h : w.ownsRow base e size v n xs) (hk : ∀ g, v.ownBlock = some g → w'.heap[g]? = w.heap[g]?) : w'.ownsRow base e size v n xs := by
  refine ⟨h.1, ?_⟩
  rcases h.2 with h2 | ⟨g, cap, cur, hv, hg, hh, r⟩
  · exact .inl h2
  · exact .inr ⟨g, cap, cur, hv, hg, by rw [hk g (by rw [hv]; rfl)]; exact hh, r⟩
theorem own_chg {w w' : World} {base : Nat} {e : TypeId} {size n : Nat} {v : Value} {xs : List Value} {S : List Nat} (h : w.ownsRow base e size v n xs) (hc : Chg S w w') (hn : ∀ g, v.ownBlock = some g → g ∉ S) : w'.ownsRow base e size v n xs :=
  own_keep h fun g hg => hc.block g (own_lt h hg) (hn g hg)
theorem own_ne {w : World} {base : Nat} {e : TypeId} {size n : Nat} {v : Value} {xs : List Value} (h : w.ownsRow base e size v n xs) {g : Nat} {t : TypeId} {cs : Array Value} (hb : Blk w g t cs) (hne : e ≠ t) : v.ownBlock ≠ some g := by
  rcases h.2 with ⟨rfl, _⟩ | ⟨g', cap, cur, rfl, _, hh, _⟩
  · simp [Value.ownBlock]
  · intro he
    have : g' = g := by simpa [Value.ownBlock] using he
    subst this
    exact Blk.ne_ (t := e) hh hb hne rfl
end Go.Proofs.YtbnddpicpomakaaGreatDoor
