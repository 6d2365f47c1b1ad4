/- Several texts of one proof, one behind the other. -/
import Derived.Test.YtbnddpicpomakaaDoorGPk11
set_option linter.unusedSimpArgs false
set_option linter.unusedVariables false

/- The walks of the reference's among and Reserved. -/
set_option linter.unusedSimpArgs false
set_option linter.unusedVariables false
set_option maxRecDepth 100000
namespace Go.Proofs.YtbnddpicpomakaaDoor
open Go.RowKit

theorem cellsS_map : ∀ l : List ByteArray, cellsS l = l.map Value.string
  | [] => rfl
  | x :: r => by show Value.string x :: cellsS r = _; rw [cellsS_map r]; rfl
theorem strAt20 {N : Nat} {w : World} {a : Option Addr} {l : List ByteArray} (h : Arr N w a (cellsS l)) {k : Nat} (hk : k < l.length) : ∃ b o, a = some ⟨b, o, none⟩ ∧ b < N ∧ w.cell? ⟨b, o + k, none⟩ = some (.string l[k]) := by
  have hg : (cellsS l)[k]? = some (.string l[k]) := by
    rw [cellsS_map, List.getElem?_map, List.getElem?_eq_getElem hk]; rfl
  rcases h with h | ⟨b, o, ha, hb, hc⟩
  · rw [h] at hg; simp at hg
  · exact ⟨b, o, ha, hb, hc k _ hg⟩

/-- A row of texts that has just been made. -/
theorem arr_strs (w : World) (T : TypeId) (l : List ByteArray) : Arr (w.heap.size + 1) (w.alloc (.cells (cellsS l).toArray T)) (some ⟨w.heap.size, 0, none⟩) (cellsS l) := by
  refine .inr ⟨w.heap.size, 0, rfl, by omega, fun i v hi => ?_⟩
  rw [World.cell?_alloc_at _ _ _ _ rfl, Nat.zero_add]
  simpa using hi

set_option maxHeartbeats 2000000 in
theorem RAmong_any20 (l : List ByteArray) (key : ByteArray) (a : Option Addr) (len cap : Nat) (w : World) (hV : Arr w.heap.size w a (cellsS l)) (hlen : len = l.length) (hmax : len ≤ 140737488355328) :
    Calls Tryd.prog 90 #[.slice a len cap, .string key] w fun e w' => e = .returned (.bool (l.any fun x => key.toList == x.toList)) ∧ w = w' := by
  have HV := Lib.hid hV
  have HL := Lib.hid hlen
  clear hV hlen
  obtain ⟨R, hR⟩ : ∃ R, (l.any fun x => key.toList == x.toList) = R := ⟨_, rfl⟩
  rw [hR]
  have HR := Lib.hid hR
  clear hR
  go_enter Tryd.func90, Tryd.ntmps90
  go_wp2
  go_loop [5] (fun i => ∃ k : Nat, k ≤ len ∧ i = .int .i64 k ∧ Hid (((l.take k).any fun x => key.toList == x.toList) = false)) (fun i => len - (intOf i).toNat)
  case atStart => exact ⟨0, by omega, rfl, by simp [Hid]⟩
  case round =>
    obtain ⟨k, hk, rfl, HI⟩ := hrel
    by_cases hlt : k < len
    · have hkl : k < l.length := by have := HL.out; omega
      obtain ⟨b, o, rfl, hbN, c0⟩ := strAt20 HV.out hkl
      have HG : Hid (l[k] ∈ l) := List.getElem_mem hkl
      have HT : Hid (((l.take (k + 1)).any fun x => key.toList == x.toList) = (key.toList == l[k].toList)) := by
        rw [List.take_succ_eq_append_getElem hkl, List.any_append, HI.out]; simp [Hid]
      obtain ⟨y, hy⟩ : ∃ y, y = l[k] := ⟨_, rfl⟩
      rw [← hy] at c0 HG HT
      clear hy
      by_cases hky : y = key
      · subst hky
        have HQ : Hid (R = true) := by rw [Hid, ← HR.out, List.any_eq_true]; exact ⟨y, HG.out, by simp⟩
        clear HT HG
        go_wp2
        go_ret
        exact ⟨ret_b HQ.out.symm, rfl⟩
      · have q1 : (y.toList == key.toList) = false := by rw [beq_eq_false_iff_ne]; exact toList_ne hky
        have HT2 : Hid (((l.take (k + 1)).any fun x => key.toList == x.toList) = false) := by
          rw [HT.out, Hid, beq_eq_false_iff_ne]; exact toList_ne (fun h => hky h.symm)
        clear HT HG hky
        go_wp2
        go_round
        case rel => exact ⟨k + 1, by omega, by go_num, HT2⟩
        case measure => simp [intOf]; omega
    · have HG : Hid (R = false) := by rw [Hid, ← HR.out]; have := HI.out; rwa [List.take_of_length_le (by have := HL.out; omega)] at this
      go_wp2
      go_ret
      exact ⟨ret_b HG.out.symm, rfl⟩

/-- The texts of a list of numbers. -/
def strsL (L : List (List Nat)) : List ByteArray := L.map strN
theorem any_inL (L : List (List Nat)) (s : ByteArray) : ((strsL L).any fun x => s.toList == x.toList) = inL L s := by
  unfold strsL inL
  rw [List.any_map]
  congr 1
  funext l
  show (s.toList == (strN l).toList) = _
  rw [ByteArray.toList_eq (strN l)]; simp [strN]
theorem resB_inL (s : ByteArray) : resB s = inL resL s := rfl

set_option maxRecDepth 100000 in
set_option maxHeartbeats 4000000 in
theorem RReserved_any20 (s : ByteArray) (w : World) : Calls Tryd.prog 89 #[.string s] w fun e w' => e = .returned (.bool (resB s)) ∧ Below w.heap.size w w' := by
  have HC : Hid (∀ W, W = w.alloc (.cells (cellsS (strsL resL)).toArray 9) → Calls Tryd.prog 90 #[.slice (some ⟨w.heap.size, 0, none⟩) 49 49, .string s] W fun e w' => e = .returned (.bool (resB s)) ∧ Below w.heap.size w w') := fun W hW => by
    subst hW
    have h1 := RAmong_any20 (strsL resL) s (some ⟨w.heap.size, 0, none⟩) 49 49 (w.alloc (.cells (cellsS (strsL resL)).toArray 9)) (by simpa using arr_strs w 9 (strsL resL)) (by decide) (by omega)
    rw [any_inL, ← resB_inL] at h1
    refine h1.mono ?_
    rintro e w' ⟨he, rfl⟩
    exact ⟨he, (Below.refl _ w).alloc (Nat.le_refl _) _⟩
  generalize resB s = r at *
  go_enter Tryd.func89, Tryd.ntmps89
  go_wp2_with fail
  refine (HC.out _ ?_).mono ?_
  · rfl
  rintro e w2 ⟨rfl, hb2⟩
  have HB2 := Lib.hid hb2
  clear hb2
  go_wp2
  go_ret
  exact ⟨rfl, HB2.out⟩
end Go.Proofs.YtbnddpicpomakaaDoor

/- The walk of the reference's Name. -/
set_option linter.unusedSimpArgs false
set_option linter.unusedVariables false
set_option maxRecDepth 100000
namespace Go.Proofs.YtbnddpicpomakaaDoor
set_option linter.unusedSimpArgs false
open Go.RowKit

theorem byteN_getD (s : ByteArray) (i : Nat) (h : i < s.size) : (s[i]'h).toNat = byteN s i := (byteN_at s i h).symm

set_option maxHeartbeats 1000000 in
theorem rName_any (s : ByteArray) (w : World) (hs : s.size ≤ 140737488351232) :
    Calls Tryd.prog 88 #[.string s] w fun e w' => e = .returned (.tuple #[.string (nameV s).1, .int .i64 (nameV s).2]) ∧ Below w.heap.size w w' := by
  by_cases hl : 20 < s.size
  · have HN : Hid (nameV s = (⟨#[]⟩, 2)) := by unfold nameV; rw [if_pos hl]; rfl
    go_enter Tryd.func88, Tryd.ntmps88
    go_wp2
    go_ret2
    exact ⟨by rw [HN.out]; rfl, Below.refl _ _⟩
  · have ql : decide ((20 : Int) < (s.size : Int)) = false := by simp; omega
    have HF := Lib.hid (fun W => rFold_any s W (by omega))
    have hN : nameV s = if nameB s = false then (⟨#[]⟩, 3) else (foldS s, 0) := by unfold nameV; rw [if_neg hl]
    obtain ⟨f, hf⟩ : ∃ f, foldS s = f := ⟨_, rfl⟩
    rw [hf] at HF hN
    have HN := Lib.hid hN
    clear hN hf
    go_enter Tryd.func88, Tryd.ntmps88
    go_wp2
    go_loopw [4] (fun i wr => ∃ k : Nat, k ≤ s.size ∧ i = .int .i64 k ∧ Hid (∀ i, i < k → okN i (byteN s i) = true) ∧ w = wr) (fun i _ => s.size - (intOf i).toNat)
    case atStart => exact ⟨0, by omega, rfl, by simp [Hid], rfl⟩
    case round =>
      obtain ⟨k, hk, rfl, HI, rfl⟩ := hrel
      by_cases hlt : k < s.size
      · have HB := Lib.hid (byteN_at s k hlt)
        obtain ⟨c, hc⟩ : ∃ c, (s[k]'hlt).toNat = c := ⟨_, rfl⟩
        have HCl := Lib.hid (fun W => rClass_any ((s[k]'hlt).toNat : Int) W)
        obtain ⟨z, hz⟩ : ∃ z, classZ ((s[k]'hlt).toNat : Int) = z := ⟨_, rfl⟩
        rw [hz] at HCl
        rw [hc] at HB
        have hok : okN k c = (z == 2 || (z == 3 && k != 0)) := by unfold okN; rw [← hc, hz]
        have HOk := Lib.hid hok
        have hc256 := (s[k]'hlt).toNat_lt
        clear hc hz hok
        go_wp2_with fail
        refine (HCl.out _).mono ?_
        rintro e w1 ⟨rfl, rfl⟩
        clear HCl
        by_cases hgo : z = 2 ∨ (z = 3 ∧ k ≠ 0)
        · have HI2 : Hid (∀ i, i < k + 1 → okN i (byteN s i) = true) := by
            intro i hi
            by_cases h : i = k
            · subst h
              rw [HB.out, HOk.out]
              rcases hgo with h | ⟨h, h'⟩ <;> simp [h]
              exact h'
            · exact HI.out i (by omega)
          clear HI HOk HB
          by_cases h2 : z = 2
          · subst h2
            by_cases hk0 : k = 0
            · subst hk0
              go_wp2
              go_roundw
              case rel => exact ⟨1, by omega, by go_num, HI2, trivial⟩
              case measure => simp [intOf]; omega
            · have q0 : ((k : Int) == 0) = false := by simp; omega
              clear hgo
              go_wp2
              go_roundw
              case rel => exact ⟨k + 1, by omega, by go_num, HI2, trivial⟩
              case measure => simp [intOf]; omega
          · obtain ⟨rfl, h0⟩ : z = 3 ∧ k ≠ 0 := by
              rcases hgo with h | h
              · exact absurd h h2
              · exact h
            have q0 : ((k : Int) == 0) = false := by simp; omega
            clear hgo h2
            go_wp2
            go_roundw
            case rel => exact ⟨k + 1, by omega, by go_num, HI2, trivial⟩
            case measure => simp [intOf]; omega
        · have HNB : Hid (nameB s = false) := nameB_false hlt (by
            rw [HB.out, HOk.out]
            rw [Bool.eq_false_iff]
            intro h
            simp only [Bool.or_eq_true, Bool.and_eq_true, beq_iff_eq, bne_iff_ne, ne_eq] at h
            exact hgo h)
          have HN2 : Hid (nameV s = (⟨#[]⟩, 3)) := by rw [HN.out, HNB.out]; rfl
          have hways : (z ≠ 2 ∧ z ≠ 3) ∨ (z = 3 ∧ k = 0) := by omega
          clear HI HOk HB hgo HNB HN
          rcases hways with ⟨h2, h3⟩ | ⟨rfl, rfl⟩
          · have q2 : (z != 2) = true := by simp [h2]
            have q3 : (z != 3) = true := by simp [h3]
            have q4 : (z == 3) = false := by simp [h3]
            go_wp2
            go_ret2
            exact ⟨by rw [HN2.out]; rfl, Below.refl _ _⟩
          · go_wp2
            go_ret2
            exact ⟨by rw [HN2.out]; rfl, Below.refl _ _⟩
      · by_cases h0 : s.size = 0
        · have HN2 : Hid (nameV s = (⟨#[]⟩, 3)) := by rw [HN.out]; unfold nameB; simp [h0, Hid]
          have q0 : ((s.size : Int) == 0) = true := by rw [h0]; rfl
          clear HI HN
          go_wp2
          go_ret2
          exact ⟨by rw [HN2.out]; rfl, Below.refl _ _⟩
        · have HNB : Hid (nameB s = true) := nameB_true.2 ⟨by omega, fun i hi => HI.out i (by omega)⟩
          have HN2 : Hid (nameV s = (f, 0)) := by rw [HN.out, HNB.out]; rfl
          have q0 : ((s.size : Int) == 0) = false := by rw [Bool.eq_false_iff]; intro h; rw [beq_iff_eq] at h; omega
          clear HI HN HNB
          go_wp2_with fail
          refine (HF.out _).mono ?_
          rintro e w2 ⟨rfl, b2⟩
          go_wp2
          go_ret2
          exact ⟨by rw [HN2.out]; rfl, b2⟩
end Go.Proofs.YtbnddpicpomakaaDoor

/- The walks of the reference's IsName and ops. -/
set_option linter.unusedSimpArgs false
set_option linter.unusedVariables false
set_option maxRecDepth 100000
namespace Go.Proofs.YtbnddpicpomakaaDoor
open Go.RowKit

set_option maxHeartbeats 2000000 in
theorem RIsName_any20 (s : ByteArray) (w : World) (hs : s.size ≤ 140737488351232) :
    Calls Tryd.prog 63 #[.string s] w fun e w' => e = .returned (.bool (isX s)) ∧ Below w.heap.size w w' := by
  have HN := Lib.hid (fun W => rName_any s W hs)
  have HR := Lib.hid (fun W => RReserved_any20 s W)
  rw [isX_eq]
  generalize nameV s = X at *
  generalize resB s = r at *
  obtain ⟨x, q⟩ := X
  simp only at HN ⊢
  by_cases hq : q = 0
  · subst hq
    by_cases hx : x = s
    · subst hx
      go_enter Tryd.func63, Tryd.ntmps63
      go_wp2_with fail
      refine (HN.out _).mono ?_
      rintro e w1 ⟨rfl, hb⟩
      go_wp2_with fail
      refine (HR.out _).mono ?_
      rintro e w2 ⟨rfl, hb2⟩
      have HB2 := Lib.hid (hb.trans (hb2.mono hb.size))
      clear hb2
      go_wp2
      go_ret
      exact ⟨by simp, HB2.out⟩
    · have hb : (x.toList == s.toList) = false := by rw [beq_eq_false_iff_ne]; exact fun h => hx (toList_inj h)
      have hx2 : decide (x = s) = false := decide_eq_false hx
      rw [hx2]
      clear hx hx2
      go_enter Tryd.func63, Tryd.ntmps63
      go_wp2_with fail
      refine (HN.out _).mono ?_
      rintro e w1 ⟨rfl, hb⟩
      go_wp2
      go_ret
      exact ⟨by simp, hb⟩
  · have h2 : (q == 0) = false := by simpa using hq
    go_enter Tryd.func63, Tryd.ntmps63
    go_wp2_with fail
    refine (HN.out _).mono ?_
    rintro e w1 ⟨rfl, hb⟩
    go_wp2
    go_ret
    exact ⟨ret_b (by simp [hq]), hb⟩


/-- among at a literal row. -/
theorem among_lit (L : List (List Nat)) (k : Nat) (hk : L.length = k) (hk2 : k ≤ 100) (s : ByteArray) (w1 W : World) (hW : W = w1.alloc (.cells (cellsS (strsL L)).toArray 9)) :
    Calls Tryd.prog 90 #[.slice (some ⟨w1.heap.size, 0, none⟩) k k, .string s] W fun e w' => e = .returned (.bool (inL L s)) ∧ Below w1.heap.size w1 w' := by
  subst hW
  have h1 := RAmong_any20 (strsL L) s (some ⟨w1.heap.size, 0, none⟩) k k (w1.alloc (.cells (cellsS (strsL L)).toArray 9)) (by simpa using arr_strs w1 9 (strsL L)) (by simp [strsL, hk]) (by omega)
  rw [any_inL] at h1
  refine h1.mono ?_
  rintro e w' ⟨he, rfl⟩
  exact ⟨he, (Below.refl _ w1).alloc (Nat.le_refl _) _⟩

def sumL : List (List Nat) := [[115, 117, 109], [109, 105, 110], [109, 97, 120]]
theorem agg_eq (op : ByteArray) : inL aggL op = (inL countL op || inL sumL op) := by
  simp [inL, aggL, countL, sumL]

set_option maxHeartbeats 8000000 in
theorem ROps_any20 (kd : Int) (vk : Nat) (vn : Int) (vs tb nm op : ByteArray) (a : Option Addr) (n cap : Nat) (w : World) :
    Calls Tryd.prog 64 #[.agg #[.int .i64 kd, .int .u8 vk, .int .i64 vn, .string vs, .string tb, .string nm, .string op, .slice a n cap]] w fun e w' => e = .returned (.bool (takesB kd op n)) ∧ Below w.heap.size w w' := by
  have HX := Lib.hid (Slot8.new w 44 (.int .i64 kd) (.int .u8 vk) (.int .i64 vn) (.string vs) (.string tb) (.string nm) (.string op) (.slice a n cap))
  obtain ⟨w0, hw0⟩ : ∃ w0, w.alloc (.cells #[.int .i64 kd, .int .u8 vk, .int .i64 vn, .string vs, .string tb, .string nm, .string op, .slice a n cap] 44) = w0 := ⟨_, rfl⟩
  have HB0 : Hid (Below w.heap.size w w0) := by rw [← hw0]; exact (Below.refl _ w).alloc (Nat.le_refl _) _
  have hs0 : w.heap.size < w0.heap.size := by rw [← hw0]; simp
  rw [hw0] at HX
  have HS0 := Lib.hid hs0
  clear hs0
  have HU := Lib.hid (fun W => among_lit unL 2 rfl (by omega) op w0 W)
  have HBi := Lib.hid (fun W => among_lit binL 15 rfl (by omega) op w0 W)
  have HNu := Lib.hid (fun W => among_lit nullL 2 rfl (by omega) op w0 W)
  have HSu := Lib.hid (fun W => among_lit sumL 3 rfl (by omega) op w0 W)
  have HCa := Lib.hid (fun W => among_lit callL 2 rfl (by omega) op w0 W)
  obtain ⟨b, hb⟩ : ∃ b, takesB kd op n = b := ⟨_, rfl⟩
  rw [hb]
  have xa6 : ∀ o, (w0.alloc o).cell? ⟨w.heap.size, 6, none⟩ = some (.string op) := fun o => (HX.out.later HS0.out ((Below.refl _ w0).alloc (Nat.le_refl _) o)).c6
  obtain ⟨x0, x1, x2, x3, x4, x5, x6, x7⟩ := HX.out
  by_cases k3 : kd = 3
  · subst k3
    rw [show takesB 3 op n = (decide (n = 1) && inL unL op) by rfl] at hb
    have HB := Lib.hid hb
    clear hb
    generalize inL unL op = r at *
    by_cases hn : n = 1
    · subst hn
      cases r
      · go_enter Tryd.func64, Tryd.ntmps64
        go_wp2_with fail
        refine (HU.out _ ?_).mono ?_
        · rfl
        rintro e w2 ⟨rfl, hb2⟩
        have HB2 := Lib.hid (HB0.out.trans (hb2.mono HB0.out.size))
        obtain ⟨x0, x1, x2, x3, x4, x5, x6, x7⟩ := HX.out.later HS0.out hb2
        clear hb2
        go_wp2
        all_goals
          go_ret
          exact ⟨ret_b (by rw [← HB.out]; rfl), HB2.out⟩
      · go_enter Tryd.func64, Tryd.ntmps64
        go_wp2_with fail
        refine (HU.out _ ?_).mono ?_
        · rfl
        rintro e w2 ⟨rfl, hb2⟩
        have HB2 := Lib.hid (HB0.out.trans (hb2.mono HB0.out.size))
        obtain ⟨x0, x1, x2, x3, x4, x5, x6, x7⟩ := HX.out.later HS0.out hb2
        clear hb2
        go_wp2
        all_goals
          go_ret
          exact ⟨ret_b (by rw [← HB.out]; rfl), HB2.out⟩
    · have q1 : ((n : Int) == 1) = false := by simp; omega
      have q2 : decide (n = 1) = false := by simp; omega
      rw [q2] at HB
      cases r
      · go_enter Tryd.func64, Tryd.ntmps64
        go_wp2_with fail
        refine (HU.out _ ?_).mono ?_
        · rfl
        rintro e w2 ⟨rfl, hb2⟩
        have HB2 := Lib.hid (HB0.out.trans (hb2.mono HB0.out.size))
        obtain ⟨x0, x1, x2, x3, x4, x5, x6, x7⟩ := HX.out.later HS0.out hb2
        clear hb2
        go_wp2
        all_goals
          go_ret
          exact ⟨ret_b (by rw [← HB.out]; rfl), HB2.out⟩
      · go_enter Tryd.func64, Tryd.ntmps64
        go_wp2_with fail
        refine (HU.out _ ?_).mono ?_
        · rfl
        rintro e w2 ⟨rfl, hb2⟩
        have HB2 := Lib.hid (HB0.out.trans (hb2.mono HB0.out.size))
        obtain ⟨x0, x1, x2, x3, x4, x5, x6, x7⟩ := HX.out.later HS0.out hb2
        clear hb2
        go_wp2
        all_goals
          go_ret
          exact ⟨ret_b (by rw [← HB.out]; rfl), HB2.out⟩
  have q3 : (kd == 3) = false := by simpa using k3
  by_cases k4 : kd = 4
  · subst k4
    rw [show takesB 4 op n = (decide (n = 2) && inL binL op) by rfl] at hb
    have HB := Lib.hid hb
    clear hb
    generalize inL binL op = r at *
    by_cases hn : n = 2
    · subst hn
      cases r
      · go_enter Tryd.func64, Tryd.ntmps64
        go_wp2_with fail
        refine (HBi.out _ ?_).mono ?_
        · rfl
        rintro e w2 ⟨rfl, hb2⟩
        have HB2 := Lib.hid (HB0.out.trans (hb2.mono HB0.out.size))
        obtain ⟨x0, x1, x2, x3, x4, x5, x6, x7⟩ := HX.out.later HS0.out hb2
        clear hb2
        go_wp2
        all_goals
          go_ret
          exact ⟨ret_b (by rw [← HB.out]; rfl), HB2.out⟩
      · go_enter Tryd.func64, Tryd.ntmps64
        go_wp2_with fail
        refine (HBi.out _ ?_).mono ?_
        · rfl
        rintro e w2 ⟨rfl, hb2⟩
        have HB2 := Lib.hid (HB0.out.trans (hb2.mono HB0.out.size))
        obtain ⟨x0, x1, x2, x3, x4, x5, x6, x7⟩ := HX.out.later HS0.out hb2
        clear hb2
        go_wp2
        all_goals
          go_ret
          exact ⟨ret_b (by rw [← HB.out]; rfl), HB2.out⟩
    · have q1 : ((n : Int) == 2) = false := by simp; omega
      have q2 : decide (n = 2) = false := by simp; omega
      rw [q2] at HB
      cases r
      · go_enter Tryd.func64, Tryd.ntmps64
        go_wp2_with fail
        refine (HBi.out _ ?_).mono ?_
        · rfl
        rintro e w2 ⟨rfl, hb2⟩
        have HB2 := Lib.hid (HB0.out.trans (hb2.mono HB0.out.size))
        obtain ⟨x0, x1, x2, x3, x4, x5, x6, x7⟩ := HX.out.later HS0.out hb2
        clear hb2
        go_wp2
        all_goals
          go_ret
          exact ⟨ret_b (by rw [← HB.out]; rfl), HB2.out⟩
      · go_enter Tryd.func64, Tryd.ntmps64
        go_wp2_with fail
        refine (HBi.out _ ?_).mono ?_
        · rfl
        rintro e w2 ⟨rfl, hb2⟩
        have HB2 := Lib.hid (HB0.out.trans (hb2.mono HB0.out.size))
        obtain ⟨x0, x1, x2, x3, x4, x5, x6, x7⟩ := HX.out.later HS0.out hb2
        clear hb2
        go_wp2
        all_goals
          go_ret
          exact ⟨ret_b (by rw [← HB.out]; rfl), HB2.out⟩
  have q4 : (kd == 4) = false := by simpa using k4
  by_cases k5 : kd = 5
  · subst k5
    rw [show takesB 5 op n = (decide (n = 1) && inL nullL op) by rfl] at hb
    have HB := Lib.hid hb
    clear hb
    generalize inL nullL op = r at *
    by_cases hn : n = 1
    · subst hn
      cases r
      · go_enter Tryd.func64, Tryd.ntmps64
        go_wp2_with fail
        refine (HNu.out _ ?_).mono ?_
        · rfl
        rintro e w2 ⟨rfl, hb2⟩
        have HB2 := Lib.hid (HB0.out.trans (hb2.mono HB0.out.size))
        obtain ⟨x0, x1, x2, x3, x4, x5, x6, x7⟩ := HX.out.later HS0.out hb2
        clear hb2
        go_wp2
        all_goals
          go_ret
          exact ⟨ret_b (by rw [← HB.out]; rfl), HB2.out⟩
      · go_enter Tryd.func64, Tryd.ntmps64
        go_wp2_with fail
        refine (HNu.out _ ?_).mono ?_
        · rfl
        rintro e w2 ⟨rfl, hb2⟩
        have HB2 := Lib.hid (HB0.out.trans (hb2.mono HB0.out.size))
        obtain ⟨x0, x1, x2, x3, x4, x5, x6, x7⟩ := HX.out.later HS0.out hb2
        clear hb2
        go_wp2
        all_goals
          go_ret
          exact ⟨ret_b (by rw [← HB.out]; rfl), HB2.out⟩
    · have q1 : ((n : Int) == 1) = false := by simp; omega
      have q2 : decide (n = 1) = false := by simp; omega
      rw [q2] at HB
      cases r
      · go_enter Tryd.func64, Tryd.ntmps64
        go_wp2_with fail
        refine (HNu.out _ ?_).mono ?_
        · rfl
        rintro e w2 ⟨rfl, hb2⟩
        have HB2 := Lib.hid (HB0.out.trans (hb2.mono HB0.out.size))
        obtain ⟨x0, x1, x2, x3, x4, x5, x6, x7⟩ := HX.out.later HS0.out hb2
        clear hb2
        go_wp2
        all_goals
          go_ret
          exact ⟨ret_b (by rw [← HB.out]; rfl), HB2.out⟩
      · go_enter Tryd.func64, Tryd.ntmps64
        go_wp2_with fail
        refine (HNu.out _ ?_).mono ?_
        · rfl
        rintro e w2 ⟨rfl, hb2⟩
        have HB2 := Lib.hid (HB0.out.trans (hb2.mono HB0.out.size))
        obtain ⟨x0, x1, x2, x3, x4, x5, x6, x7⟩ := HX.out.later HS0.out hb2
        clear hb2
        go_wp2
        all_goals
          go_ret
          exact ⟨ret_b (by rw [← HB.out]; rfl), HB2.out⟩
  have q5 : (kd == 5) = false := by simpa using k5
  by_cases k6 : kd = 6
  · subst k6
    rw [show takesB 6 op n = ((inL aggL op && decide (n = 1)) || (inL countL op && decide (n = 0))) by rfl, agg_eq] at hb
    have hcq : (op.toList == [99, 111, 117, 110, 116]) = inL countL op := by simp [inL, countL]
    generalize inL countL op = c at *
    generalize inL sumL op = r at *
    have HB := Lib.hid hb
    clear hb
    cases c
    · by_cases hn : n = 1
      · subst hn
        cases r
        · go_enter Tryd.func64, Tryd.ntmps64
          go_wp2_with fail
          refine (HSu.out _ ?_).mono ?_
          · rfl
          rintro e w2 ⟨rfl, hb2⟩
          have HB2 := Lib.hid (HB0.out.trans (hb2.mono HB0.out.size))
          obtain ⟨x0, x1, x2, x3, x4, x5, x6, x7⟩ := HX.out.later HS0.out hb2
          clear hb2
          go_wp2
          all_goals
            go_ret
            exact ⟨ret_b (by rw [← HB.out]; simp), HB2.out⟩
        · go_enter Tryd.func64, Tryd.ntmps64
          go_wp2_with fail
          refine (HSu.out _ ?_).mono ?_
          · rfl
          rintro e w2 ⟨rfl, hb2⟩
          have HB2 := Lib.hid (HB0.out.trans (hb2.mono HB0.out.size))
          obtain ⟨x0, x1, x2, x3, x4, x5, x6, x7⟩ := HX.out.later HS0.out hb2
          clear hb2
          go_wp2
          all_goals
            go_ret
            exact ⟨ret_b (by rw [← HB.out]; simp), HB2.out⟩
      · have q1 : ((n : Int) == 1) = false := by simp; omega
        have qn := decide_eq_false hn
        cases r
        · go_enter Tryd.func64, Tryd.ntmps64
          go_wp2_with fail
          refine (HSu.out _ ?_).mono ?_
          · rfl
          rintro e w2 ⟨rfl, hb2⟩
          have HB2 := Lib.hid (HB0.out.trans (hb2.mono HB0.out.size))
          obtain ⟨x0, x1, x2, x3, x4, x5, x6, x7⟩ := HX.out.later HS0.out hb2
          clear hb2
          go_wp2
          all_goals
            go_ret
            exact ⟨ret_b (by rw [← HB.out]; simp [qn]), HB2.out⟩
        · go_enter Tryd.func64, Tryd.ntmps64
          go_wp2_with fail
          refine (HSu.out _ ?_).mono ?_
          · rfl
          rintro e w2 ⟨rfl, hb2⟩
          have HB2 := Lib.hid (HB0.out.trans (hb2.mono HB0.out.size))
          obtain ⟨x0, x1, x2, x3, x4, x5, x6, x7⟩ := HX.out.later HS0.out hb2
          clear hb2
          go_wp2
          all_goals
            go_ret
            exact ⟨ret_b (by rw [← HB.out]; simp [qn]), HB2.out⟩
    · by_cases hn : n < 2
      · have q2 : decide ((n : Int) < 2) = true := by simp; omega
        have q9 : (decide (n = 1) || decide (n = 0)) = true := by simp; omega
        go_enter Tryd.func64, Tryd.ntmps64
        go_wp2
        all_goals
          go_ret
          exact ⟨ret_b (by rw [← HB.out]; cases r <;> simpa using q9), HB0.out⟩
      · have q2 : decide ((n : Int) < 2) = false := by simp; omega
        have q1 : ((n : Int) == 1) = false := by simp; omega
        have qn : decide (n = 1) = false := by simp; omega
        have qz : decide (n = 0) = false := by simp; omega
        cases r
        · go_enter Tryd.func64, Tryd.ntmps64
          go_wp2_with fail
          refine (HSu.out _ ?_).mono ?_
          · rfl
          rintro e w2 ⟨rfl, hb2⟩
          have HB2 := Lib.hid (HB0.out.trans (hb2.mono HB0.out.size))
          obtain ⟨x0, x1, x2, x3, x4, x5, x6, x7⟩ := HX.out.later HS0.out hb2
          clear hb2
          go_wp2
          all_goals
            go_ret
            exact ⟨ret_b (by rw [← HB.out]; simp [qn, qz]), HB2.out⟩
        · go_enter Tryd.func64, Tryd.ntmps64
          go_wp2_with fail
          refine (HSu.out _ ?_).mono ?_
          · rfl
          rintro e w2 ⟨rfl, hb2⟩
          have HB2 := Lib.hid (HB0.out.trans (hb2.mono HB0.out.size))
          obtain ⟨x0, x1, x2, x3, x4, x5, x6, x7⟩ := HX.out.later HS0.out hb2
          clear hb2
          go_wp2
          all_goals
            go_ret
            exact ⟨ret_b (by rw [← HB.out]; simp [qn, qz]), HB2.out⟩
  have q6 : (kd == 6) = false := by simpa using k6
  by_cases k7 : kd = 7
  · subst k7
    rw [show takesB 7 op n = ((inL callL op && decide (n = 4)) || (inL lenL op && decide (n = 1))) by rfl] at hb
    have hcq : (op.toList == [108, 101, 110, 103, 116, 104]) = inL lenL op := by simp [inL, lenL]
    generalize inL lenL op = l at *
    generalize inL callL op = r at *
    have HB := Lib.hid hb
    clear hb
    by_cases hn4 : n = 4
    · subst hn4
      cases r <;> cases l
      · go_enter Tryd.func64, Tryd.ntmps64
        go_wp2_with fail
        refine (HCa.out _ ?_).mono ?_
        · rfl
        rintro e w2 ⟨rfl, hb2⟩
        have HB2 := Lib.hid (HB0.out.trans (hb2.mono HB0.out.size))
        obtain ⟨x0, x1, x2, x3, x4, x5, x6, x7⟩ := HX.out.later HS0.out hb2
        clear hb2
        go_wp2
        all_goals
          go_ret
          exact ⟨ret_b (by rw [← HB.out]; rfl), HB2.out⟩
      · go_enter Tryd.func64, Tryd.ntmps64
        go_wp2_with fail
        refine (HCa.out _ ?_).mono ?_
        · rfl
        rintro e w2 ⟨rfl, hb2⟩
        have HB2 := Lib.hid (HB0.out.trans (hb2.mono HB0.out.size))
        obtain ⟨x0, x1, x2, x3, x4, x5, x6, x7⟩ := HX.out.later HS0.out hb2
        clear hb2
        go_wp2
        all_goals
          go_ret
          exact ⟨ret_b (by rw [← HB.out]; rfl), HB2.out⟩
      · go_enter Tryd.func64, Tryd.ntmps64
        go_wp2_with fail
        refine (HCa.out _ ?_).mono ?_
        · rfl
        rintro e w2 ⟨rfl, hb2⟩
        have HB2 := Lib.hid (HB0.out.trans (hb2.mono HB0.out.size))
        obtain ⟨x0, x1, x2, x3, x4, x5, x6, x7⟩ := HX.out.later HS0.out hb2
        clear hb2
        go_wp2
        all_goals
          go_ret
          exact ⟨ret_b (by rw [← HB.out]; rfl), HB2.out⟩
      · go_enter Tryd.func64, Tryd.ntmps64
        go_wp2_with fail
        refine (HCa.out _ ?_).mono ?_
        · rfl
        rintro e w2 ⟨rfl, hb2⟩
        have HB2 := Lib.hid (HB0.out.trans (hb2.mono HB0.out.size))
        obtain ⟨x0, x1, x2, x3, x4, x5, x6, x7⟩ := HX.out.later HS0.out hb2
        clear hb2
        go_wp2
        all_goals
          go_ret
          exact ⟨ret_b (by rw [← HB.out]; rfl), HB2.out⟩
    · have q1 : ((n : Int) == 4) = false := by simp; omega
      have qn4 := decide_eq_false hn4
      by_cases hn : n = 1
      · subst hn
        cases r <;> cases l
        · go_enter Tryd.func64, Tryd.ntmps64
          go_wp2_with fail
          refine (HCa.out _ ?_).mono ?_
          · rfl
          rintro e w2 ⟨rfl, hb2⟩
          have HB2 := Lib.hid (HB0.out.trans (hb2.mono HB0.out.size))
          obtain ⟨x0, x1, x2, x3, x4, x5, x6, x7⟩ := HX.out.later HS0.out hb2
          clear hb2
          go_wp2
          all_goals
            go_ret
            exact ⟨ret_b (by rw [← HB.out]; rfl), HB2.out⟩
        · go_enter Tryd.func64, Tryd.ntmps64
          go_wp2_with fail
          refine (HCa.out _ ?_).mono ?_
          · rfl
          rintro e w2 ⟨rfl, hb2⟩
          have HB2 := Lib.hid (HB0.out.trans (hb2.mono HB0.out.size))
          obtain ⟨x0, x1, x2, x3, x4, x5, x6, x7⟩ := HX.out.later HS0.out hb2
          clear hb2
          go_wp2
          all_goals
            go_ret
            exact ⟨ret_b (by rw [← HB.out]; rfl), HB2.out⟩
        · go_enter Tryd.func64, Tryd.ntmps64
          go_wp2_with fail
          refine (HCa.out _ ?_).mono ?_
          · rfl
          rintro e w2 ⟨rfl, hb2⟩
          have HB2 := Lib.hid (HB0.out.trans (hb2.mono HB0.out.size))
          obtain ⟨x0, x1, x2, x3, x4, x5, x6, x7⟩ := HX.out.later HS0.out hb2
          clear hb2
          go_wp2
          all_goals
            go_ret
            exact ⟨ret_b (by rw [← HB.out]; rfl), HB2.out⟩
        · go_enter Tryd.func64, Tryd.ntmps64
          go_wp2_with fail
          refine (HCa.out _ ?_).mono ?_
          · rfl
          rintro e w2 ⟨rfl, hb2⟩
          have HB2 := Lib.hid (HB0.out.trans (hb2.mono HB0.out.size))
          obtain ⟨x0, x1, x2, x3, x4, x5, x6, x7⟩ := HX.out.later HS0.out hb2
          clear hb2
          go_wp2
          all_goals
            go_ret
            exact ⟨ret_b (by rw [← HB.out]; rfl), HB2.out⟩
      · have q9 : ((n : Int) == 1) = false := by simp; omega
        have qn := decide_eq_false hn
        cases r <;> cases l
        · go_enter Tryd.func64, Tryd.ntmps64
          go_wp2_with fail
          refine (HCa.out _ ?_).mono ?_
          · rfl
          rintro e w2 ⟨rfl, hb2⟩
          have HB2 := Lib.hid (HB0.out.trans (hb2.mono HB0.out.size))
          obtain ⟨x0, x1, x2, x3, x4, x5, x6, x7⟩ := HX.out.later HS0.out hb2
          clear hb2
          go_wp2
          all_goals
            go_ret
            exact ⟨ret_b (by rw [← HB.out]; simp [qn4, qn]), HB2.out⟩
        · go_enter Tryd.func64, Tryd.ntmps64
          go_wp2_with fail
          refine (HCa.out _ ?_).mono ?_
          · rfl
          rintro e w2 ⟨rfl, hb2⟩
          have HB2 := Lib.hid (HB0.out.trans (hb2.mono HB0.out.size))
          obtain ⟨x0, x1, x2, x3, x4, x5, x6, x7⟩ := HX.out.later HS0.out hb2
          clear hb2
          go_wp2
          all_goals
            go_ret
            exact ⟨ret_b (by rw [← HB.out]; simp [qn4, qn]), HB2.out⟩
        · go_enter Tryd.func64, Tryd.ntmps64
          go_wp2_with fail
          refine (HCa.out _ ?_).mono ?_
          · rfl
          rintro e w2 ⟨rfl, hb2⟩
          have HB2 := Lib.hid (HB0.out.trans (hb2.mono HB0.out.size))
          obtain ⟨x0, x1, x2, x3, x4, x5, x6, x7⟩ := HX.out.later HS0.out hb2
          clear hb2
          go_wp2
          all_goals
            go_ret
            exact ⟨ret_b (by rw [← HB.out]; simp [qn4, qn]), HB2.out⟩
        · go_enter Tryd.func64, Tryd.ntmps64
          go_wp2_with fail
          refine (HCa.out _ ?_).mono ?_
          · rfl
          rintro e w2 ⟨rfl, hb2⟩
          have HB2 := Lib.hid (HB0.out.trans (hb2.mono HB0.out.size))
          obtain ⟨x0, x1, x2, x3, x4, x5, x6, x7⟩ := HX.out.later HS0.out hb2
          clear hb2
          go_wp2
          all_goals
            go_ret
            exact ⟨ret_b (by rw [← HB.out]; simp [qn4, qn]), HB2.out⟩
  have q7 : (kd == 7) = false := by simpa using k7
  have HB := Lib.hid (show false = b by rw [← hb]; unfold takesB; simp [k3, k4, k5, k6, k7])
  clear hb
  go_enter Tryd.func64, Tryd.ntmps64
  go_wp2
  all_goals
    go_ret
    exact ⟨ret_b (by rw [← HB.out]; skip), HB0.out⟩
end Go.Proofs.YtbnddpicpomakaaDoor

/- The walk of the reference's all. -/
set_option linter.unusedSimpArgs false
set_option linter.unusedVariables false
set_option maxRecDepth 100000
namespace Go.Proofs.YtbnddpicpomakaaDoor
open Go.RowKit

theorem zeroB_dec (v : Vl) : v.zeroB = decide (v = (⟨0, 0, ⟨#[]⟩⟩ : Vl)) := by
  obtain ⟨k, n, s⟩ := v
  unfold Vl.zeroB
  have hs : s.toList.isEmpty = decide (s = ⟨#[]⟩) := by
    rw [ByteArray.toList_eq, Bool.eq_iff_iff, decide_eq_true_iff]
    constructor
    · intro h; exact ByteArray.ext (Array.toList_inj.1 (by simpa using h))
    · rintro rfl; rfl
  rw [hs]
  by_cases h1 : k = 0 <;> by_cases h2 : n = 0 <;> by_cases h3 : s = ⟨#[]⟩ <;> simp [h1, h2, h3]
theorem empty_app (a b : ByteArray) : (a ++ b).toList.isEmpty = (a.toList.isEmpty && b.toList.isEmpty) := by
  rw [ByteArray.toList_eq, ByteArray.toList_eq, ByteArray.toList_eq, ByteArray.data_append, Array.toList_append]
  cases a.data.toList <;> simp

/-- What is known of all, of trees of so many levels. -/
def RAllIs (n : Nat) : Prop := ∀ (y : XM) (W : World), XAt W.heap.size W n y → y.t.allB (fun l k => !l.big k) = true → Calls Tryd.prog 39 #[.agg #[.int .i64 y.t.lab.kd, .int .u8 y.t.lab.v.k, .int .i64 y.t.lab.v.n, .string y.t.lab.v.s, .string y.t.lab.tb, .string y.t.lab.nm, .string y.t.lab.op, .slice y.a y.t.args.length y.cap]] W fun e w' => e = .returned (.bool (y.t.allB Lb.ok)) ∧ Below W.heap.size W w'

set_option maxHeartbeats 8000000 in
theorem RAll_1 (n : Nat) (IH0 : RAllIs n) (vk : Nat) (vn : Int) (vs tb nm op : ByteArray) (args : List Ex) (a : Option Addr) (m cap : Nat) (w : World) (hm : args.length = m) (h : XAt w.heap.size w (n + 1) ⟨.mk ⟨1, ⟨vk, vn, vs⟩, tb, nm, op⟩ args, a, cap⟩) (hz4 : tb.size ≤ 100) (hz5 : nm.size ≤ 100) (hz6 : op.size ≤ 100) (hs : ∀ x ∈ args, x.allB (fun l k => !l.big k) = true) :
    Calls Tryd.prog 39 #[.agg #[.int .i64 1, .int .u8 vk, .int .i64 vn, .string vs, .string tb, .string nm, .string op, .slice a m cap]] w fun e w' => e = .returned (.bool (Lb.ok ⟨1, ⟨vk, vn, vs⟩, tb, nm, op⟩ m && args.all (Rose.allB Lb.ok))) ∧ Below w.heap.size w w' := by
  have IH := Lib.hid IH0
  have HA := Lib.hid h
  have hlen := h.fair.2.1
  have hcap := h.fair.2.2
  simp only [Rose.args] at hlen hcap
  rw [hm] at hlen
  have HBg := Lib.hid hs
  obtain ⟨r, hr⟩ : ∃ r, args.all (Rose.allB Lb.ok) = r := ⟨_, rfl⟩
  rw [hr]
  have HR := Lib.hid hr
  have HR0 : Hid (m = 0 → r = true) := fun h0 => by rw [← hr, List.length_eq_zero_iff.1 (hm.trans h0)]; rfl
  have HM := Lib.hid hm
  clear hs hr hm h IH0
  obtain ⟨w0, hw0⟩ : ∃ w0, w.alloc (.cells #[.int .i64 1, .int .u8 vk, .int .i64 vn, .string vs, .string tb, .string nm, .string op, .slice a m cap] 44) = w0 := ⟨_, rfl⟩
  obtain ⟨w1, hw1⟩ : ∃ w1, w0.alloc (.cells #[.int .u8 0, .int .i64 0, .string ⟨#[]⟩] 36) = w1 := ⟨_, rfl⟩
  have hb0 : Below w.heap.size w w0 := by rw [← hw0]; exact (Below.refl _ w).alloc (Nat.le_refl _) _
  have hb1 : Below w0.heap.size w0 w1 := by rw [← hw1]; exact (Below.refl _ w0).alloc (Nat.le_refl _) _
  have hs0 : w0.heap.size = w.heap.size + 1 := by rw [← hw0]; simp
  have hs1 : w1.heap.size = w0.heap.size + 1 := by rw [← hw1]; simp
  have HX := Lib.hid ((by rw [← hw0]; exact Slot8.new w 44 _ _ _ _ _ _ _ _ : Slot8 w0 w.heap.size (.int .i64 1) (.int .u8 vk) (.int .i64 vn) (.string vs) (.string tb) (.string nm) (.string op) (.slice a m cap)).later (N := w0.heap.size) (by omega) hb1)
  have HZ : Hid (∀ W, Below w1.heap.size w1 W → W.cell? ⟨w0.heap.size, 0, none⟩ = some (.int .u8 0) ∧ W.cell? ⟨w0.heap.size, 1, none⟩ = some (.int .i64 0) ∧ W.cell? ⟨w0.heap.size, 2, none⟩ = some (.string ⟨#[]⟩)) := fun W hb => by
    refine ⟨(hb.cell (p := ⟨w0.heap.size, 0, none⟩) (by show w0.heap.size < _; omega)).trans ?_, (hb.cell (p := ⟨w0.heap.size, 1, none⟩) (by show w0.heap.size < _; omega)).trans ?_, (hb.cell (p := ⟨w0.heap.size, 2, none⟩) (by show w0.heap.size < _; omega)).trans ?_⟩ <;> rw [← hw1, World.cell?_alloc_at _ _ _ _ rfl] <;> rfl
  have HB1 := Lib.hid (hb0.trans (hb1.mono hb0.size))
  have HL : Hid (w.heap.size < w1.heap.size) := by show _ < _; omega
  clear hb0 hb1 hs0 hs1
  obtain ⟨x0, x1, x2, x3, x4, x5, x6, x7⟩ := HX.out
  obtain ⟨z0, z1, z2⟩ := HZ.out w1 (Below.refl _ _)
  have HN := Lib.hid (fun W => RIsName_any20 nm W (by omega))
  have HT := Lib.hid (fun W => RIsName_any20 tb W (by omega))
  have HV := Lib.hid (fun W => rright_any vk vn vs W)
  have HO := Lib.hid (fun W => ROps_any20 1 vk vn vs tb nm op a m cap W)
  obtain ⟨e4, he4⟩ : ∃ e, tb.toList.isEmpty = e := ⟨_, rfl⟩
  obtain ⟨e5, he5⟩ : ∃ e, nm.toList.isEmpty = e := ⟨_, rfl⟩
  obtain ⟨e6, he6⟩ : ∃ e, op.toList.isEmpty = e := ⟨_, rfl⟩
  have he45 : (tb ++ nm).toList.isEmpty = (e4 && e5) := by rw [empty_app, he4, he5]
  have he456 : (tb ++ nm ++ op).toList.isEmpty = ((e4 && e5) && e6) := by rw [empty_app, he45, he6]
  obtain ⟨zv, hzv⟩ : ∃ z, decide ((⟨vk, vn, vs⟩ : Vl) = ⟨0, 0, ⟨#[]⟩⟩) = z := ⟨_, rfl⟩
  have hE : ∀ W, (Op.equalIn 10000 36 (.agg #[.int .u8 vk, .int .i64 vn, .string vs]) (.agg #[.int .u8 0, .int .i64 0, .string ⟨#[]⟩])).run Tryd.prog W = .ok zv W := fun W => eqV20 _ _ _ hzv W
  obtain ⟨b, hb⟩ : ∃ b, (Lb.ok ⟨1, ⟨vk, vn, vs⟩, tb, nm, op⟩ m && r) = b := ⟨_, rfl⟩
  rw [hb]
  unfold Lb.ok at hb
  simp only at hb
  rw [zeroB_dec, hzv, he4, he5, he6] at hb
  clear hzv
  subst hw1
  go_enter Tryd.func39, Tryd.ntmps39
  rw [if_pos trivial] at hb
  by_cases hm0 : m = 0
  rotate_left
  · have q2 : ((m : Int) == 0) = false := by simp; omega
    have HBF : Hid (false = b) := by rw [← hb]; rw [q2]; simp [Hid]
    clear hb
    go_wp2
    go_ret
    exact ⟨ret_b HBF.out, HB1.out⟩
  have hrt : r = true := HR0.out hm0
  subst hrt hm0
  cases hq : (e4 && e5 && e6) with
  | false =>
    rw [hq] at he456
    have HBF : Hid (false = b) := by rw [← hb]; revert hq; cases e4 <;> cases e5 <;> cases e6 <;> simp [Hid]
    clear hb
    go_wp2
    go_ret
    exact ⟨ret_b HBF.out, HB1.out⟩
  | true =>
    rw [hq] at he456
    have he : e4 = true ∧ e5 = true ∧ e6 = true := by revert hq; cases e4 <;> cases e5 <;> cases e6 <;> simp
    obtain ⟨rfl, rfl, rfl⟩ := he
    generalize Vl.right ⟨vk, vn, vs⟩ = rv at *
    obtain ⟨gv, hgv⟩ : ∃ g, decide ((0 : Int) ≤ vn) = g := ⟨_, rfl⟩
    rw [hgv] at hb
    clear hq
    have HBF : Hid ((rv && gv) = b) := by rw [← hb]; cases rv <;> cases gv <;> simp [Hid]
    clear hb
    go_wp2_with fail
    refine (HV.out _).mono ?_
    rintro e w2 ⟨rfl, hb2⟩
    have HB2 := Lib.hid (HB1.out.trans (hb2.mono HB1.out.size))
    clear x0 x1 x2 x3 x4 x5 x6 x7 z0 z1 z2 hw0
    obtain ⟨x0, x1, x2, x3, x4, x5, x6, x7⟩ := HX.out.later HL.out hb2
    clear hb2
    cases rv <;> cases gv <;>
    · go_wp2
      go_ret
      exact ⟨ret_b HBF.out, HB2.out⟩
set_option maxHeartbeats 8000000 in
theorem RAll_2 (n : Nat) (IH0 : RAllIs n) (vk : Nat) (vn : Int) (vs tb nm op : ByteArray) (args : List Ex) (a : Option Addr) (m cap : Nat) (w : World) (hm : args.length = m) (h : XAt w.heap.size w (n + 1) ⟨.mk ⟨2, ⟨vk, vn, vs⟩, tb, nm, op⟩ args, a, cap⟩) (hz4 : tb.size ≤ 100) (hz5 : nm.size ≤ 100) (hz6 : op.size ≤ 100) (hs : ∀ x ∈ args, x.allB (fun l k => !l.big k) = true) :
    Calls Tryd.prog 39 #[.agg #[.int .i64 2, .int .u8 vk, .int .i64 vn, .string vs, .string tb, .string nm, .string op, .slice a m cap]] w fun e w' => e = .returned (.bool (Lb.ok ⟨2, ⟨vk, vn, vs⟩, tb, nm, op⟩ m && args.all (Rose.allB Lb.ok))) ∧ Below w.heap.size w w' := by
  have IH := Lib.hid IH0
  have HA := Lib.hid h
  have hlen := h.fair.2.1
  have hcap := h.fair.2.2
  simp only [Rose.args] at hlen hcap
  rw [hm] at hlen
  have HBg := Lib.hid hs
  obtain ⟨r, hr⟩ : ∃ r, args.all (Rose.allB Lb.ok) = r := ⟨_, rfl⟩
  rw [hr]
  have HR := Lib.hid hr
  have HR0 : Hid (m = 0 → r = true) := fun h0 => by rw [← hr, List.length_eq_zero_iff.1 (hm.trans h0)]; rfl
  have HM := Lib.hid hm
  clear hs hr hm h IH0
  obtain ⟨w0, hw0⟩ : ∃ w0, w.alloc (.cells #[.int .i64 2, .int .u8 vk, .int .i64 vn, .string vs, .string tb, .string nm, .string op, .slice a m cap] 44) = w0 := ⟨_, rfl⟩
  obtain ⟨w1, hw1⟩ : ∃ w1, w0.alloc (.cells #[.int .u8 0, .int .i64 0, .string ⟨#[]⟩] 36) = w1 := ⟨_, rfl⟩
  have hb0 : Below w.heap.size w w0 := by rw [← hw0]; exact (Below.refl _ w).alloc (Nat.le_refl _) _
  have hb1 : Below w0.heap.size w0 w1 := by rw [← hw1]; exact (Below.refl _ w0).alloc (Nat.le_refl _) _
  have hs0 : w0.heap.size = w.heap.size + 1 := by rw [← hw0]; simp
  have hs1 : w1.heap.size = w0.heap.size + 1 := by rw [← hw1]; simp
  have HX := Lib.hid ((by rw [← hw0]; exact Slot8.new w 44 _ _ _ _ _ _ _ _ : Slot8 w0 w.heap.size (.int .i64 2) (.int .u8 vk) (.int .i64 vn) (.string vs) (.string tb) (.string nm) (.string op) (.slice a m cap)).later (N := w0.heap.size) (by omega) hb1)
  have HZ : Hid (∀ W, Below w1.heap.size w1 W → W.cell? ⟨w0.heap.size, 0, none⟩ = some (.int .u8 0) ∧ W.cell? ⟨w0.heap.size, 1, none⟩ = some (.int .i64 0) ∧ W.cell? ⟨w0.heap.size, 2, none⟩ = some (.string ⟨#[]⟩)) := fun W hb => by
    refine ⟨(hb.cell (p := ⟨w0.heap.size, 0, none⟩) (by show w0.heap.size < _; omega)).trans ?_, (hb.cell (p := ⟨w0.heap.size, 1, none⟩) (by show w0.heap.size < _; omega)).trans ?_, (hb.cell (p := ⟨w0.heap.size, 2, none⟩) (by show w0.heap.size < _; omega)).trans ?_⟩ <;> rw [← hw1, World.cell?_alloc_at _ _ _ _ rfl] <;> rfl
  have HB1 := Lib.hid (hb0.trans (hb1.mono hb0.size))
  have HL : Hid (w.heap.size < w1.heap.size) := by show _ < _; omega
  clear hb0 hb1 hs0 hs1
  obtain ⟨x0, x1, x2, x3, x4, x5, x6, x7⟩ := HX.out
  obtain ⟨z0, z1, z2⟩ := HZ.out w1 (Below.refl _ _)
  have HN := Lib.hid (fun W => RIsName_any20 nm W (by omega))
  have HT := Lib.hid (fun W => RIsName_any20 tb W (by omega))
  have HV := Lib.hid (fun W => rright_any vk vn vs W)
  have HO := Lib.hid (fun W => ROps_any20 2 vk vn vs tb nm op a m cap W)
  obtain ⟨e4, he4⟩ : ∃ e, tb.toList.isEmpty = e := ⟨_, rfl⟩
  obtain ⟨e5, he5⟩ : ∃ e, nm.toList.isEmpty = e := ⟨_, rfl⟩
  obtain ⟨e6, he6⟩ : ∃ e, op.toList.isEmpty = e := ⟨_, rfl⟩
  have he45 : (tb ++ nm).toList.isEmpty = (e4 && e5) := by rw [empty_app, he4, he5]
  have he456 : (tb ++ nm ++ op).toList.isEmpty = ((e4 && e5) && e6) := by rw [empty_app, he45, he6]
  obtain ⟨zv, hzv⟩ : ∃ z, decide ((⟨vk, vn, vs⟩ : Vl) = ⟨0, 0, ⟨#[]⟩⟩) = z := ⟨_, rfl⟩
  have hE : ∀ W, (Op.equalIn 10000 36 (.agg #[.int .u8 vk, .int .i64 vn, .string vs]) (.agg #[.int .u8 0, .int .i64 0, .string ⟨#[]⟩])).run Tryd.prog W = .ok zv W := fun W => eqV20 _ _ _ hzv W
  obtain ⟨b, hb⟩ : ∃ b, (Lb.ok ⟨2, ⟨vk, vn, vs⟩, tb, nm, op⟩ m && r) = b := ⟨_, rfl⟩
  rw [hb]
  unfold Lb.ok at hb
  simp only at hb
  rw [zeroB_dec, hzv, he4, he5, he6] at hb
  clear hzv
  subst hw1
  go_enter Tryd.func39, Tryd.ntmps39
  rw [if_neg (by decide), if_pos trivial] at hb
  by_cases hm0 : m = 0
  rotate_left
  · have q2 : ((m : Int) == 0) = false := by simp; omega
    have HBF : Hid (false = b) := by rw [← hb]; rw [q2]; simp [Hid]
    clear hb
    go_wp2
    go_ret
    exact ⟨ret_b HBF.out, HB1.out⟩
  have hrt : r = true := HR0.out hm0
  subst hrt hm0
  cases zv with
  | false =>
    have HBF : Hid (false = b) := by rw [← hb]; simp [Hid]
    clear hb
    go_wp2
    go_ret
    exact ⟨ret_b HBF.out, HB1.out⟩
  | true =>
  cases e6 with
  | false =>
    have HBF : Hid (false = b) := by rw [← hb]; simp [Hid]
    clear hb
    go_wp2
    go_ret
    exact ⟨ret_b HBF.out, HB1.out⟩
  | true =>
  generalize isX nm = xn at *
  generalize isX tb = xt at *
  have HBF : Hid ((xn && (e4 || xt)) = b) := by rw [← hb]; cases xn <;> cases e4 <;> cases xt <;> simp [Hid]
  clear hb
  cases xn <;> cases e4
  · go_wp2_with fail
    refine (HN.out _).mono ?_
    rintro e w2 ⟨rfl, hb2⟩
    have HB2 := Lib.hid (HB1.out.trans (hb2.mono HB1.out.size))
    clear x0 x1 x2 x3 x4 x5 x6 x7 z0 z1 z2 hw0
    obtain ⟨x0, x1, x2, x3, x4, x5, x6, x7⟩ := HX.out.later HL.out hb2
    have HL2 : Hid (w.heap.size < w2.heap.size) := Nat.lt_of_lt_of_le HL.out hb2.size
    clear hb2
    go_wp2
    go_ret
    exact ⟨ret_b HBF.out, HB2.out⟩
  · go_wp2_with fail
    refine (HN.out _).mono ?_
    rintro e w2 ⟨rfl, hb2⟩
    have HB2 := Lib.hid (HB1.out.trans (hb2.mono HB1.out.size))
    clear x0 x1 x2 x3 x4 x5 x6 x7 z0 z1 z2 hw0
    obtain ⟨x0, x1, x2, x3, x4, x5, x6, x7⟩ := HX.out.later HL.out hb2
    have HL2 : Hid (w.heap.size < w2.heap.size) := Nat.lt_of_lt_of_le HL.out hb2.size
    clear hb2
    go_wp2
    go_ret
    exact ⟨ret_b HBF.out, HB2.out⟩
  · go_wp2_with fail
    refine (HN.out _).mono ?_
    rintro e w2 ⟨rfl, hb2⟩
    have HB2 := Lib.hid (HB1.out.trans (hb2.mono HB1.out.size))
    clear x0 x1 x2 x3 x4 x5 x6 x7 z0 z1 z2 hw0
    obtain ⟨x0, x1, x2, x3, x4, x5, x6, x7⟩ := HX.out.later HL.out hb2
    have HL2 : Hid (w.heap.size < w2.heap.size) := Nat.lt_of_lt_of_le HL.out hb2.size
    clear hb2
    go_wp2_with fail
    refine (HT.out _).mono ?_
    rintro e w3 ⟨rfl, hb3⟩
    have HB3 := Lib.hid (HB2.out.trans (hb3.mono HB2.out.size))
    clear hb3 x0 x1 x2 x3 x4 x5 x6 x7
    cases xt <;>
    · go_wp2
      go_ret
      exact ⟨ret_b HBF.out, HB3.out⟩
  · go_wp2_with fail
    refine (HN.out _).mono ?_
    rintro e w2 ⟨rfl, hb2⟩
    have HB2 := Lib.hid (HB1.out.trans (hb2.mono HB1.out.size))
    clear x0 x1 x2 x3 x4 x5 x6 x7 z0 z1 z2 hw0
    obtain ⟨x0, x1, x2, x3, x4, x5, x6, x7⟩ := HX.out.later HL.out hb2
    have HL2 : Hid (w.heap.size < w2.heap.size) := Nat.lt_of_lt_of_le HL.out hb2.size
    clear hb2
    go_wp2
    go_ret
    exact ⟨ret_b HBF.out, HB2.out⟩
set_option maxHeartbeats 8000000 in
theorem RAll_3 (n : Nat) (IH0 : RAllIs n) (kd : Int) (vk : Nat) (vn : Int) (vs tb nm op : ByteArray) (args : List Ex) (a : Option Addr) (m cap : Nat) (k1 : kd ≠ 1) (k2 : kd ≠ 2) (w : World) (hm : args.length = m) (h : XAt w.heap.size w (n + 1) ⟨.mk ⟨kd, ⟨vk, vn, vs⟩, tb, nm, op⟩ args, a, cap⟩) (hz4 : tb.size ≤ 100) (hz5 : nm.size ≤ 100) (hz6 : op.size ≤ 100) (hs : ∀ x ∈ args, x.allB (fun l k => !l.big k) = true) :
    Calls Tryd.prog 39 #[.agg #[.int .i64 kd, .int .u8 vk, .int .i64 vn, .string vs, .string tb, .string nm, .string op, .slice a m cap]] w fun e w' => e = .returned (.bool (Lb.ok ⟨kd, ⟨vk, vn, vs⟩, tb, nm, op⟩ m && args.all (Rose.allB Lb.ok))) ∧ Below w.heap.size w w' := by
  have IH := Lib.hid IH0
  have HA := Lib.hid h
  have hlen := h.fair.2.1
  have hcap := h.fair.2.2
  simp only [Rose.args] at hlen hcap
  rw [hm] at hlen
  have HBg := Lib.hid hs
  obtain ⟨r, hr⟩ : ∃ r, args.all (Rose.allB Lb.ok) = r := ⟨_, rfl⟩
  rw [hr]
  have HR := Lib.hid hr
  have HR0 : Hid (m = 0 → r = true) := fun h0 => by rw [← hr, List.length_eq_zero_iff.1 (hm.trans h0)]; rfl
  have HM := Lib.hid hm
  clear hs hr hm h IH0
  obtain ⟨w0, hw0⟩ : ∃ w0, w.alloc (.cells #[.int .i64 kd, .int .u8 vk, .int .i64 vn, .string vs, .string tb, .string nm, .string op, .slice a m cap] 44) = w0 := ⟨_, rfl⟩
  obtain ⟨w1, hw1⟩ : ∃ w1, w0.alloc (.cells #[.int .u8 0, .int .i64 0, .string ⟨#[]⟩] 36) = w1 := ⟨_, rfl⟩
  have hb0 : Below w.heap.size w w0 := by rw [← hw0]; exact (Below.refl _ w).alloc (Nat.le_refl _) _
  have hb1 : Below w0.heap.size w0 w1 := by rw [← hw1]; exact (Below.refl _ w0).alloc (Nat.le_refl _) _
  have hs0 : w0.heap.size = w.heap.size + 1 := by rw [← hw0]; simp
  have hs1 : w1.heap.size = w0.heap.size + 1 := by rw [← hw1]; simp
  have HX := Lib.hid ((by rw [← hw0]; exact Slot8.new w 44 _ _ _ _ _ _ _ _ : Slot8 w0 w.heap.size (.int .i64 kd) (.int .u8 vk) (.int .i64 vn) (.string vs) (.string tb) (.string nm) (.string op) (.slice a m cap)).later (N := w0.heap.size) (by omega) hb1)
  have HZ : Hid (∀ W, Below w1.heap.size w1 W → W.cell? ⟨w0.heap.size, 0, none⟩ = some (.int .u8 0) ∧ W.cell? ⟨w0.heap.size, 1, none⟩ = some (.int .i64 0) ∧ W.cell? ⟨w0.heap.size, 2, none⟩ = some (.string ⟨#[]⟩)) := fun W hb => by
    refine ⟨(hb.cell (p := ⟨w0.heap.size, 0, none⟩) (by show w0.heap.size < _; omega)).trans ?_, (hb.cell (p := ⟨w0.heap.size, 1, none⟩) (by show w0.heap.size < _; omega)).trans ?_, (hb.cell (p := ⟨w0.heap.size, 2, none⟩) (by show w0.heap.size < _; omega)).trans ?_⟩ <;> rw [← hw1, World.cell?_alloc_at _ _ _ _ rfl] <;> rfl
  have HB1 := Lib.hid (hb0.trans (hb1.mono hb0.size))
  have HL : Hid (w.heap.size < w1.heap.size) := by show _ < _; omega
  clear hb0 hb1 hs0 hs1
  obtain ⟨x0, x1, x2, x3, x4, x5, x6, x7⟩ := HX.out
  obtain ⟨z0, z1, z2⟩ := HZ.out w1 (Below.refl _ _)
  have HN := Lib.hid (fun W => RIsName_any20 nm W (by omega))
  have HT := Lib.hid (fun W => RIsName_any20 tb W (by omega))
  have HV := Lib.hid (fun W => rright_any vk vn vs W)
  have HO := Lib.hid (fun W => ROps_any20 kd vk vn vs tb nm op a m cap W)
  obtain ⟨e4, he4⟩ : ∃ e, tb.toList.isEmpty = e := ⟨_, rfl⟩
  obtain ⟨e5, he5⟩ : ∃ e, nm.toList.isEmpty = e := ⟨_, rfl⟩
  obtain ⟨e6, he6⟩ : ∃ e, op.toList.isEmpty = e := ⟨_, rfl⟩
  have he45 : (tb ++ nm).toList.isEmpty = (e4 && e5) := by rw [empty_app, he4, he5]
  have he456 : (tb ++ nm ++ op).toList.isEmpty = ((e4 && e5) && e6) := by rw [empty_app, he45, he6]
  obtain ⟨zv, hzv⟩ : ∃ z, decide ((⟨vk, vn, vs⟩ : Vl) = ⟨0, 0, ⟨#[]⟩⟩) = z := ⟨_, rfl⟩
  have hE : ∀ W, (Op.equalIn 10000 36 (.agg #[.int .u8 vk, .int .i64 vn, .string vs]) (.agg #[.int .u8 0, .int .i64 0, .string ⟨#[]⟩])).run Tryd.prog W = .ok zv W := fun W => eqV20 _ _ _ hzv W
  obtain ⟨b, hb⟩ : ∃ b, (Lb.ok ⟨kd, ⟨vk, vn, vs⟩, tb, nm, op⟩ m && r) = b := ⟨_, rfl⟩
  rw [hb]
  unfold Lb.ok at hb
  simp only at hb
  rw [zeroB_dec, hzv, he4, he5, he6] at hb
  clear hzv
  subst hw1
  go_enter Tryd.func39, Tryd.ntmps39
  have q1 : (kd == 1) = false := by simpa using k1
  have q2 : (kd == 2) = false := by simpa using k2
  rw [if_neg k1, if_neg k2] at hb
  clear k1 k2
  cases zv with
  | false =>
    have HBF : Hid (false = b) := by rw [← hb]; simp [Hid]
    clear hb
    go_wp2
    go_ret
    exact ⟨ret_b HBF.out, HB1.out⟩
  | true =>
  cases hq : (e4 && e5) with
  | false =>
    rw [hq] at he45
    have HBF : Hid (false = b) := by rw [← hb]; revert hq; cases e4 <;> cases e5 <;> simp [Hid]
    clear hb
    go_wp2
    go_ret
    exact ⟨ret_b HBF.out, HB1.out⟩
  | true =>
  rw [hq] at he45
  have he : e4 = true ∧ e5 = true := by revert hq; cases e4 <;> cases e5 <;> simp
  obtain ⟨rfl, rfl⟩ := he
  generalize takesB kd op m = o at *
  have HBF : Hid ((o && r) = b) := by rw [← hb]; simp [Hid]
  clear hb hq
  go_wp2_with fail
  refine (HO.out _).mono ?_
  rintro e w2 ⟨rfl, hb2⟩
  have HB2 := Lib.hid (HB1.out.trans (hb2.mono HB1.out.size))
  clear x0 x1 x2 x3 x4 x5 x6 x7 z0 z1 z2 hw0
  have HX2 := Lib.hid (HX.out.later HL.out hb2)
  have HL2 : Hid (w.heap.size < w2.heap.size) := Nat.lt_of_lt_of_le HL.out hb2.size
  clear hb2
  obtain ⟨x0, x1, x2, x3, x4, x5, x6, x7⟩ := HX2.out
  cases o with
  | false =>
    have HBF2 : Hid (false = b) := by rw [← HBF.out]; simp [Hid]
    go_wp2
    go_ret
    exact ⟨ret_b HBF2.out, HB2.out⟩
  | true =>
  have hbr : r = b := by rw [← HBF.out]; simp
  subst hbr
  clear HBF HV HN HT HO
  go_wp2
  clear x0 x1 x2 x3 x4 x5 x6 x7
  go_loopw [4] (fun i wr => ∃ k : Nat, k ≤ m ∧ i = .int .i64 (k : Int) ∧ Hid ((args.take k).all (Rose.allB Lb.ok) = true) ∧ Hid (Below w2.heap.size w2 wr)) (fun i _ => m - (intOf i).toNat)
  case atStart => exact ⟨0, by omega, rfl, by simp [Hid], Below.refl _ _⟩
  case round =>
    obtain ⟨k, hk, rfl, HG, HBr⟩ := hrel
    obtain ⟨x0, x1, x2, x3, x4, x5, x6, x7⟩ := HX2.out.later HL2.out HBr.out
    have HBw := Lib.hid (HB2.out.trans (HBr.out.mono HB2.out.size))
    by_cases hlt : k < m
    · have hkl : k < args.length := by rw [HM.out]; exact hlt
      obtain ⟨y, hy, hAy, b, o, hab, hbN, hKid⟩ := (HA.out.later HBw.out).kid8 (k := k) hkl
      simp only [Rose.args] at hab hy
      subst hab
      have HTk : Hid ((args.take (k + 1)).all (Rose.allB Lb.ok) = y.t.allB Lb.ok) := by
        rw [List.take_succ_eq_append_getElem hkl, List.all_append, HG.out, ← hy]; simp [Hid]
      have HTr : Hid (y.t.allB Lb.ok = false → r = false) := fun hg => by
        rw [← HR.out, Bool.eq_false_iff]
        intro ht
        have := List.all_eq_true.1 ht _ (List.getElem_mem hkl)
        rw [← hy, hg] at this; cases this
      have HY := Lib.hid (IH.out y wr hAy (by rw [hy]; exact HBg.out _ (List.getElem_mem hkl)))
      generalize y.t.allB Lb.ok = g at *
      obtain ⟨y0, y1, y2, y3, y4, y5, y6, y7⟩ := hKid
      clear hy hAy HA IH hkl HG HBg
      cases g with
      | false =>
        have hrf : r = false := HTr.out rfl
        subst hrf
        go_wp2_with fail
        refine HY.out.mono ?_
        rintro e w3 ⟨rfl, hb3⟩
        have HB3 := Lib.hid (HBw.out.trans (hb3.mono HBw.out.size))
        clear hb3 HY
        go_wp2
        go_ret
        exact ⟨rfl, HB3.out⟩
      | true =>
        go_wp2_with fail
        refine HY.out.mono ?_
        rintro e w3 ⟨rfl, hb3⟩
        have HB3 := Lib.hid (HBr.out.trans (hb3.mono HBr.out.size))
        clear hb3 HY y0 y1 y2 y3 y4 y5 y6 y7 x0 x1 x2 x3 x4 x5 x6 x7
        go_wp2
        go_roundw
        case rel => exact ⟨k + 1, by omega, by go_num, HTk.out, HB3.out⟩
        case measure => simp [intOf]; omega
    · have hrt : r = true := by
        have := HG.out
        rw [show k = m by omega, ← HM.out, List.take_length] at this
        rw [← HR.out]; exact this
      subst hrt
      go_wp2
      go_ret
      exact ⟨rfl, HBw.out⟩
theorem RAll_any20 : ∀ n, RAllIs n
  | 0 => fun _ _ h _ => h.elim
  | n + 1 => fun y w h hs => by
    obtain ⟨⟨⟨kd, ⟨vk, vn, vs⟩, tb, nm, op⟩, args⟩, a, cap⟩ := y
    rw [Rose.allB_eq, Bool.and_eq_true] at hs
    have hbig := hs.1
    have hk := List.all_eq_true.1 hs.2
    rw [Rose.allB_eq]
    simp only [Rose.args, Rose.lab, Lb.big, Bool.not_eq_true', Bool.or_eq_false_iff, decide_eq_false_iff_not] at hbig hk ⊢
    obtain ⟨⟨g1, g2⟩, g3⟩ := hbig
    have g4 : nm.size + tb.size + op.size ≤ 100 := Nat.le_of_not_lt (of_decide_eq_false g2)
    clear g1 g2 g3
    by_cases k1 : kd = 1
    · subst k1
      exact RAll_1 n (RAll_any20 n) vk vn vs tb nm op args a _ cap w rfl h (by omega) (by omega) (by omega) hk
    · by_cases k2 : kd = 2
      · subst k2
        exact RAll_2 n (RAll_any20 n) vk vn vs tb nm op args a _ cap w rfl h (by omega) (by omega) (by omega) hk
      · exact RAll_3 n (RAll_any20 n) kd vk vn vs tb nm op args a _ cap k1 k2 w rfl h (by omega) (by omega) (by omega) hk
end Go.Proofs.YtbnddpicpomakaaDoor

/- The walk of the reference's Right. -/
set_option linter.unusedSimpArgs false
set_option linter.unusedVariables false
set_option maxRecDepth 100000
namespace Go.Proofs.YtbnddpicpomakaaDoor
open Go.RowKit

set_option maxHeartbeats 2000000 in
theorem RRight_any20 (n : Nat) (x : XM) (w : World) (h : XAt w.heap.size w n x) (hs : x.t.allB (fun l k => !l.big k) = true) :
    Calls Tryd.prog 18 #[x.v] w fun e w' => e = .returned (.bool (rightX 20 x.t)) ∧ Below w.heap.size w w' := by
  have HA := Lib.hid h
  have HD : Hid (∀ W, Below w.heap.size w W → Calls Tryd.prog 38 #[.agg #[.int .i64 x.t.lab.kd, .int .u8 x.t.lab.v.k, .int .i64 x.t.lab.v.n, .string x.t.lab.v.s, .string x.t.lab.tb, .string x.t.lab.nm, .string x.t.lab.op, .slice x.a x.t.args.length x.cap], .int .i64 20] W fun e w' => e = .returned (.int .i64 ((min x.t.depth 21 : Nat) : Int)) ∧ Below W.heap.size W w') := fun W hb => by
    have := RDeep_any20 n x W 20 (HA.out.later hb) (by omega); rw [XM.v_eq] at this; exact this
  have HL2 : Hid (∀ W, Below w.heap.size w W → Calls Tryd.prog 39 #[.agg #[.int .i64 x.t.lab.kd, .int .u8 x.t.lab.v.k, .int .i64 x.t.lab.v.n, .string x.t.lab.v.s, .string x.t.lab.tb, .string x.t.lab.nm, .string x.t.lab.op, .slice x.a x.t.args.length x.cap]] W fun e w' => e = .returned (.bool (x.t.allB Lb.ok)) ∧ Below W.heap.size W w') := fun W hb => RAll_any20 n x W (HA.out.later hb) hs
  rw [XM.v_eq, rightX_eq]
  obtain ⟨d, hd⟩ : ∃ d, min x.t.depth 21 = d := ⟨_, rfl⟩
  have hdd : decide (x.t.depth ≤ 20) = decide (d ≤ 20) := by rw [Bool.eq_iff_iff]; simp; omega
  rw [hd] at HD
  rw [hdd]
  generalize x.t.allB Lb.ok = b at *
  have HX := Lib.hid (Slot8.new w 44 (.int .i64 x.t.lab.kd) (.int .u8 x.t.lab.v.k) (.int .i64 x.t.lab.v.n) (.string x.t.lab.v.s) (.string x.t.lab.tb) (.string x.t.lab.nm) (.string x.t.lab.op) (.slice x.a x.t.args.length x.cap))
  obtain ⟨w0, hw0⟩ : ∃ w0, w.alloc (.cells #[.int .i64 x.t.lab.kd, .int .u8 x.t.lab.v.k, .int .i64 x.t.lab.v.n, .string x.t.lab.v.s, .string x.t.lab.tb, .string x.t.lab.nm, .string x.t.lab.op, .slice x.a x.t.args.length x.cap] 44) = w0 := ⟨_, rfl⟩
  have HB0 : Hid (Below w.heap.size w w0) := by rw [← hw0]; exact (Below.refl _ w).alloc (Nat.le_refl _) _
  have HL : Hid (w.heap.size < w0.heap.size) := by rw [← hw0]; simp [Hid]
  rw [hw0] at HX
  have HX0 := HX
  have HZ0 : Hid (w0.heap.size ≤ w0.heap.size) := Nat.le_refl _
  obtain ⟨x0, x1, x2, x3, x4, x5, x6, x7⟩ := HX.out
  clear h hs hd hdd HA
  by_cases hd20 : d ≤ 20
  · have q1 : decide ((d : Int) ≤ 20) = true := by simp; omega
    have q2 : decide (d ≤ 20) = true := by simp; omega
    rw [q2]
    cases b
    · go_enter Tryd.func18, Tryd.ntmps18
      go_wp2_with fail
      refine (HD.out _ HB0.out).mono ?_
      rintro e w1 ⟨rfl, hb1⟩
      have HB1 := Lib.hid (HB0.out.trans (hb1.mono HB0.out.size))
      have HX1 := Lib.hid (HX0.out.later (Nat.lt_of_lt_of_le HL.out (by have := HB0.out.size; have := HZ0.out; omega)) hb1)
      have HZ1 : Hid (w0.heap.size ≤ w1.heap.size) := Nat.le_trans HZ0.out hb1.size
      clear hb1 x0 x1 x2 x3 x4 x5 x6 x7
      obtain ⟨x0, x1, x2, x3, x4, x5, x6, x7⟩ := HX1.out
      go_wp2_with fail
      refine (HL2.out _ HB1.out).mono ?_
      rintro e w2 ⟨rfl, hb2⟩
      have HB2 := Lib.hid (HB1.out.trans (hb2.mono HB1.out.size))
      have HX2 := Lib.hid (HX1.out.later (Nat.lt_of_lt_of_le HL.out (by have := HB1.out.size; have := HZ1.out; omega)) hb2)
      have HZ2 : Hid (w0.heap.size ≤ w2.heap.size) := Nat.le_trans HZ1.out hb2.size
      clear hb2 x0 x1 x2 x3 x4 x5 x6 x7
      obtain ⟨x0, x1, x2, x3, x4, x5, x6, x7⟩ := HX2.out
      go_wp2
      go_ret
      exact ⟨ret_b (by simp), HB2.out⟩
    · go_enter Tryd.func18, Tryd.ntmps18
      go_wp2_with fail
      refine (HD.out _ HB0.out).mono ?_
      rintro e w1 ⟨rfl, hb1⟩
      have HB1 := Lib.hid (HB0.out.trans (hb1.mono HB0.out.size))
      have HX1 := Lib.hid (HX0.out.later (Nat.lt_of_lt_of_le HL.out (by have := HB0.out.size; have := HZ0.out; omega)) hb1)
      have HZ1 : Hid (w0.heap.size ≤ w1.heap.size) := Nat.le_trans HZ0.out hb1.size
      clear hb1 x0 x1 x2 x3 x4 x5 x6 x7
      obtain ⟨x0, x1, x2, x3, x4, x5, x6, x7⟩ := HX1.out
      go_wp2_with fail
      refine (HL2.out _ HB1.out).mono ?_
      rintro e w2 ⟨rfl, hb2⟩
      have HB2 := Lib.hid (HB1.out.trans (hb2.mono HB1.out.size))
      have HX2 := Lib.hid (HX1.out.later (Nat.lt_of_lt_of_le HL.out (by have := HB1.out.size; have := HZ1.out; omega)) hb2)
      have HZ2 : Hid (w0.heap.size ≤ w2.heap.size) := Nat.le_trans HZ1.out hb2.size
      clear hb2 x0 x1 x2 x3 x4 x5 x6 x7
      obtain ⟨x0, x1, x2, x3, x4, x5, x6, x7⟩ := HX2.out
      go_wp2
      go_ret
      exact ⟨ret_b (by simp), HB2.out⟩
  · have q1 : decide ((d : Int) ≤ 20) = false := by simp; omega
    have q2 : decide (d ≤ 20) = false := by simp; omega
    rw [q2]
    go_enter Tryd.func18, Tryd.ntmps18
    go_wp2_with fail
    refine (HD.out _ HB0.out).mono ?_
    rintro e w1 ⟨rfl, hb1⟩
    have HB1 := Lib.hid (HB0.out.trans (hb1.mono HB0.out.size))
    have HX1 := Lib.hid (HX0.out.later (Nat.lt_of_lt_of_le HL.out (by have := HB0.out.size; have := HZ0.out; omega)) hb1)
    have HZ1 : Hid (w0.heap.size ≤ w1.heap.size) := Nat.le_trans HZ0.out hb1.size
    clear hb1 x0 x1 x2 x3 x4 x5 x6 x7
    obtain ⟨x0, x1, x2, x3, x4, x5, x6, x7⟩ := HX1.out
    go_wp2
    go_ret
    exact ⟨ret_b (by simp), HB1.out⟩

end Go.Proofs.YtbnddpicpomakaaDoor

/- The walk of the law SyntaxParts. -/
set_option linter.unusedSimpArgs false
set_option linter.unusedVariables false
set_option maxRecDepth 100000
namespace Go.Proofs.YtbnddpicpomakaaDoor
open Go.RowKit

theorem allB_mono {p q : Lb → Nat → Bool} (h : ∀ l k, p l k = true → q l k = true) (e : Ex) : e.allB p = true → e.allB q = true := by
  induction e using Rose.ind with
  | h l args ih =>
    rw [Rose.allB_eq, Rose.allB_eq, Bool.and_eq_true, Bool.and_eq_true, List.all_eq_true, List.all_eq_true]
    exact fun h2 => ⟨h _ _ h2.1, fun x hx => ih x hx (h2.2 x hx)⟩
theorem small_all {e : Ex} (h : e.allB (fun l k => !l.big k) = true) : e.allB (fun _ k => decide (k ≤ 1000000)) = true :=
  allB_mono (fun l k hb => by have := (Lb.small (by simpa using hb : l.big k = false)).n; simp; omega) e h
theorem great_small {n : Nat} {e : Ex} (h : greatX n e = false) : e.allB (fun l k => !l.big k) = true := by
  rw [greatX_fits, Rose.fits_eq] at h
  simp only [Bool.not_eq_false', Bool.and_eq_true] at h
  exact h.1
/-- What holds of all parts holds of what is picked. -/
theorem pick_all (p : Lb → Nat → Bool) (kd : Int) (deep : Bool) (e : Ex) : e.allB p = true → ∀ y ∈ pickX kd deep e, y.allB p = true := by
  induction e using Rose.ind with
  | h l args ih =>
    intro h y hy
    rw [pickX_eq, List.mem_append] at hy
    rcases hy with hy | hy
    · unfold pickL at hy
      split at hy
      · rw [List.mem_singleton.1 hy]; exact h
      · cases hy
    · split at hy
      · cases hy
      · obtain ⟨z, hz, hy⟩ := List.mem_flatMap.1 hy
        rw [Rose.allB_eq, Bool.and_eq_true, List.all_eq_true] at h
        exact ih z hz (h.2 z hz) y hy
theorem row_small {L : List XM} {kd : Int} {deep : Bool} {e : Ex} (hL : L.map (·.t) = pickX kd deep e) (h : e.allB (fun _ k => decide (k ≤ 1000000)) = true) : ∀ y ∈ L, y.t.args.length ≤ 1000000 ∧ y.t.allB (fun _ k => decide (k ≤ 1000000)) = true := by
  intro y hy
  have h1 : y.t ∈ pickX kd deep e := by rw [← hL]; exact List.mem_map_of_mem hy
  have h2 := pick_all _ kd deep e h y.t h1
  refine ⟨?_, h2⟩
  rw [Rose.allB_eq, Bool.and_eq_true] at h2
  simpa using h2.1

/-- A row of expressions lies there. -/
structure RowX (W : World) (n : Nat) (a : Option Addr) (L : List XM) : Prop where
  arr : Arr W.heap.size W a (cellsOf cellsX L)
  kid : ∀ y ∈ L, XAt W.heap.size W n y
theorem RowX.later {W W' : World} {n : Nat} {a : Option Addr} {L : List XM} (h : RowX W n a L) (hb : Below W.heap.size W W') : RowX W' n a L :=
  ⟨(h.arr.below hb).mono hb.size, fun y hy => (h.kid y hy).later hb⟩

/-- The expression lies there as it came, and laid out anew. -/
structure PartE (w W : World) (n C : Nat) (x q : XM) : Prop where
  e : Slot8 W w.heap.size (.int .i64 x.t.lab.kd) (.int .u8 x.t.lab.v.k) (.int .i64 x.t.lab.v.n) (.string x.t.lab.v.s) (.string x.t.lab.tb) (.string x.t.lab.nm) (.string x.t.lab.op) (.slice x.a x.t.args.length x.cap)
  a : Slot8 W C (.int .i64 q.t.lab.kd) (.int .u8 q.t.lab.v.k) (.int .i64 q.t.lab.v.n) (.string q.t.lab.v.s) (.string q.t.lab.tb) (.string q.t.lab.nm) (.string q.t.lab.op) (.slice q.a q.t.args.length q.cap)
  lt : w.heap.size < W.heap.size ∧ C < W.heap.size
  xat : XAt W.heap.size W n x
  qat : XAt W.heap.size W n q
  bel : Below w.heap.size w W
theorem PartE.later {w W W' : World} {n C : Nat} {x q : XM} (h : PartE w W n C x q) (hb : Below W.heap.size W W') : PartE w W' n C x q :=
  ⟨h.e.later h.lt.1 hb, h.a.later h.lt.2 hb, ⟨Nat.lt_of_lt_of_le h.lt.1 hb.size, Nat.lt_of_lt_of_le h.lt.2 hb.size⟩, h.xat.later hb, h.qat.later hb, h.bel.trans (hb.mono h.bel.size)⟩
theorem PartE.new {w W : World} {n : Nat} {x q : XM} (he : Slot8 W w.heap.size (.int .i64 x.t.lab.kd) (.int .u8 x.t.lab.v.k) (.int .i64 x.t.lab.v.n) (.string x.t.lab.v.s) (.string x.t.lab.tb) (.string x.t.lab.nm) (.string x.t.lab.op) (.slice x.a x.t.args.length x.cap)) (hlt : w.heap.size < W.heap.size) (hx : XAt W.heap.size W n x) (hq : XAt W.heap.size W n q) (hb : Below w.heap.size w W) :
    PartE w (W.alloc (.cells #[.int .i64 q.t.lab.kd, .int .u8 q.t.lab.v.k, .int .i64 q.t.lab.v.n, .string q.t.lab.v.s, .string q.t.lab.tb, .string q.t.lab.nm, .string q.t.lab.op, .slice q.a q.t.args.length q.cap] 44)) n W.heap.size x q := by
  have b1 : Below W.heap.size W (W.alloc (.cells #[.int .i64 q.t.lab.kd, .int .u8 q.t.lab.v.k, .int .i64 q.t.lab.v.n, .string q.t.lab.v.s, .string q.t.lab.tb, .string q.t.lab.nm, .string q.t.lab.op, .slice q.a q.t.args.length q.cap] 44)) := (Below.refl _ W).alloc (Nat.le_refl _) _
  exact ⟨he.later hlt b1, Slot8.new W 44 (.int .i64 q.t.lab.kd) (.int .u8 q.t.lab.v.k) (.int .i64 q.t.lab.v.n) (.string q.t.lab.v.s) (.string q.t.lab.tb) (.string q.t.lab.nm) (.string q.t.lab.op) (.slice q.a q.t.args.length q.cap), ⟨by simp; omega, by simp⟩, hx.later b1, hq.later b1, hb.trans (b1.mono hb.size)⟩

set_option maxHeartbeats 8000000 in
theorem parts_walk (x : XM) (n : Nat) (w : World) (h : XAt w.heap.size w n x) (hT : Pre4 w) :
    Calls Tryd.prog 5 #[x.v] w fun e w' => e = .returned (.bool true) ∧ Below w.heap.size w w' := by
  rw [XM.v_eq]
  have HAl := Lib.hid (fun W (hb : Below w.heap.size w W) => alive20_any W (hT.below hb))
  have HX := Lib.hid (Slot8.new w 39 (.int .i64 x.t.lab.kd) (.int .u8 x.t.lab.v.k) (.int .i64 x.t.lab.v.n) (.string x.t.lab.v.s) (.string x.t.lab.tb) (.string x.t.lab.nm) (.string x.t.lab.op) (.slice x.a x.t.args.length x.cap))
  obtain ⟨w0, hw0⟩ : ∃ w0, w.alloc (.cells #[.int .i64 x.t.lab.kd, .int .u8 x.t.lab.v.k, .int .i64 x.t.lab.v.n, .string x.t.lab.v.s, .string x.t.lab.tb, .string x.t.lab.nm, .string x.t.lab.op, .slice x.a x.t.args.length x.cap] 39) = w0 := ⟨_, rfl⟩
  have HB0 : Hid (Below w.heap.size w w0) := by rw [← hw0]; exact (Below.refl _ w).alloc (Nat.le_refl _) _
  have hs0 : w0.heap.size = w.heap.size + 1 := by rw [← hw0]; simp
  rw [hw0] at HX
  have HZ := Lib.hid hs0
  have HXA := Lib.hid h
  have HCn : Hid (∀ (W : World), XAt W.heap.size W n x → Calls Tryd.prog 12 #[.agg #[.int .i64 x.t.lab.kd, .int .u8 x.t.lab.v.k, .int .i64 x.t.lab.v.n, .string x.t.lab.v.s, .string x.t.lab.tb, .string x.t.lab.nm, .string x.t.lab.op, .slice x.a x.t.args.length x.cap], .int .i64 0] W fun e w' => e = .returned (.int .i64 ((min (0 + x.t.count) 3000 : Nat) : Int)) ∧ Below W.heap.size W w') := fun W hW => by
    have := xCnt_any n x W 0 hW (by omega); rw [XM.v_eq] at this; exact this
  obtain ⟨c, hc⟩ : ∃ c, min (0 + x.t.count) 3000 = c := ⟨_, rfl⟩
  rw [hc] at HCn
  have HGr : Hid (∀ (W : World), XAt W.heap.size W n x → Calls Tryd.prog 13 #[.agg #[.int .i64 x.t.lab.kd, .int .u8 x.t.lab.v.k, .int .i64 x.t.lab.v.n, .string x.t.lab.v.s, .string x.t.lab.tb, .string x.t.lab.nm, .string x.t.lab.op, .slice x.a x.t.args.length x.cap], .int .i64 24] W fun e w' => e = .returned (.bool (greatX 24 x.t)) ∧ Below W.heap.size W w') := fun W hW => by
    have := Great_any n x W 24 hW (by omega); rw [XM.v_eq] at this; exact this
  obtain ⟨g, hg⟩ : ∃ g, greatX 24 x.t = g := ⟨_, rfl⟩
  rw [hg] at HGr
  clear h hT hs0
  obtain ⟨x0, x1, x2, x3, x4, x5, x6, x7⟩ := HX.out
  by_cases hbig : 500 < c
  · have q1 : decide ((500 : Int) < (c : Int)) = true := by simp; omega
    clear hg hc HGr
    go_enter Tryd.func5, Tryd.ntmps5
    go_wp2_with fail
    refine (HCn.out _ (HXA.out.later HB0.out)).mono ?_
    rintro e w1 ⟨rfl, hb1⟩
    have HB1 := Lib.hid (HB0.out.trans (hb1.mono HB0.out.size))
    clear hb1 x0 x1 x2 x3 x4 x5 x6 x7
    go_wp2_with fail
    refine (HAl.out _ HB1.out).mono ?_
    rintro e w2 ⟨rfl, hb2⟩
    have HB2 := Lib.hid (HB1.out.trans (hb2.mono HB1.out.size))
    clear hb2
    go_wp2
    go_ret
    exact ⟨rfl, HB2.out⟩
  have q1 : decide ((500 : Int) < (c : Int)) = false := by simp; omega
  cases g with
  | true =>
    clear hg hc
    go_enter Tryd.func5, Tryd.ntmps5
    go_wp2_with fail
    refine (HCn.out _ (HXA.out.later HB0.out)).mono ?_
    rintro e w1 ⟨rfl, hb1⟩
    have HB1 := Lib.hid (HB0.out.trans (hb1.mono HB0.out.size))
    clear x0 x1 x2 x3 x4 x5 x6 x7
    obtain ⟨x0, x1, x2, x3, x4, x5, x6, x7⟩ := HX.out.later (by have := HZ.out; omega) hb1
    clear hb1
    go_wp2_with fail
    refine (HGr.out _ (HXA.out.later HB1.out)).mono ?_
    rintro e w2 ⟨rfl, hb2⟩
    have HB2 := Lib.hid (HB1.out.trans (hb2.mono HB1.out.size))
    clear hb2 x0 x1 x2 x3 x4 x5 x6 x7
    go_wp2_with fail
    refine (HAl.out _ HB2.out).mono ?_
    rintro e w3 ⟨rfl, hb3⟩
    have HB3 := Lib.hid (HB2.out.trans (hb3.mono HB2.out.size))
    clear hb3
    go_wp2
    go_ret
    exact ⟨rfl, HB3.out⟩
  | false =>
    have hcc : x.t.count ≤ 500 := by omega
    have hbg := great_small hg
    have hsm := small_all hbg
    have hlen : x.t.args.length ≤ 1000000 := by have h2 := hsm; rw [Rose.allB_eq, Bool.and_eq_true] at h2; simpa using h2.1
    have HAs : Hid (∀ (W : World), XAt W.heap.size W n x → Calls Tryd.prog 15 #[.agg #[.int .i64 x.t.lab.kd, .int .u8 x.t.lab.v.k, .int .i64 x.t.lab.v.n, .string x.t.lab.v.s, .string x.t.lab.tb, .string x.t.lab.nm, .string x.t.lab.op, .slice x.a x.t.args.length x.cap]] W (RetX W n x.t)) := fun W hW => by
      have := As_any20 n x W hW hlen hsm; rw [XM.v_eq] at this; exact this
    have HCo : Hid (∀ (W : World), XAt W.heap.size W n x → Calls Tryd.prog 16 #[.agg #[.int .i64 x.t.lab.kd, .int .u8 x.t.lab.v.k, .int .i64 x.t.lab.v.n, .string x.t.lab.v.s, .string x.t.lab.tb, .string x.t.lab.nm, .string x.t.lab.op, .slice x.a x.t.args.length x.cap]] W (RetL W n (if rightX 20 x.t = true then pickX 2 true x.t else []))) := fun W hW => by
      have := cols_any n x W hW (by omega); rw [XM.v_eq] at this; exact this
    have HAg : Hid (∀ (W : World), XAt W.heap.size W n x → Calls Tryd.prog 17 #[.agg #[.int .i64 x.t.lab.kd, .int .u8 x.t.lab.v.k, .int .i64 x.t.lab.v.n, .string x.t.lab.v.s, .string x.t.lab.tb, .string x.t.lab.nm, .string x.t.lab.op, .slice x.a x.t.args.length x.cap]] W (RetL W n (if rightX 20 x.t = true then pickX 6 false x.t else []))) := fun W hW => by
      have := aggs_any n x W hW (by omega); rw [XM.v_eq] at this; exact this
    have HRr : Hid (∀ (q : XM) (W : World), q.t = x.t → XAt W.heap.size W n q → Calls Tryd.prog 18 #[.agg #[.int .i64 q.t.lab.kd, .int .u8 q.t.lab.v.k, .int .i64 q.t.lab.v.n, .string q.t.lab.v.s, .string q.t.lab.tb, .string q.t.lab.nm, .string q.t.lab.op, .slice q.a q.t.args.length q.cap]] W fun e w' => e = .returned (.bool (rightX 20 x.t)) ∧ Below W.heap.size W w') := fun q W hq hW => by
      have := RRight_any20 n q W hW (by rw [hq]; exact hbg); rw [XM.v_eq, hq] at this; rw [hq]; exact this
    have HKi : Hid (∀ (kd : Int) (q : XM) (W : World), q.t = x.t → XAt W.heap.size W n q → Calls Tryd.prog 20 #[.agg #[.int .i64 q.t.lab.kd, .int .u8 q.t.lab.v.k, .int .i64 q.t.lab.v.n, .string q.t.lab.v.s, .string q.t.lab.tb, .string q.t.lab.nm, .string q.t.lab.op, .slice q.a q.t.args.length q.cap], .int .i64 kd] W (RetLN W.heap.size W n (pickX kd false x.t))) := fun kd q W hq hW => by
      have := RKind_any20 n kd n q W.heap.size W (Nat.le_refl _) (Nat.le_refl _) hW (by rw [hq]; omega); rw [XM.v_eq, hq] at this; rw [hq]; exact this
    have HLs : Hid (∀ (kd : Int) (L M : List XM) (a b : Option Addr) (ca cb : Nat) (W : World), RowX W n a L → RowX W n b M → L.map (·.t) = pickX kd false x.t → M.map (·.t) = pickX kd false x.t → L.length ≤ ca → ca ≤ 9223372036854775807 → M.length ≤ cb → cb ≤ 9223372036854775807 →
        Calls Tryd.prog 19 #[.slice a L.length ca, .slice b M.length cb] W fun e w' => e = .returned (.bool true) ∧ Below W.heap.size W w') := fun kd L M a b ca cb W h1 h2 h3 h4 h5 h6 h7 h8 =>
      xLists_any n L M a b ca cb W h1.arr h2.arr h1.kid h2.kid (h3.trans h4.symm) (row_small h3 hsm) h5 h6 h7 h8
    have HPc := Lib.hid (fun (hr : rightX 20 x.t = true) => pick_columns hr)
    clear hg hc hcc hbg hsm hlen hbig
    generalize hR : rightX 20 x.t = r at *
    go_enter Tryd.func5, Tryd.ntmps5
    go_wp2_with fail
    refine (HCn.out _ (HXA.out.later HB0.out)).mono ?_
    rintro e w1 ⟨rfl, hb1⟩
    have HB1 := Lib.hid (HB0.out.trans (hb1.mono HB0.out.size))
    have HX1 := Lib.hid (HX.out.later (by have := HZ.out; omega) hb1)
    have HL1 : Hid (w.heap.size < w1.heap.size) := by have := HZ.out; have := hb1.size; show _ < _; omega
    clear x0 x1 x2 x3 x4 x5 x6 x7
    obtain ⟨x0, x1, x2, x3, x4, x5, x6, x7⟩ := HX1.out
    clear hb1
    go_wp2_with fail
    refine (HGr.out _ (HXA.out.later HB1.out)).mono ?_
    rintro e w2 ⟨rfl, hb2⟩
    have HB2 := Lib.hid (HB1.out.trans (hb2.mono HB1.out.size))
    have HX2 := Lib.hid (HX1.out.later HL1.out hb2)
    have HL2 : Hid (w.heap.size < w2.heap.size) := Nat.lt_of_lt_of_le HL1.out hb2.size
    clear x0 x1 x2 x3 x4 x5 x6 x7
    obtain ⟨x0, x1, x2, x3, x4, x5, x6, x7⟩ := HX2.out
    clear hb2
    go_wp2_with fail
    refine (HAs.out _ (HXA.out.later HB2.out)).mono ?_
    rintro e w3 ⟨q, rfl, hqt, hqI, hb3⟩
    have HB3 := Lib.hid (HB2.out.trans (hb3.mono HB2.out.size))
    have HX3 := Lib.hid (HX2.out.later HL2.out hb3)
    have HL3 : Hid (w.heap.size < w3.heap.size) := Nat.lt_of_lt_of_le HL2.out hb3.size
    have HQt := Lib.hid hqt
    have HD0 := Lib.hid (PartE.new HX3.out HL3.out (HXA.out.later HB3.out) (XIn.at_ (hqI.imp fun b hb => hb.2)) HB3.out)
    obtain ⟨V0, hV0⟩ : ∃ V0, w3.alloc (.cells #[.int .i64 q.t.lab.kd, .int .u8 q.t.lab.v.k, .int .i64 q.t.lab.v.n, .string q.t.lab.v.s, .string q.t.lab.tb, .string q.t.lab.nm, .string q.t.lab.op, .slice q.a q.t.args.length q.cap] 44) = V0 := ⟨_, rfl⟩
    rw [hV0] at HD0
    have HV0 := Lib.hid hV0
    obtain ⟨C, hC⟩ : ∃ C, w3.heap.size = C := ⟨_, rfl⟩
    rw [hC] at HD0
    have HC := Lib.hid hC
    clear hb3 hV0 hqt hqI x0 x1 x2 x3 x4 x5 x6 x7 hC
    go_wp2_with fail
    rw [HV0.out, HC.out]
    have e0 : ∀ V, Later V0.drew V → V.cell? ⟨w.heap.size, 0, none⟩ = some (.int .i64 x.t.lab.kd) := fun V hV => (HD0.out.e.later HD0.out.lt.1 (Later.undrew hV)).c0
    have e1 : ∀ V, Later V0.drew V → V.cell? ⟨w.heap.size, 1, none⟩ = some (.int .u8 x.t.lab.v.k) := fun V hV => (HD0.out.e.later HD0.out.lt.1 (Later.undrew hV)).c1
    have e2 : ∀ V, Later V0.drew V → V.cell? ⟨w.heap.size, 2, none⟩ = some (.int .i64 x.t.lab.v.n) := fun V hV => (HD0.out.e.later HD0.out.lt.1 (Later.undrew hV)).c2
    have e3 : ∀ V, Later V0.drew V → V.cell? ⟨w.heap.size, 3, none⟩ = some (.string x.t.lab.v.s) := fun V hV => (HD0.out.e.later HD0.out.lt.1 (Later.undrew hV)).c3
    have e4 : ∀ V, Later V0.drew V → V.cell? ⟨w.heap.size, 4, none⟩ = some (.string x.t.lab.tb) := fun V hV => (HD0.out.e.later HD0.out.lt.1 (Later.undrew hV)).c4
    have e5 : ∀ V, Later V0.drew V → V.cell? ⟨w.heap.size, 5, none⟩ = some (.string x.t.lab.nm) := fun V hV => (HD0.out.e.later HD0.out.lt.1 (Later.undrew hV)).c5
    have e6 : ∀ V, Later V0.drew V → V.cell? ⟨w.heap.size, 6, none⟩ = some (.string x.t.lab.op) := fun V hV => (HD0.out.e.later HD0.out.lt.1 (Later.undrew hV)).c6
    have e7 : ∀ V, Later V0.drew V → V.cell? ⟨w.heap.size, 7, none⟩ = some (.slice x.a x.t.args.length x.cap) := fun V hV => (HD0.out.e.later HD0.out.lt.1 (Later.undrew hV)).c7
    refine wp_region_ord [(0, true), (2, true), (1, false), (3, false), (4, true), (5, true)] (by kernel_rfl) (by kernel_rfl) (by kernel_rfl) (by kernel_rfl) ?_
    repeat (first | (refine wpO_F (v := ?_) rfl (by rfl) (fun w' hL => ?_) ?_; rotate_left; (solve | (go_simp; with_reducible rfl) | go_simp); try simp only [Act.put, List.setIfInBounds_toArray, List.set_cons_zero, List.set_cons_succ]) | (refine wpO_G rfl (by rfl) ?_; try simp only [Act.put, List.setIfInBounds_toArray, List.set_cons_zero, List.set_cons_succ]))
    refine wpO_C rfl (by rfl) ?_
    go_simp
    refine (HCo.out _ (HD0.out.later (Below.refl _ V0).drew).xat).mono ?_
    rintro e y1 ⟨ac, cc, L, rfl, hl1, hl2, hLt, hLa, hLk, hb4⟩
    refine ⟨hb4, ?_⟩
    try simp only [Act.put, List.setIfInBounds_toArray, List.set_cons_zero, List.set_cons_succ]
    have HD1 := Lib.hid (HD0.out.later ((Below.refl _ V0).drew.trans hb4))
    have HR1 : Hid (RowX y1 n ac L) := ⟨hLa, hLk⟩
    have HLt := Lib.hid hLt
    have HE1 := Lib.hid ((Below.refl _ V0).drew.trans hb4)
    clear hLa hLk hLt hb4 e0 e1 e2 e3 e4 e5 e6 e7
    have e0 : ∀ V, Later y1 V → V.cell? ⟨w.heap.size, 0, none⟩ = some (.int .i64 x.t.lab.kd) := fun V hV => (HD1.out.e.later HD1.out.lt.1 hV).c0
    have e1 : ∀ V, Later y1 V → V.cell? ⟨w.heap.size, 1, none⟩ = some (.int .u8 x.t.lab.v.k) := fun V hV => (HD1.out.e.later HD1.out.lt.1 hV).c1
    have e2 : ∀ V, Later y1 V → V.cell? ⟨w.heap.size, 2, none⟩ = some (.int .i64 x.t.lab.v.n) := fun V hV => (HD1.out.e.later HD1.out.lt.1 hV).c2
    have e3 : ∀ V, Later y1 V → V.cell? ⟨w.heap.size, 3, none⟩ = some (.string x.t.lab.v.s) := fun V hV => (HD1.out.e.later HD1.out.lt.1 hV).c3
    have e4 : ∀ V, Later y1 V → V.cell? ⟨w.heap.size, 4, none⟩ = some (.string x.t.lab.tb) := fun V hV => (HD1.out.e.later HD1.out.lt.1 hV).c4
    have e5 : ∀ V, Later y1 V → V.cell? ⟨w.heap.size, 5, none⟩ = some (.string x.t.lab.nm) := fun V hV => (HD1.out.e.later HD1.out.lt.1 hV).c5
    have e6 : ∀ V, Later y1 V → V.cell? ⟨w.heap.size, 6, none⟩ = some (.string x.t.lab.op) := fun V hV => (HD1.out.e.later HD1.out.lt.1 hV).c6
    have e7 : ∀ V, Later y1 V → V.cell? ⟨w.heap.size, 7, none⟩ = some (.slice x.a x.t.args.length x.cap) := fun V hV => (HD1.out.e.later HD1.out.lt.1 hV).c7
    repeat (first | (refine wpO_F (v := ?_) rfl (by rfl) (fun w' hL => ?_) ?_; rotate_left; (solve | (go_simp; with_reducible rfl) | go_simp); try simp only [Act.put, List.setIfInBounds_toArray, List.set_cons_zero, List.set_cons_succ]) | (refine wpO_G rfl (by rfl) ?_; try simp only [Act.put, List.setIfInBounds_toArray, List.set_cons_zero, List.set_cons_succ]))
    refine wpO_C rfl (by rfl) ?_
    go_simp
    refine (HAg.out _ HD1.out.xat).mono ?_
    rintro e y2 ⟨aa, ca, M, rfl, hm1, hm2, hMt, hMa, hMk, hb5⟩
    refine ⟨hb5, ?_⟩
    try simp only [Act.put, List.setIfInBounds_toArray, List.set_cons_zero, List.set_cons_succ]
    have HD2 := Lib.hid (HD1.out.later hb5)
    have HR2 := Lib.hid (HR1.out.later hb5)
    have HS2 : Hid (RowX y2 n aa M) := ⟨hMa, hMk⟩
    have HMt := Lib.hid hMt
    clear hMa hMk hMt hb5 e0 e1 e2 e3 e4 e5 e6 e7
    repeat (first | (refine wpO_F (v := ?_) rfl (by rfl) (fun w' hL => ?_) ?_; rotate_left; (solve | (go_simp; with_reducible rfl) | go_simp); try simp only [Act.put, List.setIfInBounds_toArray, List.set_cons_zero, List.set_cons_succ]) | (refine wpO_G rfl (by rfl) ?_; try simp only [Act.put, List.setIfInBounds_toArray, List.set_cons_zero, List.set_cons_succ]))
    refine wpO_nil ?_
    have HRy := Lib.hid (HRr.out q y2 HQt.out HD2.out.qat)
    obtain ⟨z0, z1, z2, z3, z4, z5, z6, z7⟩ := HD2.out.a
    go_wp2_with fail
    refine HRy.out.mono ?_
    rintro e y3 ⟨rfl, hb6⟩
    have HD3 := Lib.hid (HD2.out.later hb6)
    have HR3 := Lib.hid (HR2.out.later hb6)
    have HS3 := Lib.hid (HS2.out.later hb6)
    clear hb6 z0 z1 z2 z3 z4 z5 z6 z7 HRy
    cases r with
    | false =>
      have hL0 : L = [] := by have := HLt.out; simpa using this
      have hM0 : M = [] := by have := HMt.out; simpa using this
      subst hL0 hM0
      go_wp2_with fail
      refine (HAl.out _ HD3.out.bel).mono ?_
      rintro e y4 ⟨rfl, hb7⟩
      have HB4 := Lib.hid (HD3.out.bel.trans (hb7.mono HD3.out.bel.size))
      clear hb7
      go_wp2
      go_ret
      exact ⟨ret_b (by rfl), HB4.out⟩
    | true =>
      have HLp : Hid (L.map (·.t) = pickX 2 false x.t) := by have h1 := HLt.out; rw [if_pos rfl] at h1; exact h1.trans (HPc.out (by trivial))
      have HMp : Hid (M.map (·.t) = pickX 6 false x.t) := by have h1 := HMt.out; rw [if_pos rfl] at h1; exact h1
      go_wp2_with fail
      refine (HAl.out _ HD3.out.bel).mono ?_
      rintro e y4 ⟨rfl, hb7⟩
      have HD4 := Lib.hid (HD3.out.later hb7)
      have HR4 := Lib.hid (HR3.out.later hb7)
      have HS4 := Lib.hid (HS3.out.later hb7)
      clear hb7
      have HK1 := Lib.hid (HKi.out 2 q y4 HQt.out HD4.out.qat)
      obtain ⟨z0, z1, z2, z3, z4, z5, z6, z7⟩ := HD4.out.a
      go_wp2_with fail
      refine HK1.out.mono ?_
      rintro e y5 ⟨a1, c1, K1, rfl, k1, k2, hK1t, hK1a, hK1k, hb8⟩
      have HD5 := Lib.hid (HD4.out.later hb8)
      have HR5 := Lib.hid (HR4.out.later hb8)
      have HS5 := Lib.hid (HS4.out.later hb8)
      have HJ1 := Lib.hid (HLs.out 2 L K1 ac a1 cc c1 y5 HR5.out ⟨hK1a, fun y hy => (hK1k y hy).mono hb8.size⟩ HLp.out hK1t hl1 hl2 k1 k2)
      clear hb8 z0 z1 z2 z3 z4 z5 z6 z7 hK1t hK1a hK1k HK1
      go_wp2_with fail
      refine HJ1.out.mono ?_
      rintro e y6 ⟨rfl, hb9⟩
      have HD6 := Lib.hid (HD5.out.later hb9)
      have HS6 := Lib.hid (HS5.out.later hb9)
      clear hb9 HJ1
      have HK2 := Lib.hid (HKi.out 6 q y6 HQt.out HD6.out.qat)
      obtain ⟨z0, z1, z2, z3, z4, z5, z6, z7⟩ := HD6.out.a
      go_wp2_with fail
      refine HK2.out.mono ?_
      rintro e y7 ⟨a2, c2, K2, rfl, k3, k4, hK2t, hK2a, hK2k, hb10⟩
      have HD7 := Lib.hid (HD6.out.later hb10)
      have HS7 := Lib.hid (HS6.out.later hb10)
      have HJ2 := Lib.hid (HLs.out 6 M K2 aa a2 ca c2 y7 HS7.out ⟨hK2a, fun y hy => (hK2k y hy).mono hb10.size⟩ HMp.out hK2t hm1 hm2 k3 k4)
      clear hb10 z0 z1 z2 z3 z4 z5 z6 z7 hK2t hK2a hK2k HK2
      go_wp2_with fail
      refine HJ2.out.mono ?_
      rintro e y8 ⟨rfl, hb11⟩
      have HB8 := Lib.hid (HD7.out.later hb11).bel
      clear hb11 HJ2
      go_wp2
      go_ret
      exact ⟨ret_b (by rfl), HB8.out⟩
end Go.Proofs.YtbnddpicpomakaaDoor

/- An expression that comes in as an argument. -/
set_option linter.unusedSimpArgs false
set_option linter.unusedVariables false
set_option maxRecDepth 100000
namespace Go.Proofs.YtbnddpicpomakaaDoor
open Go.RowKit Go.ChangeShapes Go.WideShapes Go.Deep Go.Joins

theorem weights_all_mem {H : Type} {P : Program} {e : TypeId} : ∀ {l : List (DataW H)} {d : DataW H}, d ∈ l → ∀ n ∈ d.weights P e, n ∈ DataW.weightsAll P e l
  | [], _, h, _, _ => by cases h
  | y :: r, d, h, n, hn => by
    simp only [DataW.weightsAll, List.mem_append]
    rcases List.mem_cons.1 h with rfl | h
    · exact .inl hn
    · exact .inr (weights_all_mem h n hn)

theorem ListR.of {α β : Type} (R : α → β → Prop) : ∀ (l : List α), (∀ x ∈ l, ∃ y, R x y) → ∃ m : List β, m.length = l.length ∧ ∀ (i : Nat) (x : α), l[i]? = some x → ∃ y, m[i]? = some y ∧ R x y
  | [], _ => ⟨[], rfl, fun i x h => by simp at h⟩
  | a :: r, h => by
    obtain ⟨y, hy⟩ := h a List.mem_cons_self
    obtain ⟨m, hm, hR⟩ := ListR.of R r (fun x hx => h x (List.mem_cons_of_mem _ hx))
    refine ⟨y :: m, by simp [hm], fun i x hi => ?_⟩
    cases i with
    | zero => simp at hi; subst hi; exact ⟨y, rfl, hy⟩
    | succ i => obtain ⟨z, h1, h2⟩ := hR i x (by simpa using hi); exact ⟨z, by simpa using h1, h2⟩

/-- What is asked of the sizes. -/
def Sized {H : Type} (T : TypeId) (d : DataW H) : Prop := ∀ n ∈ d.weights Tryd.prog T, n ≤ reachBytes

set_option maxRecDepth 100000 in
theorem trod_expr {T S : TypeId} {f0 f1 f2 f3 f4 f5 : Field} (hT : Tryd.prog.underlying T = some (.struct #[f0, f1, f2, f3, f4, f5])) (hS : Tryd.prog.underlying S = some (.slice T)) (hC : Tryd.prog.cellsOf T = 8) (c4 : Tryd.prog.cellsOf S = 1)
    (e0 : f0.type = 3 ∧ f0.offset = 0) (e1 : f1.type = 36 ∧ f1.offset = 1) (e2 : f2.type = 9 ∧ f2.offset = 4) (e3 : f3.type = 9 ∧ f3.offset = 5) (e4 : f4.type = 9 ∧ f4.offset = 6) (e5 : f5.type = S ∧ f5.offset = 7)
    {H : Type} {enc : TypeId × Value → H} {w : World} : ∀ (fuel : Nat) (cs : List Value) (x : DataW H × List MemPlace), DataW.trod enc Tryd.prog w 0 (fun _ => true) true fuel T cs = some x → Sized T x.1 →
    ∃ r : XM, cs = cellsX r ∧ XAt w.heap.size w fuel r := by
  intro fuel
  induction fuel using Nat.strongRecOn with
  | ind fuel ih =>
    intro cs x h hsz
    obtain ⟨xs, n, rfl, rfl, hl, hlen, hf⟩ := DataW.trod_struct hT h
    rw [hC] at hl
    match cs, hl with
    | [v0, v1, v2, v3, v4, v5, v6, v7], _ =>
      match xs, hlen with
      | [y0, y1, y2, y3, y4, y5], _ =>
        have c1 : Tryd.prog.cellsOf 3 = 1 := by kernel_rfl
        have c2 : Tryd.prog.cellsOf 36 = 3 := by kernel_rfl
        have c3 : Tryd.prog.cellsOf 9 = 1 := by kernel_rfl
        have g0 : DataW.trod enc Tryd.prog w 0 (fun _ => true) true n 3 [v0] = some y0 := by have := hf 0 f0 rfl; rw [e0.1, e0.2, c1] at this; exact this
        have g1 : DataW.trod enc Tryd.prog w 0 (fun _ => true) true n 36 [v1, v2, v3] = some y1 := by have := hf 1 f1 rfl; rw [e1.1, e1.2, c2] at this; exact this
        have g2 : DataW.trod enc Tryd.prog w 0 (fun _ => true) true n 9 [v4] = some y2 := by have := hf 2 f2 rfl; rw [e2.1, e2.2, c3] at this; exact this
        have g3 : DataW.trod enc Tryd.prog w 0 (fun _ => true) true n 9 [v5] = some y3 := by have := hf 3 f3 rfl; rw [e3.1, e3.2, c3] at this; exact this
        have g4 : DataW.trod enc Tryd.prog w 0 (fun _ => true) true n 9 [v6] = some y4 := by have := hf 4 f4 rfl; rw [e4.1, e4.2, c3] at this; exact this
        have g5 : DataW.trod enc Tryd.prog w 0 (fun _ => true) true n S [v7] = some y5 := by have := hf 5 f5 rfl; rw [e5.1, e5.2, c4] at this; exact this
        obtain ⟨z0, q0, p0, w0⟩ := DataW.trod_int Tryd.underlying3 g0
        obtain ⟨u0, u1, u2, n1, rfl, _, k0, k1, k2⟩ := trod_struct3 Tryd.underlying36 g1
        have m0 : DataW.trod enc Tryd.prog w 0 (fun _ => true) true n1 5 [v1] = some u0 := k0
        have m1 : DataW.trod enc Tryd.prog w 0 (fun _ => true) true n1 2 [v2] = some u1 := k1
        have m2 : DataW.trod enc Tryd.prog w 0 (fun _ => true) true n1 9 [v3] = some u2 := k2
        obtain ⟨b0, q1, p1, w1⟩ := DataW.trod_int Tryd.underlying5 m0
        obtain ⟨b1, q2, p2, w2⟩ := DataW.trod_int Tryd.underlying2 m1
        obtain ⟨s3, q3, p3, w3⟩ := DataW.trod_string Tryd.underlying9 m2
        obtain ⟨s4, q4, p4, w4⟩ := DataW.trod_string Tryd.underlying9 g2
        obtain ⟨s5, q5, p5, w5⟩ := DataW.trod_string Tryd.underlying9 g3
        obtain ⟨s6, q6, p6, w6⟩ := DataW.trod_string Tryd.underlying9 g4
        simp only [List.cons.injEq, and_true] at q0 q1 q2 q3 q4 q5 q6
        subst q0 q1 q2 q3 q4 q5 q6
        obtain ⟨kk, rfl, hkk⟩ := nat_u8 w1
        have hW : ∀ m, (m ∈ (u2.1).weights Tryd.prog 9 ∨ m ∈ y2.1.weights Tryd.prog 9 ∨ m ∈ y3.1.weights Tryd.prog 9 ∨ m ∈ y4.1.weights Tryd.prog 9 ∨ m ∈ y5.1.weights Tryd.prog S) → m ≤ reachBytes := by
          intro m hm
          refine hsz m ?_
          simp only [DataW.weights, hT, List.map_cons, List.map_nil, DataW.weightsEach, e0.1, e1.1, e2.1, e3.1, e4.1, e5.1, List.mem_append, Tryd.underlying36]
          simp
          rcases hm with h | h | h | h | h <;> simp [h]
        have B3 : s3.size ≤ 140737488351232 := by have := hW s3.data.toList.length (by rw [p3]; simp [DataW.weights]); unfold reachBytes at this; simpa using this
        have B4 : s4.size ≤ 140737488351232 := by have := hW s4.data.toList.length (by rw [p4]; simp [DataW.weights]); unfold reachBytes at this; simpa using this
        have B5 : s5.size ≤ 140737488351232 := by have := hW s5.data.toList.length (by rw [p5]; simp [DataW.weights]); unfold reachBytes at this; simpa using this
        have B6 : s6.size ≤ 140737488351232 := by have := hW s6.data.toList.length (by rw [p6]; simp [DataW.weights]); unfold reachBytes at this; simpa using this
        have HL : Lb.fair ⟨z0, ⟨kk, b1, s3⟩, s4, s5, s6⟩ := ⟨bd_i64 w0, hkk, bd_i64 w2, B3, B4, B5, B6⟩
        rcases DataW.trod_slice hS g5 with ⟨hcs, _⟩ | ⟨a, len, cap, elems, rest, n2, hn, hcs, hy5, hb, hlc, hcm, hel, hel2, -, -⟩
        · simp only [List.cons.injEq, and_true] at hcs
          subst hcs
          exact ⟨⟨.mk ⟨z0, ⟨kk, b1, s3⟩, s4, s5, s6⟩ [], none, 0⟩, rfl, HL, Nat.le_refl _, by simp, [], rfl, .inl rfl, fun y hy => by cases hy⟩
        · simp only [List.cons.injEq, and_true] at hcs
          subst hcs hn
          have hkid : ∀ i : Fin len, ∃ r : XM, XAt w.heap.size w n2 r ∧ ∀ (j : Nat) (v : Value), (cellsX r)[j]? = some v → w.cell? ((a.add (i.1 * 8)).add j) = some v := by
            intro i
            have hi := hel2 i.1 i.2
            rw [hC] at hi
            have hil : i.1 < elems.length := by rw [hel]; exact i.2
            rw [List.getElem?_eq_getElem hil] at hi
            obtain ⟨cs', hc', ht'⟩ := Option.bind_eq_some_iff.1 hi
            obtain ⟨_, hlen, hat⟩ := World.cells?_some hc'
            obtain ⟨r, rfl, hr⟩ := ih n2 (by omega) cs' _ ht' (fun m hm => hW m (.inr (.inr (.inr (.inr (by
              rw [hy5]
              simp only [DataW.weights, hS, List.mem_cons, List.mem_append]
              exact .inr (.inl (weights_all_mem (List.mem_map.2 ⟨_, List.getElem_mem hil, rfl⟩) m hm))))))))
            exact ⟨r, hr, fun j v hj => by rw [hat j (by have h9 := (List.getElem?_eq_some_iff.1 hj).1; rw [cellsX_len] at h9; exact h9)]; exact hj⟩
          obtain ⟨L, h1, h2, h3⟩ := row_of cellsX 8 (by omega) cellsX_len (fun r => XAt w.heap.size w n2 r) w a len hkid
          unfold maxLen at hcm
          refine ⟨⟨.mk ⟨z0, ⟨kk, b1, s3⟩, s4, s5, s6⟩ (L.map (·.t)), some a, cap⟩, ?_, HL, ?_, by simp only; omega, L, rfl, h2, fun y hy => RoseAt.up (h3 y hy)⟩
          · subst h1; simp [cellsX, cellsR, Lb.cells, Rose.lab, Rose.args]
          · simp [Rose.args]; omega

set_option maxRecDepth 100000 in
theorem open_expr {H : Type} {enc : TypeId × Value → H} {w : World} {r : Reach} {b0 : Nat} {v : Value} {d : DataW H} {p : List MemPlace} (hv : Value.okWide Tryd.prog w r b0 39 v) (h : DataW.Trod enc Tryd.prog w 0 (fun _ => true) true 39 v d p)
    (hs : Sized 39 d) : ∃ (x : XM) (n : Nat), v = x.v ∧ XAt w.heap.size w n x := by
  obtain ⟨cs, rfl, _⟩ := okWide_struct Tryd.underlying39 hv
  obtain ⟨fuel, hf⟩ := h
  obtain ⟨x, hx, hA⟩ := trod_expr Tryd.underlying39 Tryd.underlying37 (by kernel_rfl) (by kernel_rfl) ⟨rfl, rfl⟩ ⟨rfl, rfl⟩ ⟨rfl, rfl⟩ ⟨rfl, rfl⟩ ⟨rfl, rfl⟩ ⟨rfl, rfl⟩ fuel cs.toList (d, p) hf hs
  refine ⟨x, fuel, ?_, hA⟩
  unfold XM.v
  rw [← hx]
end Go.Proofs.YtbnddpicpomakaaDoor
