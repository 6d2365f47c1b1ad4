/- The walks of runes.isName, Fold, Name and of the reference's. -/
import Derived.Test.YtfbknfdbfnklmaaDoorRnClass
import Derived.Test.YtfbknfdbfnklmaaDoorUDec
import Derived.Test.YtfbknfdbfnklmaaDoorUKit
import Derived.Test.YtfbknfdbfnklmaaDoorVWalks
import Derived.Test.YtfbknfdbfnklmaaDoorOrd
import Derived.Lib.ConvBytes
import Derived.Lib.OthersKept
import Derived.Lib.RuneCount
namespace Go.Proofs.YtfbknfdbfnklmaaDoor
set_option linter.unusedSimpArgs false
open Go.RowKit

def byteN (s : ByteArray) (i : Nat) : Nat := (bytesU s).getD i 0

theorem byteN_at (s : ByteArray) (i : Nat) (h : i < s.size) : byteN s i = (s[i]'h).toNat := by
  unfold byteN
  rw [List.getD_eq_getElem?_getD, List.getElem?_eq_getElem (by rw [bytesU_len]; exact h)]
  simp [bytesU]; rfl

/-- May the byte stand at this place of a name? -/
def okN (i c : Nat) : Bool := classZ (c : Int) == 2 || (classZ (c : Int) == 3 && i != 0)
def nameB (s : ByteArray) : Bool := decide (0 < s.size) && (List.range s.size).all fun i => okN i (byteN s i)

theorem nameB_true {s : ByteArray} : nameB s = true ↔ 0 < s.size ∧ ∀ i, i < s.size → okN i (byteN s i) = true := by
  unfold nameB
  rw [Bool.and_eq_true, decide_eq_true_iff, List.all_eq_true]
  simp

theorem nameB_false {s : ByteArray} {i : Nat} (h : i < s.size) (hb : okN i (byteN s i) = false) : nameB s = false := by
  rw [Bool.eq_false_iff]
  intro hn
  have := (nameB_true.1 hn).2 i h
  rw [hb] at this; cases this

theorem class_high {c : Int} (h : 127 ≤ c) : classZ c = 0 := class_of c 0 (by omega)

set_option maxHeartbeats 2000000 in
theorem isName_any (s : ByteArray) (w : World) (hs : s.size ≤ 1000000) :
    Calls Tryd.prog 35 #[.string s] w fun e w' => e = .returned (.bool (nameB s)) ∧ Below w.heap.size w w' := by
  go_enter Tryd.func35, Tryd.ntmps35
  go_wp2
  go_loopw [] (fun wr => ∃ pos : Nat, wr = w.iter s pos ∧ pos ≤ s.size ∧ Hid (∀ i, i < pos → okN i (byteN s i) = true)) (fun wr => s.size - wr.iterPos w.heap.size)
  case atStart => exact ⟨0, rfl, by omega, by simp [Hid]⟩
  case round =>
    obtain ⟨pos, rfl, hpos, HI⟩ := hrel
    have HBE : Hid (∀ q, Below w.heap.size w (w.iter s q)) := fun q => (Below.refl _ w).alloc (Nat.le_refl _) _
    by_cases hp : pos < s.size
    · have hnx : ∀ ty, (Instr.next (.pointer (some ⟨w.heap.size, 0, none⟩)) true ty).run Tryd.prog (w.iter s pos) = _ := fun ty => run_next_any w s pos ty hp
      have hB := byteN_at s pos hp
      have hb256 := (s[pos]'hp).toNat_lt
      by_cases hasc : (s[pos]'hp).toNat < 128
      · have hdec := decode_ascii s pos hp hasc
        simp only [hdec] at hnx
        obtain ⟨c, hc⟩ : ∃ c, (s[pos]'hp).toNat = c := ⟨_, rfl⟩
        rw [hc] at hnx hB hasc
        have HB := Lib.hid hB
        have HCl := Lib.hid (fun W => Class_any (c : Int) W)
        obtain ⟨k, hk⟩ : ∃ k, classZ (c : Int) = k := ⟨_, rfl⟩
        rw [hk] at HCl
        have hok : okN pos c = (k == 2 || (k == 3 && pos != 0)) := by unfold okN; rw [hk]
        have HOk := Lib.hid hok
        clear hdec hB hb256 hc hk hok
        go_wp2_with fail
        refine (HCl.out _).mono ?_
        rintro e w1 ⟨rfl, rfl⟩
        clear HCl
        by_cases hgo : k = 2 ∨ (k = 3 ∧ pos ≠ 0)
        · have HI2 : Hid (∀ i, i < pos + 1 → okN i (byteN s i) = true) := by
            intro i hi
            by_cases h : i = pos
            · subst h
              rw [HB.out, HOk.out]
              rcases hgo with h | ⟨h, h'⟩ <;> simp [h]
              exact h'
            · exact HI.out i (by omega)
          clear HI HOk HB
          by_cases h2 : k = 2
          · subst h2
            clear hgo
            go_wp2
            go_roundw
            case rel => exact ⟨pos + 1, rfl, by omega, HI2⟩
            case measure => simp; omega
          · obtain ⟨rfl, h0⟩ : k = 3 ∧ pos ≠ 0 := by
              rcases hgo with h | h
              · exact absurd h h2
              · exact h
            have q0 : ((pos : Int) == 0) = false := by simp; omega
            clear hgo h2
            go_wp2
            go_roundw
            case rel => exact ⟨pos + 1, rfl, by omega, HI2⟩
            case measure => simp; omega
        · have HN : Hid (nameB s = false) := nameB_false hp (by
            rw [HB.out, HOk.out]
            rw [Bool.eq_false_iff]
            intro h
            simp only [Bool.or_eq_true, Bool.and_eq_true, beq_iff_eq, bne_iff_ne, ne_eq] at h
            exact hgo h)
          have hways : (k ≠ 2 ∧ k ≠ 3) ∨ (k = 3 ∧ pos = 0) := by omega
          clear HI HOk HB hgo
          rcases hways with ⟨h2, h3⟩ | ⟨rfl, rfl⟩
          · have q2 : (k != 2) = true := by simp [h2]
            have q3 : (k != 3) = true := by simp [h3]
            go_wp2
            go_ret
            exact ⟨by rw [HN.out]; rfl, HBE.out _⟩
          · go_wp2
            go_ret
            exact ⟨by rw [HN.out]; rfl, HBE.out _⟩
      · have hhi := decode_high s pos hp (by omega)
        have HN : Hid (nameB s = false) := nameB_false hp (by
          rw [hB]
          unfold okN
          rw [class_high (by omega)]; rfl)
        obtain ⟨r, hr⟩ : ∃ r, (Utf8.decode s pos).1 = r := ⟨_, rfl⟩
        obtain ⟨z, hz⟩ : ∃ z, (Utf8.decode s pos).2 = z := ⟨_, rfl⟩
        rw [hr, hz] at hnx
        rw [hr] at hhi
        have HCl := Lib.hid (fun W => Class_any (r : Int) W)
        rw [class_high (by omega)] at HCl
        clear hB hb256 hr hz HI hasc hhi
        go_wp2_with fail
        refine (HCl.out _).mono ?_
        rintro e w1 ⟨rfl, rfl⟩
        clear HCl
        go_wp2
        go_ret
        exact ⟨by rw [HN.out]; rfl, HBE.out _⟩
    · have hnx : ∀ ty, (Instr.next (.pointer (some ⟨w.heap.size, 0, none⟩)) true ty).run Tryd.prog (w.iter s pos) = _ := fun ty => run_next_end w s pos ty hp
      by_cases h0 : s.size = 0
      · have HN : Hid (nameB s = false) := by unfold nameB; simp [h0, Hid]
        have he : s.toList = [] := by rw [ByteArray.toList_eq, Array.size_eq_zero_iff.1 (show s.data.size = 0 from h0)]
        clear HI h0
        go_wp2
        go_ret
        exact ⟨by rw [HN.out]; rfl, HBE.out _⟩
      · have HN : Hid (nameB s = true) := nameB_true.2 ⟨by omega, fun i hi => HI.out i (by omega)⟩
        have he : (s.toList == []) = false := by
          rw [ByteArray.toList_eq]
          rw [Bool.eq_false_iff]
          intro h
          rw [beq_iff_eq] at h
          apply h0
          have := congrArg List.length h
          simpa using this
        have he2 : ¬ s.toList = [] := by simpa using he
        have he3 : (!s.toList.isEmpty) = true := by simpa using he2
        clear HI h0
        go_wp2
        go_ret
        exact ⟨by rw [HN.out]; rfl, HBE.out _⟩
end Go.Proofs.YtfbknfdbfnklmaaDoor
