/- Several texts of one proof, one behind the other. -/
import Derived.Test.YtbnddpicpomakaaDoorIPk1
import Derived.Lib.Hide
import Derived.Laws.BitsAllLaws
import Derived.WalkKit
import Derived.Deep.RegionHeld3
import Derived.Lib.ConvBytes
import Derived.Lib.OthersKept
import Derived.Lib.RuneCount
set_option linter.unusedSimpArgs false
set_option linter.unusedVariables false

/- Classes of code points. -/
set_option linter.unusedSimpArgs false
set_option linter.unusedVariables false
set_option maxRecDepth 100000
namespace Go.Proofs.YtbnddpicpomakaaDoor
set_option linter.unusedSimpArgs false
open Go.RowKit

def classZ (v : Int) : Int :=
  if v = 32 ∨ v = 9 ∨ v = 10 ∨ v = 13 then 1
  else if (97 ≤ v ∧ v ≤ 122) ∨ (65 ≤ v ∧ v ≤ 90) ∨ v = 95 then 2
  else if 48 ≤ v ∧ v ≤ 57 then 3
  else if v = 39 then 4
  else if 33 ≤ v ∧ v ≤ 126 then 5
  else 0

theorem class_of (v k : Int) (h : (k = 1 ∧ (v = 32 ∨ v = 9 ∨ v = 10 ∨ v = 13)) ∨ (k = 2 ∧ ((97 ≤ v ∧ v ≤ 122) ∨ (65 ≤ v ∧ v ≤ 90) ∨ v = 95)) ∨ (k = 3 ∧ 48 ≤ v ∧ v ≤ 57) ∨ (k = 4 ∧ v = 39) ∨
    (k = 5 ∧ 33 ≤ v ∧ v ≤ 126 ∧ ¬ (97 ≤ v ∧ v ≤ 122) ∧ ¬ (65 ≤ v ∧ v ≤ 90) ∧ v ≠ 95 ∧ ¬ (48 ≤ v ∧ v ≤ 57) ∧ v ≠ 39) ∨ (k = 0 ∧ v ≠ 32 ∧ v ≠ 9 ∧ v ≠ 10 ∧ v ≠ 13 ∧ ¬ (33 ≤ v ∧ v ≤ 126))) : classZ v = k := by
  unfold classZ
  repeat' split
  all_goals omega

set_option maxRecDepth 100000 in
set_option maxHeartbeats 4000000 in
theorem Class_any (c : Int) (w : World) : Calls Tryd.prog 47 #[.int .i32 c] w fun e w' => e = .returned (.int .i64 (classZ c)) ∧ w = w' := by
  by_cases k9 : c = 9
  · subst k9
    go_enter Tryd.func47, Tryd.ntmps47
    go_wp2
    go_ret
    exact ⟨rfl, rfl⟩
  by_cases k10 : c = 10
  · subst k10
    go_enter Tryd.func47, Tryd.ntmps47
    go_wp2
    go_ret
    exact ⟨rfl, rfl⟩
  by_cases k13 : c = 13
  · subst k13
    go_enter Tryd.func47, Tryd.ntmps47
    go_wp2
    go_ret
    exact ⟨rfl, rfl⟩
  by_cases k32 : c = 32
  · subst k32
    go_enter Tryd.func47, Tryd.ntmps47
    go_wp2
    go_ret
    exact ⟨rfl, rfl⟩
  by_cases k39 : c = 39
  · subst k39
    go_enter Tryd.func47, Tryd.ntmps47
    go_wp2
    go_ret
    exact ⟨rfl, rfl⟩
  by_cases k95 : c = 95
  · subst k95
    go_enter Tryd.func47, Tryd.ntmps47
    go_wp2
    go_ret
    exact ⟨rfl, rfl⟩
  by_cases rx : c ≤ 8
  · have hcl : Hid (classZ c = 0) := class_of c 0 (by omega)
    have e32 : (c == 32) = false := by simp; omega
    have e9 : (c == 9) = false := by simp; omega
    have e10 : (c == 10) = false := by simp; omega
    have e13 : (c == 13) = false := by simp; omega
    have e95 : (c == 95) = false := by simp; omega
    have e39 : (c == 39) = false := by simp; omega
    have g97 : decide (97 ≤ c) = false := by simp; omega
    have l122 : decide (c ≤ 122) = true := by simp; omega
    have g65 : decide (65 ≤ c) = false := by simp; omega
    have l90 : decide (c ≤ 90) = true := by simp; omega
    have g48 : decide (48 ≤ c) = false := by simp; omega
    have l57 : decide (c ≤ 57) = true := by simp; omega
    have g33 : decide (33 ≤ c) = false := by simp; omega
    have l126 : decide (c ≤ 126) = true := by simp; omega
    clear k9 k10 k13 k32 k39 k95 rx
    go_enter Tryd.func47, Tryd.ntmps47
    go_wp2
    go_ret
    exact ⟨by rw [hcl.out]; rfl, rfl⟩
  by_cases r11 : 11 ≤ c ∧ c ≤ 12
  · have hcl : Hid (classZ c = 0) := class_of c 0 (by omega)
    have e32 : (c == 32) = false := by simp; omega
    have e9 : (c == 9) = false := by simp; omega
    have e10 : (c == 10) = false := by simp; omega
    have e13 : (c == 13) = false := by simp; omega
    have e95 : (c == 95) = false := by simp; omega
    have e39 : (c == 39) = false := by simp; omega
    have g97 : decide (97 ≤ c) = false := by simp; omega
    have l122 : decide (c ≤ 122) = true := by simp; omega
    have g65 : decide (65 ≤ c) = false := by simp; omega
    have l90 : decide (c ≤ 90) = true := by simp; omega
    have g48 : decide (48 ≤ c) = false := by simp; omega
    have l57 : decide (c ≤ 57) = true := by simp; omega
    have g33 : decide (33 ≤ c) = false := by simp; omega
    have l126 : decide (c ≤ 126) = true := by simp; omega
    clear k9 k10 k13 k32 k39 k95 r11 rx
    go_enter Tryd.func47, Tryd.ntmps47
    go_wp2
    go_ret
    exact ⟨by rw [hcl.out]; rfl, rfl⟩
  by_cases r14 : 14 ≤ c ∧ c ≤ 31
  · have hcl : Hid (classZ c = 0) := class_of c 0 (by omega)
    have e32 : (c == 32) = false := by simp; omega
    have e9 : (c == 9) = false := by simp; omega
    have e10 : (c == 10) = false := by simp; omega
    have e13 : (c == 13) = false := by simp; omega
    have e95 : (c == 95) = false := by simp; omega
    have e39 : (c == 39) = false := by simp; omega
    have g97 : decide (97 ≤ c) = false := by simp; omega
    have l122 : decide (c ≤ 122) = true := by simp; omega
    have g65 : decide (65 ≤ c) = false := by simp; omega
    have l90 : decide (c ≤ 90) = true := by simp; omega
    have g48 : decide (48 ≤ c) = false := by simp; omega
    have l57 : decide (c ≤ 57) = true := by simp; omega
    have g33 : decide (33 ≤ c) = false := by simp; omega
    have l126 : decide (c ≤ 126) = true := by simp; omega
    clear k9 k10 k13 k32 k39 k95 r14 rx r11
    go_enter Tryd.func47, Tryd.ntmps47
    go_wp2
    go_ret
    exact ⟨by rw [hcl.out]; rfl, rfl⟩
  by_cases r33 : 33 ≤ c ∧ c ≤ 38
  · have hcl : Hid (classZ c = 5) := class_of c 5 (by omega)
    have e32 : (c == 32) = false := by simp; omega
    have e9 : (c == 9) = false := by simp; omega
    have e10 : (c == 10) = false := by simp; omega
    have e13 : (c == 13) = false := by simp; omega
    have e95 : (c == 95) = false := by simp; omega
    have e39 : (c == 39) = false := by simp; omega
    have g97 : decide (97 ≤ c) = false := by simp; omega
    have l122 : decide (c ≤ 122) = true := by simp; omega
    have g65 : decide (65 ≤ c) = false := by simp; omega
    have l90 : decide (c ≤ 90) = true := by simp; omega
    have g48 : decide (48 ≤ c) = false := by simp; omega
    have l57 : decide (c ≤ 57) = true := by simp; omega
    have g33 : decide (33 ≤ c) = true := by simp; omega
    have l126 : decide (c ≤ 126) = true := by simp; omega
    clear k9 k10 k13 k32 k39 k95 r33 rx r11 r14
    go_enter Tryd.func47, Tryd.ntmps47
    go_wp2
    go_ret
    exact ⟨by rw [hcl.out]; rfl, rfl⟩
  by_cases r40 : 40 ≤ c ∧ c ≤ 47
  · have hcl : Hid (classZ c = 5) := class_of c 5 (by omega)
    have e32 : (c == 32) = false := by simp; omega
    have e9 : (c == 9) = false := by simp; omega
    have e10 : (c == 10) = false := by simp; omega
    have e13 : (c == 13) = false := by simp; omega
    have e95 : (c == 95) = false := by simp; omega
    have e39 : (c == 39) = false := by simp; omega
    have g97 : decide (97 ≤ c) = false := by simp; omega
    have l122 : decide (c ≤ 122) = true := by simp; omega
    have g65 : decide (65 ≤ c) = false := by simp; omega
    have l90 : decide (c ≤ 90) = true := by simp; omega
    have g48 : decide (48 ≤ c) = false := by simp; omega
    have l57 : decide (c ≤ 57) = true := by simp; omega
    have g33 : decide (33 ≤ c) = true := by simp; omega
    have l126 : decide (c ≤ 126) = true := by simp; omega
    clear k9 k10 k13 k32 k39 k95 r40 rx r11 r14 r33
    go_enter Tryd.func47, Tryd.ntmps47
    go_wp2
    go_ret
    exact ⟨by rw [hcl.out]; rfl, rfl⟩
  by_cases r48 : 48 ≤ c ∧ c ≤ 57
  · have hcl : Hid (classZ c = 3) := class_of c 3 (by omega)
    have e32 : (c == 32) = false := by simp; omega
    have e9 : (c == 9) = false := by simp; omega
    have e10 : (c == 10) = false := by simp; omega
    have e13 : (c == 13) = false := by simp; omega
    have e95 : (c == 95) = false := by simp; omega
    have e39 : (c == 39) = false := by simp; omega
    have g97 : decide (97 ≤ c) = false := by simp; omega
    have l122 : decide (c ≤ 122) = true := by simp; omega
    have g65 : decide (65 ≤ c) = false := by simp; omega
    have l90 : decide (c ≤ 90) = true := by simp; omega
    have g48 : decide (48 ≤ c) = true := by simp; omega
    have l57 : decide (c ≤ 57) = true := by simp; omega
    have g33 : decide (33 ≤ c) = true := by simp; omega
    have l126 : decide (c ≤ 126) = true := by simp; omega
    clear k9 k10 k13 k32 k39 k95 r48 rx r11 r14 r33 r40
    go_enter Tryd.func47, Tryd.ntmps47
    go_wp2
    go_ret
    exact ⟨by rw [hcl.out]; rfl, rfl⟩
  by_cases r58 : 58 ≤ c ∧ c ≤ 64
  · have hcl : Hid (classZ c = 5) := class_of c 5 (by omega)
    have e32 : (c == 32) = false := by simp; omega
    have e9 : (c == 9) = false := by simp; omega
    have e10 : (c == 10) = false := by simp; omega
    have e13 : (c == 13) = false := by simp; omega
    have e95 : (c == 95) = false := by simp; omega
    have e39 : (c == 39) = false := by simp; omega
    have g97 : decide (97 ≤ c) = false := by simp; omega
    have l122 : decide (c ≤ 122) = true := by simp; omega
    have g65 : decide (65 ≤ c) = false := by simp; omega
    have l90 : decide (c ≤ 90) = true := by simp; omega
    have g48 : decide (48 ≤ c) = true := by simp; omega
    have l57 : decide (c ≤ 57) = false := by simp; omega
    have g33 : decide (33 ≤ c) = true := by simp; omega
    have l126 : decide (c ≤ 126) = true := by simp; omega
    clear k9 k10 k13 k32 k39 k95 r58 rx r11 r14 r33 r40 r48
    go_enter Tryd.func47, Tryd.ntmps47
    go_wp2
    go_ret
    exact ⟨by rw [hcl.out]; rfl, rfl⟩
  by_cases r65 : 65 ≤ c ∧ c ≤ 90
  · have hcl : Hid (classZ c = 2) := class_of c 2 (by omega)
    have e32 : (c == 32) = false := by simp; omega
    have e9 : (c == 9) = false := by simp; omega
    have e10 : (c == 10) = false := by simp; omega
    have e13 : (c == 13) = false := by simp; omega
    have e95 : (c == 95) = false := by simp; omega
    have e39 : (c == 39) = false := by simp; omega
    have g97 : decide (97 ≤ c) = false := by simp; omega
    have l122 : decide (c ≤ 122) = true := by simp; omega
    have g65 : decide (65 ≤ c) = true := by simp; omega
    have l90 : decide (c ≤ 90) = true := by simp; omega
    have g48 : decide (48 ≤ c) = true := by simp; omega
    have l57 : decide (c ≤ 57) = false := by simp; omega
    have g33 : decide (33 ≤ c) = true := by simp; omega
    have l126 : decide (c ≤ 126) = true := by simp; omega
    clear k9 k10 k13 k32 k39 k95 r65 rx r11 r14 r33 r40 r48 r58
    go_enter Tryd.func47, Tryd.ntmps47
    go_wp2
    go_ret
    exact ⟨by rw [hcl.out]; rfl, rfl⟩
  by_cases r91 : 91 ≤ c ∧ c ≤ 94
  · have hcl : Hid (classZ c = 5) := class_of c 5 (by omega)
    have e32 : (c == 32) = false := by simp; omega
    have e9 : (c == 9) = false := by simp; omega
    have e10 : (c == 10) = false := by simp; omega
    have e13 : (c == 13) = false := by simp; omega
    have e95 : (c == 95) = false := by simp; omega
    have e39 : (c == 39) = false := by simp; omega
    have g97 : decide (97 ≤ c) = false := by simp; omega
    have l122 : decide (c ≤ 122) = true := by simp; omega
    have g65 : decide (65 ≤ c) = true := by simp; omega
    have l90 : decide (c ≤ 90) = false := by simp; omega
    have g48 : decide (48 ≤ c) = true := by simp; omega
    have l57 : decide (c ≤ 57) = false := by simp; omega
    have g33 : decide (33 ≤ c) = true := by simp; omega
    have l126 : decide (c ≤ 126) = true := by simp; omega
    clear k9 k10 k13 k32 k39 k95 r91 rx r11 r14 r33 r40 r48 r58 r65
    go_enter Tryd.func47, Tryd.ntmps47
    go_wp2
    go_ret
    exact ⟨by rw [hcl.out]; rfl, rfl⟩
  by_cases r96 : 96 ≤ c ∧ c ≤ 96
  · have hcl : Hid (classZ c = 5) := class_of c 5 (by omega)
    have e32 : (c == 32) = false := by simp; omega
    have e9 : (c == 9) = false := by simp; omega
    have e10 : (c == 10) = false := by simp; omega
    have e13 : (c == 13) = false := by simp; omega
    have e95 : (c == 95) = false := by simp; omega
    have e39 : (c == 39) = false := by simp; omega
    have g97 : decide (97 ≤ c) = false := by simp; omega
    have l122 : decide (c ≤ 122) = true := by simp; omega
    have g65 : decide (65 ≤ c) = true := by simp; omega
    have l90 : decide (c ≤ 90) = false := by simp; omega
    have g48 : decide (48 ≤ c) = true := by simp; omega
    have l57 : decide (c ≤ 57) = false := by simp; omega
    have g33 : decide (33 ≤ c) = true := by simp; omega
    have l126 : decide (c ≤ 126) = true := by simp; omega
    clear k9 k10 k13 k32 k39 k95 r96 rx r11 r14 r33 r40 r48 r58 r65 r91
    go_enter Tryd.func47, Tryd.ntmps47
    go_wp2
    go_ret
    exact ⟨by rw [hcl.out]; rfl, rfl⟩
  by_cases r97 : 97 ≤ c ∧ c ≤ 122
  · have hcl : Hid (classZ c = 2) := class_of c 2 (by omega)
    have e32 : (c == 32) = false := by simp; omega
    have e9 : (c == 9) = false := by simp; omega
    have e10 : (c == 10) = false := by simp; omega
    have e13 : (c == 13) = false := by simp; omega
    have e95 : (c == 95) = false := by simp; omega
    have e39 : (c == 39) = false := by simp; omega
    have g97 : decide (97 ≤ c) = true := by simp; omega
    have l122 : decide (c ≤ 122) = true := by simp; omega
    have g65 : decide (65 ≤ c) = true := by simp; omega
    have l90 : decide (c ≤ 90) = false := by simp; omega
    have g48 : decide (48 ≤ c) = true := by simp; omega
    have l57 : decide (c ≤ 57) = false := by simp; omega
    have g33 : decide (33 ≤ c) = true := by simp; omega
    have l126 : decide (c ≤ 126) = true := by simp; omega
    clear k9 k10 k13 k32 k39 k95 r97 rx r11 r14 r33 r40 r48 r58 r65 r91 r96
    go_enter Tryd.func47, Tryd.ntmps47
    go_wp2
    go_ret
    exact ⟨by rw [hcl.out]; rfl, rfl⟩
  by_cases r123 : 123 ≤ c ∧ c ≤ 126
  · have hcl : Hid (classZ c = 5) := class_of c 5 (by omega)
    have e32 : (c == 32) = false := by simp; omega
    have e9 : (c == 9) = false := by simp; omega
    have e10 : (c == 10) = false := by simp; omega
    have e13 : (c == 13) = false := by simp; omega
    have e95 : (c == 95) = false := by simp; omega
    have e39 : (c == 39) = false := by simp; omega
    have g97 : decide (97 ≤ c) = true := by simp; omega
    have l122 : decide (c ≤ 122) = false := by simp; omega
    have g65 : decide (65 ≤ c) = true := by simp; omega
    have l90 : decide (c ≤ 90) = false := by simp; omega
    have g48 : decide (48 ≤ c) = true := by simp; omega
    have l57 : decide (c ≤ 57) = false := by simp; omega
    have g33 : decide (33 ≤ c) = true := by simp; omega
    have l126 : decide (c ≤ 126) = true := by simp; omega
    clear k9 k10 k13 k32 k39 k95 r123 rx r11 r14 r33 r40 r48 r58 r65 r91 r96 r97
    go_enter Tryd.func47, Tryd.ntmps47
    go_wp2
    go_ret
    exact ⟨by rw [hcl.out]; rfl, rfl⟩
  by_cases r127 : 127 ≤ c
  · have hcl : Hid (classZ c = 0) := class_of c 0 (by omega)
    have e32 : (c == 32) = false := by simp; omega
    have e9 : (c == 9) = false := by simp; omega
    have e10 : (c == 10) = false := by simp; omega
    have e13 : (c == 13) = false := by simp; omega
    have e95 : (c == 95) = false := by simp; omega
    have e39 : (c == 39) = false := by simp; omega
    have g97 : decide (97 ≤ c) = true := by simp; omega
    have l122 : decide (c ≤ 122) = false := by simp; omega
    have g65 : decide (65 ≤ c) = true := by simp; omega
    have l90 : decide (c ≤ 90) = false := by simp; omega
    have g48 : decide (48 ≤ c) = true := by simp; omega
    have l57 : decide (c ≤ 57) = false := by simp; omega
    have g33 : decide (33 ≤ c) = true := by simp; omega
    have l126 : decide (c ≤ 126) = false := by simp; omega
    clear k9 k10 k13 k32 k39 k95 r127 rx r11 r14 r33 r40 r48 r58 r65 r91 r96 r97 r123
    go_enter Tryd.func47, Tryd.ntmps47
    go_wp2
    go_ret
    exact ⟨by rw [hcl.out]; rfl, rfl⟩
  exfalso; omega

set_option maxRecDepth 100000 in
set_option maxHeartbeats 4000000 in
theorem rClass_any (c : Int) (w : World) : Calls Tryd.prog 106 #[.int .i64 c] w fun e w' => e = .returned (.int .i64 (classZ c)) ∧ w = w' := by
  by_cases k9 : c = 9
  · subst k9
    go_enter Tryd.func106, Tryd.ntmps106
    go_wp2
    go_ret
    exact ⟨rfl, rfl⟩
  by_cases k10 : c = 10
  · subst k10
    go_enter Tryd.func106, Tryd.ntmps106
    go_wp2
    go_ret
    exact ⟨rfl, rfl⟩
  by_cases k13 : c = 13
  · subst k13
    go_enter Tryd.func106, Tryd.ntmps106
    go_wp2
    go_ret
    exact ⟨rfl, rfl⟩
  by_cases k32 : c = 32
  · subst k32
    go_enter Tryd.func106, Tryd.ntmps106
    go_wp2
    go_ret
    exact ⟨rfl, rfl⟩
  by_cases k39 : c = 39
  · subst k39
    go_enter Tryd.func106, Tryd.ntmps106
    go_wp2
    go_ret
    exact ⟨rfl, rfl⟩
  by_cases k95 : c = 95
  · subst k95
    go_enter Tryd.func106, Tryd.ntmps106
    go_wp2
    go_ret
    exact ⟨rfl, rfl⟩
  by_cases rx : c ≤ 8
  · have hcl : Hid (classZ c = 0) := class_of c 0 (by omega)
    have e32 : (c == 32) = false := by simp; omega
    have e9 : (c == 9) = false := by simp; omega
    have e10 : (c == 10) = false := by simp; omega
    have e13 : (c == 13) = false := by simp; omega
    have e95 : (c == 95) = false := by simp; omega
    have e39 : (c == 39) = false := by simp; omega
    have g97 : decide (97 ≤ c) = false := by simp; omega
    have l122 : decide (c ≤ 122) = true := by simp; omega
    have g65 : decide (65 ≤ c) = false := by simp; omega
    have l90 : decide (c ≤ 90) = true := by simp; omega
    have g48 : decide (48 ≤ c) = false := by simp; omega
    have l57 : decide (c ≤ 57) = true := by simp; omega
    have g33 : decide (33 ≤ c) = false := by simp; omega
    have l126 : decide (c ≤ 126) = true := by simp; omega
    clear k9 k10 k13 k32 k39 k95 rx
    go_enter Tryd.func106, Tryd.ntmps106
    go_wp2
    go_ret
    exact ⟨by rw [hcl.out]; rfl, rfl⟩
  by_cases r11 : 11 ≤ c ∧ c ≤ 12
  · have hcl : Hid (classZ c = 0) := class_of c 0 (by omega)
    have e32 : (c == 32) = false := by simp; omega
    have e9 : (c == 9) = false := by simp; omega
    have e10 : (c == 10) = false := by simp; omega
    have e13 : (c == 13) = false := by simp; omega
    have e95 : (c == 95) = false := by simp; omega
    have e39 : (c == 39) = false := by simp; omega
    have g97 : decide (97 ≤ c) = false := by simp; omega
    have l122 : decide (c ≤ 122) = true := by simp; omega
    have g65 : decide (65 ≤ c) = false := by simp; omega
    have l90 : decide (c ≤ 90) = true := by simp; omega
    have g48 : decide (48 ≤ c) = false := by simp; omega
    have l57 : decide (c ≤ 57) = true := by simp; omega
    have g33 : decide (33 ≤ c) = false := by simp; omega
    have l126 : decide (c ≤ 126) = true := by simp; omega
    clear k9 k10 k13 k32 k39 k95 r11 rx
    go_enter Tryd.func106, Tryd.ntmps106
    go_wp2
    go_ret
    exact ⟨by rw [hcl.out]; rfl, rfl⟩
  by_cases r14 : 14 ≤ c ∧ c ≤ 31
  · have hcl : Hid (classZ c = 0) := class_of c 0 (by omega)
    have e32 : (c == 32) = false := by simp; omega
    have e9 : (c == 9) = false := by simp; omega
    have e10 : (c == 10) = false := by simp; omega
    have e13 : (c == 13) = false := by simp; omega
    have e95 : (c == 95) = false := by simp; omega
    have e39 : (c == 39) = false := by simp; omega
    have g97 : decide (97 ≤ c) = false := by simp; omega
    have l122 : decide (c ≤ 122) = true := by simp; omega
    have g65 : decide (65 ≤ c) = false := by simp; omega
    have l90 : decide (c ≤ 90) = true := by simp; omega
    have g48 : decide (48 ≤ c) = false := by simp; omega
    have l57 : decide (c ≤ 57) = true := by simp; omega
    have g33 : decide (33 ≤ c) = false := by simp; omega
    have l126 : decide (c ≤ 126) = true := by simp; omega
    clear k9 k10 k13 k32 k39 k95 r14 rx r11
    go_enter Tryd.func106, Tryd.ntmps106
    go_wp2
    go_ret
    exact ⟨by rw [hcl.out]; rfl, rfl⟩
  by_cases r33 : 33 ≤ c ∧ c ≤ 38
  · have hcl : Hid (classZ c = 5) := class_of c 5 (by omega)
    have e32 : (c == 32) = false := by simp; omega
    have e9 : (c == 9) = false := by simp; omega
    have e10 : (c == 10) = false := by simp; omega
    have e13 : (c == 13) = false := by simp; omega
    have e95 : (c == 95) = false := by simp; omega
    have e39 : (c == 39) = false := by simp; omega
    have g97 : decide (97 ≤ c) = false := by simp; omega
    have l122 : decide (c ≤ 122) = true := by simp; omega
    have g65 : decide (65 ≤ c) = false := by simp; omega
    have l90 : decide (c ≤ 90) = true := by simp; omega
    have g48 : decide (48 ≤ c) = false := by simp; omega
    have l57 : decide (c ≤ 57) = true := by simp; omega
    have g33 : decide (33 ≤ c) = true := by simp; omega
    have l126 : decide (c ≤ 126) = true := by simp; omega
    clear k9 k10 k13 k32 k39 k95 r33 rx r11 r14
    go_enter Tryd.func106, Tryd.ntmps106
    go_wp2
    go_ret
    exact ⟨by rw [hcl.out]; rfl, rfl⟩
  by_cases r40 : 40 ≤ c ∧ c ≤ 47
  · have hcl : Hid (classZ c = 5) := class_of c 5 (by omega)
    have e32 : (c == 32) = false := by simp; omega
    have e9 : (c == 9) = false := by simp; omega
    have e10 : (c == 10) = false := by simp; omega
    have e13 : (c == 13) = false := by simp; omega
    have e95 : (c == 95) = false := by simp; omega
    have e39 : (c == 39) = false := by simp; omega
    have g97 : decide (97 ≤ c) = false := by simp; omega
    have l122 : decide (c ≤ 122) = true := by simp; omega
    have g65 : decide (65 ≤ c) = false := by simp; omega
    have l90 : decide (c ≤ 90) = true := by simp; omega
    have g48 : decide (48 ≤ c) = false := by simp; omega
    have l57 : decide (c ≤ 57) = true := by simp; omega
    have g33 : decide (33 ≤ c) = true := by simp; omega
    have l126 : decide (c ≤ 126) = true := by simp; omega
    clear k9 k10 k13 k32 k39 k95 r40 rx r11 r14 r33
    go_enter Tryd.func106, Tryd.ntmps106
    go_wp2
    go_ret
    exact ⟨by rw [hcl.out]; rfl, rfl⟩
  by_cases r48 : 48 ≤ c ∧ c ≤ 57
  · have hcl : Hid (classZ c = 3) := class_of c 3 (by omega)
    have e32 : (c == 32) = false := by simp; omega
    have e9 : (c == 9) = false := by simp; omega
    have e10 : (c == 10) = false := by simp; omega
    have e13 : (c == 13) = false := by simp; omega
    have e95 : (c == 95) = false := by simp; omega
    have e39 : (c == 39) = false := by simp; omega
    have g97 : decide (97 ≤ c) = false := by simp; omega
    have l122 : decide (c ≤ 122) = true := by simp; omega
    have g65 : decide (65 ≤ c) = false := by simp; omega
    have l90 : decide (c ≤ 90) = true := by simp; omega
    have g48 : decide (48 ≤ c) = true := by simp; omega
    have l57 : decide (c ≤ 57) = true := by simp; omega
    have g33 : decide (33 ≤ c) = true := by simp; omega
    have l126 : decide (c ≤ 126) = true := by simp; omega
    clear k9 k10 k13 k32 k39 k95 r48 rx r11 r14 r33 r40
    go_enter Tryd.func106, Tryd.ntmps106
    go_wp2
    go_ret
    exact ⟨by rw [hcl.out]; rfl, rfl⟩
  by_cases r58 : 58 ≤ c ∧ c ≤ 64
  · have hcl : Hid (classZ c = 5) := class_of c 5 (by omega)
    have e32 : (c == 32) = false := by simp; omega
    have e9 : (c == 9) = false := by simp; omega
    have e10 : (c == 10) = false := by simp; omega
    have e13 : (c == 13) = false := by simp; omega
    have e95 : (c == 95) = false := by simp; omega
    have e39 : (c == 39) = false := by simp; omega
    have g97 : decide (97 ≤ c) = false := by simp; omega
    have l122 : decide (c ≤ 122) = true := by simp; omega
    have g65 : decide (65 ≤ c) = false := by simp; omega
    have l90 : decide (c ≤ 90) = true := by simp; omega
    have g48 : decide (48 ≤ c) = true := by simp; omega
    have l57 : decide (c ≤ 57) = false := by simp; omega
    have g33 : decide (33 ≤ c) = true := by simp; omega
    have l126 : decide (c ≤ 126) = true := by simp; omega
    clear k9 k10 k13 k32 k39 k95 r58 rx r11 r14 r33 r40 r48
    go_enter Tryd.func106, Tryd.ntmps106
    go_wp2
    go_ret
    exact ⟨by rw [hcl.out]; rfl, rfl⟩
  by_cases r65 : 65 ≤ c ∧ c ≤ 90
  · have hcl : Hid (classZ c = 2) := class_of c 2 (by omega)
    have e32 : (c == 32) = false := by simp; omega
    have e9 : (c == 9) = false := by simp; omega
    have e10 : (c == 10) = false := by simp; omega
    have e13 : (c == 13) = false := by simp; omega
    have e95 : (c == 95) = false := by simp; omega
    have e39 : (c == 39) = false := by simp; omega
    have g97 : decide (97 ≤ c) = false := by simp; omega
    have l122 : decide (c ≤ 122) = true := by simp; omega
    have g65 : decide (65 ≤ c) = true := by simp; omega
    have l90 : decide (c ≤ 90) = true := by simp; omega
    have g48 : decide (48 ≤ c) = true := by simp; omega
    have l57 : decide (c ≤ 57) = false := by simp; omega
    have g33 : decide (33 ≤ c) = true := by simp; omega
    have l126 : decide (c ≤ 126) = true := by simp; omega
    clear k9 k10 k13 k32 k39 k95 r65 rx r11 r14 r33 r40 r48 r58
    go_enter Tryd.func106, Tryd.ntmps106
    go_wp2
    go_ret
    exact ⟨by rw [hcl.out]; rfl, rfl⟩
  by_cases r91 : 91 ≤ c ∧ c ≤ 94
  · have hcl : Hid (classZ c = 5) := class_of c 5 (by omega)
    have e32 : (c == 32) = false := by simp; omega
    have e9 : (c == 9) = false := by simp; omega
    have e10 : (c == 10) = false := by simp; omega
    have e13 : (c == 13) = false := by simp; omega
    have e95 : (c == 95) = false := by simp; omega
    have e39 : (c == 39) = false := by simp; omega
    have g97 : decide (97 ≤ c) = false := by simp; omega
    have l122 : decide (c ≤ 122) = true := by simp; omega
    have g65 : decide (65 ≤ c) = true := by simp; omega
    have l90 : decide (c ≤ 90) = false := by simp; omega
    have g48 : decide (48 ≤ c) = true := by simp; omega
    have l57 : decide (c ≤ 57) = false := by simp; omega
    have g33 : decide (33 ≤ c) = true := by simp; omega
    have l126 : decide (c ≤ 126) = true := by simp; omega
    clear k9 k10 k13 k32 k39 k95 r91 rx r11 r14 r33 r40 r48 r58 r65
    go_enter Tryd.func106, Tryd.ntmps106
    go_wp2
    go_ret
    exact ⟨by rw [hcl.out]; rfl, rfl⟩
  by_cases r96 : 96 ≤ c ∧ c ≤ 96
  · have hcl : Hid (classZ c = 5) := class_of c 5 (by omega)
    have e32 : (c == 32) = false := by simp; omega
    have e9 : (c == 9) = false := by simp; omega
    have e10 : (c == 10) = false := by simp; omega
    have e13 : (c == 13) = false := by simp; omega
    have e95 : (c == 95) = false := by simp; omega
    have e39 : (c == 39) = false := by simp; omega
    have g97 : decide (97 ≤ c) = false := by simp; omega
    have l122 : decide (c ≤ 122) = true := by simp; omega
    have g65 : decide (65 ≤ c) = true := by simp; omega
    have l90 : decide (c ≤ 90) = false := by simp; omega
    have g48 : decide (48 ≤ c) = true := by simp; omega
    have l57 : decide (c ≤ 57) = false := by simp; omega
    have g33 : decide (33 ≤ c) = true := by simp; omega
    have l126 : decide (c ≤ 126) = true := by simp; omega
    clear k9 k10 k13 k32 k39 k95 r96 rx r11 r14 r33 r40 r48 r58 r65 r91
    go_enter Tryd.func106, Tryd.ntmps106
    go_wp2
    go_ret
    exact ⟨by rw [hcl.out]; rfl, rfl⟩
  by_cases r97 : 97 ≤ c ∧ c ≤ 122
  · have hcl : Hid (classZ c = 2) := class_of c 2 (by omega)
    have e32 : (c == 32) = false := by simp; omega
    have e9 : (c == 9) = false := by simp; omega
    have e10 : (c == 10) = false := by simp; omega
    have e13 : (c == 13) = false := by simp; omega
    have e95 : (c == 95) = false := by simp; omega
    have e39 : (c == 39) = false := by simp; omega
    have g97 : decide (97 ≤ c) = true := by simp; omega
    have l122 : decide (c ≤ 122) = true := by simp; omega
    have g65 : decide (65 ≤ c) = true := by simp; omega
    have l90 : decide (c ≤ 90) = false := by simp; omega
    have g48 : decide (48 ≤ c) = true := by simp; omega
    have l57 : decide (c ≤ 57) = false := by simp; omega
    have g33 : decide (33 ≤ c) = true := by simp; omega
    have l126 : decide (c ≤ 126) = true := by simp; omega
    clear k9 k10 k13 k32 k39 k95 r97 rx r11 r14 r33 r40 r48 r58 r65 r91 r96
    go_enter Tryd.func106, Tryd.ntmps106
    go_wp2
    go_ret
    exact ⟨by rw [hcl.out]; rfl, rfl⟩
  by_cases r123 : 123 ≤ c ∧ c ≤ 126
  · have hcl : Hid (classZ c = 5) := class_of c 5 (by omega)
    have e32 : (c == 32) = false := by simp; omega
    have e9 : (c == 9) = false := by simp; omega
    have e10 : (c == 10) = false := by simp; omega
    have e13 : (c == 13) = false := by simp; omega
    have e95 : (c == 95) = false := by simp; omega
    have e39 : (c == 39) = false := by simp; omega
    have g97 : decide (97 ≤ c) = true := by simp; omega
    have l122 : decide (c ≤ 122) = false := by simp; omega
    have g65 : decide (65 ≤ c) = true := by simp; omega
    have l90 : decide (c ≤ 90) = false := by simp; omega
    have g48 : decide (48 ≤ c) = true := by simp; omega
    have l57 : decide (c ≤ 57) = false := by simp; omega
    have g33 : decide (33 ≤ c) = true := by simp; omega
    have l126 : decide (c ≤ 126) = true := by simp; omega
    clear k9 k10 k13 k32 k39 k95 r123 rx r11 r14 r33 r40 r48 r58 r65 r91 r96 r97
    go_enter Tryd.func106, Tryd.ntmps106
    go_wp2
    go_ret
    exact ⟨by rw [hcl.out]; rfl, rfl⟩
  by_cases r127 : 127 ≤ c
  · have hcl : Hid (classZ c = 0) := class_of c 0 (by omega)
    have e32 : (c == 32) = false := by simp; omega
    have e9 : (c == 9) = false := by simp; omega
    have e10 : (c == 10) = false := by simp; omega
    have e13 : (c == 13) = false := by simp; omega
    have e95 : (c == 95) = false := by simp; omega
    have e39 : (c == 39) = false := by simp; omega
    have g97 : decide (97 ≤ c) = true := by simp; omega
    have l122 : decide (c ≤ 122) = false := by simp; omega
    have g65 : decide (65 ≤ c) = true := by simp; omega
    have l90 : decide (c ≤ 90) = false := by simp; omega
    have g48 : decide (48 ≤ c) = true := by simp; omega
    have l57 : decide (c ≤ 57) = false := by simp; omega
    have g33 : decide (33 ≤ c) = true := by simp; omega
    have l126 : decide (c ≤ 126) = false := by simp; omega
    clear k9 k10 k13 k32 k39 k95 r127 rx r11 r14 r33 r40 r48 r58 r65 r91 r96 r97 r123
    go_enter Tryd.func106, Tryd.ntmps106
    go_wp2
    go_ret
    exact ⟨by rw [hcl.out]; rfl, rfl⟩
  exfalso; omega
end Go.Proofs.YtbnddpicpomakaaDoor

/- Plain mathematics of layer 1: the bytes of an integer, and what bytes are an integer's. -/
set_option linter.unusedSimpArgs false
set_option linter.unusedVariables false
set_option maxRecDepth 100000
namespace Go.Proofs.YtbnddpicpomakaaDoor

/-- The bytes of v: seven bits a byte, the least first; all but the last have the eighth bit. -/
def putL (v : Nat) : List Nat := if v < 128 then [v] else (v % 128 + 128) :: putL (v / 128)
termination_by v

theorem putL_small {v : Nat} (h : v < 128) : putL v = [v] := by rw [putL, if_pos h]
theorem putL_step {v : Nat} (h : ¬ v < 128) : putL v = (v % 128 + 128) :: putL (v / 128) := by rw [putL, if_neg h]

theorem putL_byte : ∀ (v : Nat), ∀ c ∈ putL v, c < 256 := by
  intro v
  induction v using putL.induct with
  | case1 v h => rw [putL_small h]; intro c hc; simp at hc; omega
  | case2 v h ih =>
    rw [putL_step h]; intro c hc
    simp at hc
    rcases hc with hc | hc
    · omega
    · exact ih c hc

theorem putL_pos (v : Nat) : 1 ≤ (putL v).length := by
  rw [putL]; split <;> simp

/-- Of a number below 128^n at most n bytes. -/
theorem putL_len : ∀ (n v : Nat), v < 128 ^ (n + 1) → (putL v).length ≤ n + 1
  | 0, v, h => by rw [putL_small (by simpa using h)]; simp
  | n + 1, v, h => by
    by_cases hv : v < 128
    · rw [putL_small hv]; simp
    · rw [putL_step hv]
      have : v / 128 < 128 ^ (n + 1) := by
        rw [Nat.div_lt_iff_lt_mul (by omega)]
        rw [Nat.pow_succ] at h; exact h
      have := putL_len n (v / 128) this
      simp; omega

theorem putL_len10 {v : Nat} (h : v < 18446744073709551616) : (putL v).length ≤ 10 :=
  putL_len 9 v (Nat.lt_trans h (by decide))

theorem putL_mono : ∀ (a b : Nat), a ≤ b → (putL a).length ≤ (putL b).length := by
  intro a
  induction a using putL.induct with
  | case1 a h => intro b _; rw [putL_small h]; exact putL_pos b
  | case2 a h ih =>
    intro b hab
    rw [putL_step h, putL_step (by omega : ¬ b < 128)]
    have := ih (b / 128) (Nat.div_le_div_right hab)
    simp; omega

/-- What stands at a list of bytes: the integer, how many bytes it has, and the error (0: none; 3: ErrForm; 10: ErrShort). i: how many bytes have gone by; v: what they make. -/
def getS : List Nat → Nat → Nat → Nat × Nat × Nat
  | [], _, _ => (0, 0, 10)
  | c :: r, i, v =>
    if i = 9 ∧ 1 < c then (0, 0, 3)
    else if 0 < i ∧ c = 0 then (0, 0, 3)
    else if c < 128 then (v + c * 128 ^ i, i + 1, 0)
    else getS r (i + 1) (v + (c - 128) * 128 ^ i)

/-- The answer of Get at index 'at'. -/
def getR (l : List Nat) (at_ : Int) : Nat × Int × Nat :=
  if at_ < 0 ∨ (l.length : Int) < at_ then (0, 0, 1)
  else
    let r := getS (l.drop at_.toNat) 0 0
    if r.2.2 = 0 then (r.1, at_ + r.2.1, 0) else (0, 0, r.2.2)

theorem pow7 (i : Nat) : 2 ^ (7 * i) = 128 ^ i := by rw [Nat.pow_mul]

/-- 'c & 127' of a byte. -/
theorem and127 (c : Nat) (h : c < 256) : bits .and .u8 (c : Int) 127 = ((c % 128 : Nat) : Int) := by
  have := u8_and_nat c 127 h (by omega)
  rw [nat_mask7] at this; exact this

/-- 'byte(v) | 128'. -/
theorem or128 (v : Nat) : bits .or .u8 ((v : Int) % 256) 128 = (((v % 128 + 128 : Nat)) : Int) := by
  have h := u8_or_nat (v % 256) 128 (Nat.mod_lt _ (by omega)) (by omega)
  have e : v % 256 ||| 128 = v % 128 + 128 := by
    by_cases hb : v % 256 < 128
    · rw [Nat.or_comm, nat_join 7 128 (v % 256) (by decide) (by omega)]; omega
    · have e1 : v % 256 = 128 + v % 128 := by omega
      have e2 : 128 + v % 128 = 128 ||| (v % 128) := (nat_join 7 128 (v % 128) (by decide) (by omega)).symm
      rw [e1, e2]
      rw [Nat.or_comm, ← Nat.or_assoc, Nat.or_self, ← e2]; omega
  rw [e] at h
  rw [← h]; congr 1

/-- 'v | x << (7 * i)' where v lies below the shift. -/
theorem orShift (v x i : Nat) (hv : v < 128 ^ i) (hs : v + x * 128 ^ i < 18446744073709551616) : bits .or .u64 (v : Int) ((x * 128 ^ i : Nat) : Int) = ((v + x * 128 ^ i : Nat) : Int) := by
  have h := u64_or_nat v (x * 128 ^ i) (by omega) (by omega)
  rw [h, Nat.or_comm, nat_join (7 * i) (x * 128 ^ i) v (by rw [pow7]; exact Nat.mul_mod_left x (128 ^ i)) (by rw [pow7]; exact hv)]
  congr 1; omega

/-- 'x << (7 * i)' of a uint64, by a number of its own; and 'v | x << (7 * i)'. -/
theorem shiftOr (c k V : Nat) (hk : k ≤ 9) (hV : V < 128 ^ k) : ∃ X Y : Nat, IntKind.u64.wrap ((c : Int) % 128 * 2 ^ (7 * k)) = (X : Int) ∧
    bits .or .u64 (V : Int) (X : Int) = (Y : Int) ∧ Y < 18446744073709551616 ∧ (c % 128 * 128 ^ k + V < 18446744073709551616 → Y = V + c % 128 * 128 ^ k) := by
  have hp : 128 ^ k ≤ 128 ^ 9 := Nat.pow_le_pow_right (by omega) hk
  have hVs : V < 18446744073709551616 := by
    have : (128 : Nat) ^ 9 = 9223372036854775808 := by decide
    omega
  have hXlt : c % 128 * 128 ^ k % 18446744073709551616 < 18446744073709551616 := Nat.mod_lt _ (by omega)
  have hor : bits .or .u64 (V : Int) ((c % 128 * 128 ^ k % 18446744073709551616 : Nat) : Int) = _ := u64_or_nat V _ hVs hXlt
  refine ⟨c % 128 * 128 ^ k % 18446744073709551616, _, ?_, hor, ?_, ?_⟩
  · rw [IntKind.wrap_u64, show ((2 : Int) ^ (7 * k)) = ((2 ^ (7 * k) : Nat) : Int) from by simp, pow7]
    have e2 : ((c : Int) % 128) * ((128 ^ k : Nat) : Int) = ((c % 128 * 128 ^ k : Nat) : Int) := by rw [Int.natCast_mul]; rfl
    rw [e2]; omega
  · exact Nat.or_lt_two_pow (n := 64) hVs hXlt
  · intro hs
    have e : c % 128 * 128 ^ k % 18446744073709551616 = c % 128 * 128 ^ k := Nat.mod_eq_of_lt (by omega)
    rw [e, Nat.or_comm, nat_join (7 * k) (c % 128 * 128 ^ k) V (by rw [pow7]; exact Nat.mul_mod_left _ (128 ^ k)) (by rw [pow7]; exact hV)]
    omega

theorem grow7 (c k V : Nat) (hV : V < 128 ^ k) : c % 128 * 128 ^ k + V < 128 ^ (k + 1) := by
  have h : c % 128 ≤ 127 := by omega
  have := Nat.mul_le_mul_right (128 ^ k) h
  rw [Nat.pow_succ]; omega

theorem fits7 (c k V : Nat) (hV : V < 128 ^ k) (hk : k < 9 ∨ (k = 9 ∧ c ≤ 1)) : c % 128 * 128 ^ k + V < 18446744073709551616 := by
  rcases hk with hk | ⟨rfl, hc⟩
  · have h1 := grow7 c k V hV
    have h2 : 128 ^ (k + 1) ≤ 128 ^ 9 := Nat.pow_le_pow_right (by omega) (by omega)
    have : (128 : Nat) ^ 9 = 9223372036854775808 := by decide
    omega
  · have h : c % 128 ≤ 1 := by omega
    have := Nat.mul_le_mul_right (128 ^ 9) h
    have : (128 : Nat) ^ 9 = 9223372036854775808 := by decide
    omega

/-! The same number, read from the last byte to the first. -/
def horner : List Nat → Nat
  | [] => 0
  | c :: r => c % 128 + 128 * horner r

theorem horner_snoc : ∀ (l : List Nat) (c : Nat), horner (l ++ [c]) = horner l + c % 128 * 128 ^ l.length
  | [], c => by simp [horner]
  | d :: r, c => by
    have := horner_snoc r c
    simp only [List.cons_append, horner, this, List.length_cons, Nat.pow_succ]
    have e : 128 * (c % 128 * 128 ^ r.length) = c % 128 * (128 ^ r.length * 128) := by
      rw [← Nat.mul_assoc, Nat.mul_comm 128 (c % 128), Nat.mul_assoc, Nat.mul_comm 128]
    omega

theorem horner_lt : ∀ (l : List Nat), horner l < 128 ^ l.length
  | [] => by simp [horner]
  | d :: r => by
    have := horner_lt r
    simp only [horner, List.length_cons, Nat.pow_succ]; omega

theorem horner_drop : ∀ (l : List Nat) (j : Nat), horner (l.drop j) ≤ horner l
  | [], j => by simp
  | d :: r, 0 => by simp
  | d :: r, j + 1 => by
    have := horner_drop r j
    simp only [List.drop_succ_cons, horner]; omega

theorem horner_step (l : List Nat) (j : Nat) (h : j < l.length) : horner (l.drop j) = l[j] % 128 + 128 * horner (l.drop (j + 1)) := by
  rw [List.drop_eq_getElem_cons h]; rfl

theorem take_succ_n (l : List Nat) (k : Nat) (h : k < l.length) : l.take (k + 1) = l.take k ++ [l[k]] := by
  rw [List.take_add_one, List.getElem?_eq_getElem h]; rfl

/-- The first k bytes have the eighth bit: Get goes past them. -/
theorem getS_skip (D : List Nat) : ∀ (k : Nat), k ≤ 9 → (hk : k ≤ D.length) → (∀ i (h : i < k), 127 < D[i]'(by omega)) → (∀ c ∈ D, c < 256) → getS D 0 0 = getS (D.drop k) k (horner (D.take k))
  | 0, _, _, _, _ => by simp [horner]
  | k + 1, h9, hk, hb, h256 => by
    have ih := getS_skip D k (by omega) (by omega) (fun i h => hb i (by omega)) h256
    have hkl : k < D.length := by omega
    have hd := hb k (by omega)
    have h2 := h256 D[k] (List.getElem_mem hkl)
    rw [ih, List.drop_eq_getElem_cons hkl, getS, if_neg (by omega), if_neg (by omega), if_neg (by omega), take_succ_n D k hkl, horner_snoc]
    rw [show D[k] - 128 = D[k] % 128 by omega, List.length_take_of_le (by omega)]

theorem getS_big (D : List Nat) (hk : 9 < D.length) (hb : ∀ i (h : i < 9), 127 < D[i]'(by omega)) (h256 : ∀ c ∈ D, c < 256) (h1 : 1 < D[9]) : getS D 0 0 = (0, 0, 3) := by
  rw [getS_skip D 9 (by omega) (by omega) hb h256, List.drop_eq_getElem_cons hk, getS, if_pos ⟨rfl, h1⟩]

theorem getS_short (D : List Nat) (h9 : D.length ≤ 9) (hb : ∀ i (h : i < D.length), 127 < D[i]) (h256 : ∀ c ∈ D, c < 256) : getS D 0 0 = (0, 0, 10) := by
  rw [getS_skip D D.length h9 (by omega) hb h256, List.drop_of_length_le (by omega)]; rfl

theorem getS_zero (D : List Nat) (k : Nat) (h9 : k ≤ 9) (hk : k < D.length) (h0 : 0 < k) (hb : ∀ i (h : i < k), 127 < D[i]'(by omega)) (h256 : ∀ c ∈ D, c < 256) (h1 : D[k] = 0) : getS D 0 0 = (0, 0, 3) := by
  rw [getS_skip D k h9 (by omega) hb h256, List.drop_eq_getElem_cons hk, getS, if_neg (by omega), if_pos ⟨h0, h1⟩]

theorem getS_good (D : List Nat) (k : Nat) (h9 : k ≤ 9) (hk : k < D.length) (hb : ∀ i (h : i < k), 127 < D[i]'(by omega)) (h256 : ∀ c ∈ D, c < 256) (h1 : D[k] ≤ 127) (h2 : 0 < k → D[k] ≠ 0) (h3 : k = 9 → D[k] ≤ 1) :
    getS D 0 0 = (horner (D.take (k + 1)), k + 1, 0) := by
  rw [getS_skip D k h9 (by omega) hb h256, List.drop_eq_getElem_cons hk, getS, if_neg (fun h => by have := h3 h.1; omega), if_neg (fun h => h2 h.1 h.2), if_pos (by omega), take_succ_n D k hk, horner_snoc,
    List.length_take_of_le (by omega), show D[k] % 128 = D[k] by omega]

theorem horner_fits (D : List Nat) (k : Nat) (h9 : k ≤ 9) (hk : k < D.length) (h3 : k = 9 → D[k] ≤ 1) : horner (D.take (k + 1)) < 18446744073709551616 := by
  rw [take_succ_n D k hk, horner_snoc, List.length_take_of_le (by omega)]
  have h := horner_lt (D.take k)
  rw [List.length_take_of_le (by omega)] at h
  have := fits7 D[k] k _ h (by
    by_cases e : k = 9
    · exact .inr ⟨e, h3 e⟩
    · exact .inl (by omega))
  omega

/-! Zigzags. -/
def zigN (n : Int) : Nat := if n < 0 then (-2 * n - 1).toNat else (2 * n).toNat
def zagZ (v : Nat) : Int := if v % 2 = 0 then ((v / 2 : Nat) : Int) else -((v / 2 : Nat) : Int) - 1

theorem zag_zig (n : Int) : zagZ (zigN n) = n := by
  unfold zagZ zigN
  by_cases h : n < 0
  · rw [if_pos h, if_neg (by omega)]; omega
  · rw [if_neg h, if_pos (by omega)]; omega

theorem zig_zag (v : Nat) : zigN (zagZ v) = v := by
  unfold zagZ zigN
  by_cases h : v % 2 = 0
  · rw [if_pos h, if_neg (by omega)]; omega
  · rw [if_neg h, if_pos (by omega)]; omega

theorem zigN_lt (n : Int) (h1 : -9223372036854775808 ≤ n) (h2 : n ≤ 9223372036854775807) : zigN n < 18446744073709551616 := by
  unfold zigN; split <;> omega

theorem zagZ_bd (v : Nat) (h : v < 18446744073709551616) : -9223372036854775808 ≤ zagZ v ∧ zagZ v ≤ 9223372036854775807 := by
  unfold zagZ; split <;> omega

/-- '^n' of an int64. -/
theorem xor_neg1 (n : Int) (h1 : -9223372036854775808 ≤ n) (h2 : n ≤ 9223372036854775807) : bits .xor .i64 (-1) n = -n - 1 := by
  have hb : (BitVec.ofInt 64 n).toNat = (n % 18446744073709551616).toNat := by rw [BitVec.toNat_ofInt]; rfl
  show IntKind.i64.wrap ((BitVec.ofInt 64 (-1) ^^^ BitVec.ofInt 64 n).toNat : Int) = -n - 1
  rw [show BitVec.ofInt 64 (-1) = BitVec.allOnes 64 from by decide, BitVec.allOnes_xor, BitVec.toNat_not, hb, IntKind.wrap_i64]
  omega

theorem or_one (v : Nat) (h : 2 * v + 1 < 18446744073709551616) : bits .or .u64 (((2 * v : Nat)) : Int) 1 = ((2 * v + 1 : Nat) : Int) := by
  have := u64_or_nat (2 * v) 1 (by omega) (by omega)
  rw [nat_join 1 (2 * v) 1 (by omega) (by omega)] at this
  exact this

end Go.Proofs.YtbnddpicpomakaaDoor

/- The walks of layer 1's functions: what each call of varint and of hindsightref01 returns. -/
set_option linter.unusedSimpArgs false
set_option linter.unusedVariables false
set_option maxRecDepth 100000
namespace Go.Proofs.YtbnddpicpomakaaDoor
open Go.RowKit

theorem Tryd.info5 : (Tryd.prog.info? 5).map (fun i => (i.zero, i.size, i.bytes)) = some (some (.int .u8 0), 1, 1) := by kernel_rfl

end Go.Proofs.YtbnddpicpomakaaDoor

/- A region that draws its order, walked in ONE order that is given: operations that yield the same in every later world go first (flag true); each of the others (flag false) is the only one that may come up when its turn comes. -/
set_option linter.unusedSimpArgs false
set_option linter.unusedVariables false
set_option maxRecDepth 100000
namespace Go.Proofs.YtbnddpicpomakaaDoor
open Go.RowKit

section
variable {P : Program} {ops : Array Oper} {Q : Exit → Act → World → Prop} {md : Region.Mode}

/-- A later world: what stood in this one stands there as it was. -/
def Later (w w' : World) : Prop := Below w.heap.size w w'
theorem Later.refl (w : World) : Later w w := Below.refl _ _
theorem Later.trans {a b c : World} (h : Later a b) (k : Later b c) : Later a c := Below.trans h (Below.mono k h.size)

def wpO (P : Program) (ops : Array Oper) (Q : Exit → Act → World → Prop) (L : World → World → Prop) : List (Nat × Bool) → Act → World → Prop
  | [], a, w => Q .normal a w
  | (i, true) :: r, a, w => ∃ o v, ops[i]? = some o ∧ YieldsIf P ops (L w) o v a ∧ wpO P ops Q L r (a.put o.dst v) w
  | (i, false) :: r, a, w => wpOp P ops Q i (fun a' w' => L w w' ∧ wpO P ops Q L r a' w') a w

def checkO (md : Region.Mode) (ops : Array Oper) : List (Nat × Bool) → Array Bool → Bool
  | [], listed => Region.ready md ops listed == []
  | (i, true) :: r, listed => Region.free md ops listed i && (Region.ready md ops listed).contains i && checkO md ops r (listed.setIfInBounds i true)
  | (i, false) :: r, listed => Region.ready md ops listed == [i] && checkO md ops r (listed.setIfInBounds i true)

theorem wpAnyH_stronger {S S' : World → Prop} (hS : ∀ w, S' w → S w) : ∀ (fuel : Nat) (listed : Array Bool) (a : Act) (w : World), wpAnyH P md ops Q S' fuel listed a w → wpAnyH P md ops Q S fuel listed a w
  | 0, _, _, _, h => h
  | fuel + 1, _, _, _, h => ⟨h.1, fun i hi => wpOp_mono (fun _ _ h' => ⟨hS _ h'.1, wpAnyH_stronger hS fuel _ _ _ h'.2⟩) (h.2 i hi)⟩

theorem wpO_sound {L : World → World → Prop} (Lr : ∀ w, L w w) (Lt : ∀ {a b c}, L a b → L b c → L a c) (hs : Region.noSelect ops = true) (hQ : ∀ c (a : Act) d v w, Q (.panic c) (a.put d v) w → Q (.panic c) a w) :
    ∀ (ord : List (Nat × Bool)) (fuel : Nat) (listed : Array Bool) (a : Act) (w : World), ord.length ≤ fuel → checkO md ops ord listed = true → wpO P ops Q L ord a w → wpAnyH P md ops Q (L w) fuel listed a w
  | [], fuel, listed, a, w, _, hc, h => wpAnyH_done (by simpa [checkO] using hc) h fuel
  | (i, true) :: r, fuel, listed, a, w, hf, hc, h => by
    obtain ⟨o, v, ho, hy, h⟩ := h
    simp only [checkO, Bool.and_eq_true] at hc
    cases fuel with
    | zero => simp at hf
    | succ fuel =>
      exact wpAnyH_take ho hs hc.1.1 hc.1.2 (fun c a w => hQ c a o.dst v w) hy (Lr w) (wpO_sound Lr Lt hs hQ r fuel _ _ w (by simpa using hf) hc.2 h)
  | (i, false) :: r, fuel, listed, a, w, hf, hc, h => by
    simp only [checkO, Bool.and_eq_true, beq_iff_eq] at hc
    cases fuel with
    | zero => simp at hf
    | succ fuel =>
      refine wpAnyH_all (rs := [i]) hc.1 (by simp) ?_
      intro j hj
      rw [List.mem_singleton.1 hj]
      exact wpOp_mono (fun a' w' h' => ⟨h'.1, wpAnyH_stronger (fun x hx => Lt h'.1 hx) fuel _ _ _ (wpO_sound Lr Lt hs hQ r fuel _ a' w' (by simpa using hf) hc.2 h'.2)⟩) h

theorem NoPanic.put (Q : Exit → Act → World → Prop) : ∀ c (a : Act) d v w, NoPanic Q (.panic c) (a.put d v) w → NoPanic Q (.panic c) a w := fun _ _ _ _ _ h => h

/-- Number i of a list that is written out. -/
def nth : List Oper → Nat → Option Oper
  | [], _ => none
  | x :: _, 0 => some x
  | _ :: r, n + 1 => nth r n

theorem nth_get : ∀ (l : List Oper) (i : Nat) (o : Oper), nth l i = some o → l[i]? = some o
  | [], _, _, h => by simp [nth] at h
  | x :: r, 0, o, h => by simpa [nth] using h
  | x :: r, n + 1, o, h => by simpa using nth_get r n o h

theorem nth_ops {i : Nat} {o : Oper} (h : nth ops.toList i = some o) : ops[i]? = some o := by
  have := nth_get _ _ _ h
  simpa using this

/-- A later world, but for one block, which the region itself may write. -/
structure LaterB (B : Nat) (w w' : World) : Prop where
  os : w'.os = w.os
  tape : w'.tape = w.tape
  output : w'.output = w.output
  size : w.heap.size ≤ w'.heap.size
  block : ∀ k, k < w.heap.size → k ≠ B → w'.heap[k]? = w.heap[k]?
theorem LaterB.refl (B : Nat) (w : World) : LaterB B w w := ⟨rfl, rfl, rfl, Nat.le_refl _, fun _ _ _ => rfl⟩
theorem LaterB.trans {B : Nat} {a b c : World} (h : LaterB B a b) (k : LaterB B b c) : LaterB B a c :=
  ⟨k.os.trans h.os, k.tape.trans h.tape, k.output.trans h.output, Nat.le_trans h.size k.size, fun i hi hn => (k.block i (Nat.lt_of_lt_of_le hi h.size) hn).trans (h.block i hi hn)⟩
theorem Later.toB {w w' : World} (h : Later w w') (B : Nat) : LaterB B w w' := ⟨h.os, h.tape, h.output, h.size, fun k hk _ => h.block k hk⟩
theorem LaterB.setCell {w : World} {b : Nat} {o : Nat} (v : Value) : LaterB b w (w.setCell ⟨b, o, none⟩ v) :=
  ⟨rfl, rfl, rfl, by simp [World.setCell], fun k _ hn => Below.heap_setCell _ _ _ _ hn⟩
theorem LaterB.cell {B : Nat} {w w' : World} (h : LaterB B w w') {b o : Nat} (hb : b < w.heap.size) (hn : b ≠ B) : w'.cell? ⟨b, o, none⟩ = w.cell? ⟨b, o, none⟩ :=
  World.cell?_of_block (w := w) (a := ⟨b, o, none⟩) (h.block b hb hn)
theorem LaterB.undrew {B : Nat} {w W : World} (h : LaterB B w.drew W) : LaterB B w W := ⟨h.os, h.tape, h.output, h.size, h.block⟩

/-- The beginning. -/
theorem wp_region_ord {id : Nat} {a : Act} {w : World} (ord : List (Nat × Bool)) (hm : P.follows .mixedOrders = true) (hs : Region.noSelect ops = true)
    (hl : decide (ord.length ≤ ops.size) = true) (hc : checkO .any ops ord (Array.replicate ops.size false) = true) (h : wpO P ops (NoPanic Q) Later ord a w.drew) : (Code.region id ops true).wp P Q a w :=
  wp_region_noPanic (wp_region_held hm (wpO_sound Later.refl Later.trans hs (NoPanic.put Q) ord ops.size _ a w.drew (of_decide_eq_true hl) hc h))

/-- The beginning, where the region writes one block. -/
theorem wp_region_ordB {id : Nat} {a : Act} {w : World} (B : Nat) (ord : List (Nat × Bool)) (hm : P.follows .mixedOrders = true) (hs : Region.noSelect ops = true)
    (hl : decide (ord.length ≤ ops.size) = true) (hc : checkO .any ops ord (Array.replicate ops.size false) = true) (h : wpO P ops (NoPanic Q) (LaterB B) ord a w.drew) : (Code.region id ops true).wp P Q a w :=
  wp_region_noPanic (wp_region_held hm (wpO_sound (LaterB.refl B) LaterB.trans hs (NoPanic.put Q) ord ops.size _ a w.drew (of_decide_eq_true hl) hc h))

variable {L : World → World → Prop}
theorem wpO_nil {a : Act} {w : World} (h : Q .normal a w) : wpO P ops (NoPanic Q) L [] a w := h

theorem wpO_F {i : Nat} {r : List (Nat × Bool)} {a : Act} {w : World} {o : Oper} {v : Value} (ho : nth ops.toList i = some o) (hw : Region.wanted o (yielded ops a.tmps) = true)
    (hv : ∀ w', L w w' → (execOp a.eval o).run P w' = .ok (.value v) w') (h : wpO P ops Q L r (a.put o.dst v) w) : wpO P ops Q L ((i, true) :: r) a w :=
  ⟨o, v, nth_ops ho, .inl ⟨hw, hv⟩, h⟩

theorem wpO_G' (Lr : ∀ w, L w w) {i : Nat} {b : Bool} {r : List (Nat × Bool)} {a : Act} {w : World} {o : Oper} (ho : nth ops.toList i = some o) (hw : Region.wanted o (yielded ops a.tmps) = false)
    (h : wpO P ops Q L r (a.put o.dst undef) w) : wpO P ops Q L ((i, b) :: r) a w := by
  cases b with
  | true => exact ⟨o, undef, nth_ops ho, .inr ⟨hw, rfl⟩, h⟩
  | false =>
    show wpOp P ops Q i _ a w
    unfold wpOp
    simp only [nth_ops ho, hw]
    exact ⟨Lr w, h⟩

theorem wpO_G {i : Nat} {b : Bool} {r : List (Nat × Bool)} {a : Act} {w : World} {o : Oper} (ho : nth ops.toList i = some o) (hw : Region.wanted o (yielded ops a.tmps) = false)
    (h : wpO P ops Q Later r (a.put o.dst undef) w) : wpO P ops Q Later ((i, b) :: r) a w := wpO_G' Later.refl ho hw h

theorem wpO_C {i : Nat} {r : List (Nat × Bool)} {a : Act} {w : World} {o : Oper} (ho : nth ops.toList i = some o) (hw : Region.wanted o (yielded ops a.tmps) = true)
    (h : o.wp P a w (fun a' w' => L w w' ∧ wpO P ops Q L r a' w') Q) : wpO P ops Q L ((i, false) :: r) a w := by
  show wpOp P ops Q i _ a w
  unfold wpOp
  simp only [nth_ops ho, hw]
  exact .inl h

end
attribute [irreducible] wpO
end Go.Proofs.YtbnddpicpomakaaDoor

/- The walks of runes.isName, Fold, Name and of the reference's. -/
set_option linter.unusedSimpArgs false
set_option linter.unusedVariables false
set_option maxRecDepth 100000
namespace Go.Proofs.YtbnddpicpomakaaDoor
set_option linter.unusedSimpArgs false
open Go.RowKit

def byteN (s : ByteArray) (i : Nat) : Nat := (bytesU s).getD i 0

theorem byteN_at (s : ByteArray) (i : Nat) (h : i < s.size) : byteN s i = (s[i]'h).toNat := by
  unfold byteN
  rw [List.getD_eq_getElem?_getD, List.getElem?_eq_getElem (by rw [bytesU_len]; exact h)]
  simp [bytesU]; rfl

/-- May the byte stand at this place of a name? -/
def okN (i c : Nat) : Bool := classZ (c : Int) == 2 || (classZ (c : Int) == 3 && i != 0)
def nameB (s : ByteArray) : Bool := decide (0 < s.size) && (List.range s.size).all fun i => okN i (byteN s i)

theorem nameB_true {s : ByteArray} : nameB s = true ↔ 0 < s.size ∧ ∀ i, i < s.size → okN i (byteN s i) = true := by
  unfold nameB
  rw [Bool.and_eq_true, decide_eq_true_iff, List.all_eq_true]
  simp

theorem nameB_false {s : ByteArray} {i : Nat} (h : i < s.size) (hb : okN i (byteN s i) = false) : nameB s = false := by
  rw [Bool.eq_false_iff]
  intro hn
  have := (nameB_true.1 hn).2 i h
  rw [hb] at this; cases this

theorem class_high {c : Int} (h : 127 ≤ c) : classZ c = 0 := class_of c 0 (by omega)

set_option maxHeartbeats 2000000 in
theorem isName_any (s : ByteArray) (w : World) (hs : s.size ≤ 1000000) :
    Calls Tryd.prog 96 #[.string s] w fun e w' => e = .returned (.bool (nameB s)) ∧ Below w.heap.size w w' := by
  go_enter Tryd.func96, Tryd.ntmps96
  go_wp2
  go_loopw [] (fun wr => ∃ pos : Nat, wr = w.iter s pos ∧ pos ≤ s.size ∧ Hid (∀ i, i < pos → okN i (byteN s i) = true)) (fun wr => s.size - wr.iterPos w.heap.size)
  case atStart => exact ⟨0, rfl, by omega, by simp [Hid]⟩
  case round =>
    obtain ⟨pos, rfl, hpos, HI⟩ := hrel
    have HBE : Hid (∀ q, Below w.heap.size w (w.iter s q)) := fun q => (Below.refl _ w).alloc (Nat.le_refl _) _
    by_cases hp : pos < s.size
    · have hnx : ∀ ty, (Instr.next (.pointer (some ⟨w.heap.size, 0, none⟩)) true ty).run Tryd.prog (w.iter s pos) = _ := fun ty => run_next_any w s pos ty hp
      have hB := byteN_at s pos hp
      have hb256 := (s[pos]'hp).toNat_lt
      by_cases hasc : (s[pos]'hp).toNat < 128
      · have hdec := decode_ascii s pos hp hasc
        simp only [hdec] at hnx
        obtain ⟨c, hc⟩ : ∃ c, (s[pos]'hp).toNat = c := ⟨_, rfl⟩
        rw [hc] at hnx hB hasc
        have HB := Lib.hid hB
        have HCl := Lib.hid (fun W => Class_any (c : Int) W)
        obtain ⟨k, hk⟩ : ∃ k, classZ (c : Int) = k := ⟨_, rfl⟩
        rw [hk] at HCl
        have hok : okN pos c = (k == 2 || (k == 3 && pos != 0)) := by unfold okN; rw [hk]
        have HOk := Lib.hid hok
        clear hdec hB hb256 hc hk hok
        go_wp2_with fail
        refine (HCl.out _).mono ?_
        rintro e w1 ⟨rfl, rfl⟩
        clear HCl
        by_cases hgo : k = 2 ∨ (k = 3 ∧ pos ≠ 0)
        · have HI2 : Hid (∀ i, i < pos + 1 → okN i (byteN s i) = true) := by
            intro i hi
            by_cases h : i = pos
            · subst h
              rw [HB.out, HOk.out]
              rcases hgo with h | ⟨h, h'⟩ <;> simp [h]
              exact h'
            · exact HI.out i (by omega)
          clear HI HOk HB
          by_cases h2 : k = 2
          · subst h2
            clear hgo
            go_wp2
            go_roundw
            case rel => exact ⟨pos + 1, rfl, by omega, HI2⟩
            case measure => simp; omega
          · obtain ⟨rfl, h0⟩ : k = 3 ∧ pos ≠ 0 := by
              rcases hgo with h | h
              · exact absurd h h2
              · exact h
            have q0 : ((pos : Int) == 0) = false := by simp; omega
            clear hgo h2
            go_wp2
            go_roundw
            case rel => exact ⟨pos + 1, rfl, by omega, HI2⟩
            case measure => simp; omega
        · have HN : Hid (nameB s = false) := nameB_false hp (by
            rw [HB.out, HOk.out]
            rw [Bool.eq_false_iff]
            intro h
            simp only [Bool.or_eq_true, Bool.and_eq_true, beq_iff_eq, bne_iff_ne, ne_eq] at h
            exact hgo h)
          have hways : (k ≠ 2 ∧ k ≠ 3) ∨ (k = 3 ∧ pos = 0) := by omega
          clear HI HOk HB hgo
          rcases hways with ⟨h2, h3⟩ | ⟨rfl, rfl⟩
          · have q2 : (k != 2) = true := by simp [h2]
            have q3 : (k != 3) = true := by simp [h3]
            go_wp2
            go_ret
            exact ⟨by rw [HN.out]; rfl, HBE.out _⟩
          · go_wp2
            go_ret
            exact ⟨by rw [HN.out]; rfl, HBE.out _⟩
      · have hhi := decode_high s pos hp (by omega)
        have HN : Hid (nameB s = false) := nameB_false hp (by
          rw [hB]
          unfold okN
          rw [class_high (by omega)]; rfl)
        obtain ⟨r, hr⟩ : ∃ r, (Utf8.decode s pos).1 = r := ⟨_, rfl⟩
        obtain ⟨z, hz⟩ : ∃ z, (Utf8.decode s pos).2 = z := ⟨_, rfl⟩
        rw [hr, hz] at hnx
        rw [hr] at hhi
        have HCl := Lib.hid (fun W => Class_any (r : Int) W)
        rw [class_high (by omega)] at HCl
        clear hB hb256 hr hz HI hasc hhi
        go_wp2_with fail
        refine (HCl.out _).mono ?_
        rintro e w1 ⟨rfl, rfl⟩
        clear HCl
        go_wp2
        go_ret
        exact ⟨by rw [HN.out]; rfl, HBE.out _⟩
    · have hnx : ∀ ty, (Instr.next (.pointer (some ⟨w.heap.size, 0, none⟩)) true ty).run Tryd.prog (w.iter s pos) = _ := fun ty => run_next_end w s pos ty hp
      by_cases h0 : s.size = 0
      · have HN : Hid (nameB s = false) := by unfold nameB; simp [h0, Hid]
        have he : s.toList = [] := by rw [ByteArray.toList_eq, Array.size_eq_zero_iff.1 (show s.data.size = 0 from h0)]
        clear HI h0
        go_wp2
        go_ret
        exact ⟨by rw [HN.out]; rfl, HBE.out _⟩
      · have HN : Hid (nameB s = true) := nameB_true.2 ⟨by omega, fun i hi => HI.out i (by omega)⟩
        have he : (s.toList == []) = false := by
          rw [ByteArray.toList_eq]
          rw [Bool.eq_false_iff]
          intro h
          rw [beq_iff_eq] at h
          apply h0
          have := congrArg List.length h
          simpa using this
        have he2 : ¬ s.toList = [] := by simpa using he
        have he3 : (!s.toList.isEmpty) = true := by simpa using he2
        clear HI h0
        go_wp2
        go_ret
        exact ⟨by rw [HN.out]; rfl, HBE.out _⟩
end Go.Proofs.YtbnddpicpomakaaDoor

/- The walks of runes.Fold, runes.Name and of the reference's. -/
set_option linter.unusedSimpArgs false
set_option linter.unusedVariables false
set_option maxRecDepth 100000
namespace Go.Proofs.YtbnddpicpomakaaDoor
set_option linter.unusedSimpArgs false
open Go.RowKit

def foldC (c : Nat) : Nat := if 65 ≤ c ∧ c ≤ 90 then c + 32 else c
def foldS (s : ByteArray) : ByteArray := strN ((bytesU s).map foldC)

theorem foldC_lt {c : Nat} (h : c < 256) : foldC c < 256 := by unfold foldC; split <;> omega

theorem conv_bytesU (s : ByteArray) (w : World) : ∃ W1 cap, (convert 9 80 (.string s)).run Tryd.prog w = .ok (.slice (some ⟨w.heap.size, 0, none⟩) s.size cap) W1 ∧ Below w.heap.size w W1 ∧ W1.heap.size = w.heap.size + 1 ∧
    ∀ (j : Nat), j < s.size → W1.cell? ⟨w.heap.size, j, none⟩ = some (.int .u8 (byteN s j : Int)) ∧ W1.frozen? ⟨w.heap.size, j, none⟩ = false := by
  refine ⟨_, _, Lib.run_convert_string_bytes w 9 80 5 s Tryd.underlying9 Tryd.underlying80 Tryd.underlying5, ⟨rfl, rfl, rfl, ?_, fun k hk => Lib.bytesWorld_at_old w _ s k hk⟩, Lib.bytesWorld_size w _ s, ?_⟩
  · rw [Lib.bytesWorld_size]; omega
  · intro j hj
    refine ⟨?_, ?_⟩
    · rw [Lib.bytesWorld_cell w _ s j hj]
      have : byteN s j = (s.data.toList.getD j 0).toNat := by
        unfold byteN bytesU
        rw [getD_map]
      rw [this]
    · unfold World.frozen?
      simp only [Lib.bytesWorld_at_new]
      have : j < (Lib.bytesCells w 5 s).size := by
        simp only [Lib.bytesCells, Array.size_append]
        simp
        have : s.data.size = s.size := rfl
        omega
      simp
      omega

/-- The row in block G while the first k bytes are folded. -/
def FoldAt (w : World) (G n k : Nat) (s : ByteArray) : Prop := ∀ j, j < n → w.cell? ⟨G, j, none⟩ = some (.int .u8 ((if j < k then foldC (byteN s j) else byteN s j : Nat) : Int)) ∧ w.frozen? ⟨G, j, none⟩ = false

theorem FoldAt.keep {w : World} {G n k : Nat} {s : ByteArray} (h : FoldAt w G n k s) (hf : foldC (byteN s k) = byteN s k) : FoldAt w G n (k + 1) s := by
  intro j hj
  refine ⟨?_, (h j hj).2⟩
  rw [(h j hj).1]
  by_cases h1 : j < k
  · rw [if_pos h1, if_pos (by omega)]
  · by_cases h2 : j = k
    · subst h2; rw [if_neg (by omega), if_pos (by omega), hf]
    · rw [if_neg h1, if_neg (by omega)]

theorem FoldAt.set {w : World} {G n k : Nat} {s : ByteArray} (h : FoldAt w G n k s) (hk : k < n) (v : Int) (hv : v = (foldC (byteN s k) : Int)) : FoldAt (w.setCell ⟨G, k, none⟩ (.int .u8 v)) G n (k + 1) s := by
  subst hv
  intro j hj
  refine ⟨?_, by rw [World.frozen?_setCell]; exact (h j hj).2⟩
  by_cases h2 : j = k
  · subst h2
    rw [World.cell?_setCell_same _ _ _ (h j hj).1, if_pos (by omega)]
  · rw [World.cell?_setCell_other _ _ _ _ (by simp [Ne.symm h2]), (h j hj).1]
    by_cases h1 : j < k
    · rw [if_pos h1, if_pos (by omega)]
    · rw [if_neg h1, if_neg (by omega)]

theorem FoldAt.bs {w : World} {G n : Nat} {s : ByteArray} (h : FoldAt w G n n s) (hn : n = s.size) (hG : G < w.heap.size) : Bs w.heap.size w (some ⟨G, 0, none⟩) ((bytesU s).map foldC) := by
  refine ⟨?_, .inr ⟨G, 0, rfl, hG, fun i c hi => ?_⟩⟩
  · intro c hc
    obtain ⟨d, hd, rfl⟩ := List.mem_map.1 hc
    exact foldC_lt (bytesU_lt s d hd)
  · rw [List.getElem?_map] at hi
    have hil : i < (bytesU s).length := by
      by_cases hil : i < (bytesU s).length
      · exact hil
      · rw [List.getElem?_eq_none (by omega)] at hi; simp at hi
    rw [List.getElem?_eq_getElem hil] at hi
    simp only [Option.map_some, Option.some.injEq] at hi
    rw [bytesU_len] at hil
    rw [Nat.zero_add, (h i (by omega)).1, if_pos (by omega), ← hi]
    have : byteN s i = (bytesU s)[i]'(by rw [bytesU_len]; exact hil) := by
      unfold byteN
      rw [List.getD_eq_getElem?_getD, List.getElem?_eq_getElem (by rw [bytesU_len]; exact hil)]; rfl
    rw [this]

set_option maxHeartbeats 2000000 in
theorem Fold_any (s : ByteArray) (w : World) (hs : s.size ≤ 1000000) :
    Calls Tryd.prog 97 #[.string s] w fun e w' => e = .returned (.string (foldS s)) ∧ Below w.heap.size w w' := by
  obtain ⟨W1, cap, hcv, hb1, hsz1, hcell⟩ := conv_bytesU s w
  have hF : FoldAt W1 w.heap.size s.size 0 s := fun j hj => by
    obtain ⟨h1, h2⟩ := hcell j hj
    exact ⟨by rw [h1, if_neg (by omega)], h2⟩
  have HF0 := Lib.hid hF
  have hz1 : w.heap.size < W1.heap.size := by omega
  obtain ⟨n, hn⟩ : ∃ n, n = s.size := ⟨_, rfl⟩
  have HN := Lib.hid hn
  rw [← hn] at hcv HF0
  have hn1 : n ≤ 1000000 := by omega
  clear hcell hF hsz1 hn
  go_enter Tryd.func97, Tryd.ntmps97
  go_wp2
  clear hcv
  go_loopw [10] (fun i wr => ∃ k : Nat, k ≤ n ∧ i = .int .i64 k ∧ Hid (FoldAt wr w.heap.size n k s) ∧ LaterB w.heap.size W1 wr) (fun i _ => n - (intOf i).toNat)
  case atStart => exact ⟨0, by omega, rfl, HF0.out, LaterB.refl _ _⟩
  case round =>
    obtain ⟨k, hk, rfl, HF, hlb⟩ := hrel
    have hbw : Below w.heap.size w wr := hb1.trans ⟨hlb.os, hlb.tape, hlb.output, hlb.size, fun j hj => hlb.block j (by omega) (by omega)⟩
    by_cases hlt : k < n
    · obtain ⟨hc, hfz⟩ := HF.out k hlt
      rw [if_neg (by omega)] at hc
      have hb256 : byteN s k < 256 := by unfold byteN; exact getD_lt _ (bytesU_lt s) k
      have HK := Lib.hid (fun h => HF.out.keep h)
      have HS := Lib.hid (fun v h => HF.out.set hlt v h)
      obtain ⟨c, hcc⟩ : ∃ c, byteN s k = c := ⟨_, rfl⟩
      rw [hcc] at hc hb256 HK HS
      clear hcc HF
      by_cases hcap : 65 ≤ c ∧ c ≤ 90
      · obtain ⟨h1, h2⟩ := hcap
        have q1 : decide ((65 : Int) ≤ (c : Int)) = true := by simp; omega
        have q2 : decide ((c : Int) ≤ 90) = true := by simp; omega
        have hfc : foldC c = c + 32 := by unfold foldC; rw [if_pos ⟨h1, h2⟩]
        have HFC := Lib.hid hfc
        clear hfc
        go_wp2
        go_roundw
        case rel => exact ⟨k + 1, by omega, by go_num, HS.out _ (by rw [HFC.out]; omega), hlb.trans (LaterB.setCell _)⟩
        case measure => simp [intOf]; omega
      · have hfc : foldC c = c := by unfold foldC; rw [if_neg hcap]
        have HK2 := Lib.hid (HK.out hfc)
        clear hfc HK HS
        by_cases h1 : 65 ≤ c
        · have q1 : decide ((65 : Int) ≤ (c : Int)) = true := by simp; omega
          have q2 : decide ((c : Int) ≤ 90) = false := by simp; omega
          go_wp2
          go_roundw
          case rel => exact ⟨k + 1, by omega, by go_num, HK2.out, hlb⟩
          case measure => simp [intOf]; omega
        · have q1 : decide ((65 : Int) ≤ (c : Int)) = false := by simp; omega
          go_wp2
          go_roundw
          case rel => exact ⟨k + 1, by omega, by go_num, HK2.out, hlb⟩
          case measure => simp [intOf]; omega
    · obtain rfl : k = n := by omega
      have hB := HF.out.bs HN.out (by have := hlb.size; omega)
      have hcv := hB.conv (P := Tryd.prog) 80 5 Tryd.underlying80 Tryd.underlying5 9 Tryd.underlying9 k cap (by rw [List.length_map, bytesU_len]; exact HN.out)
      have HFS : Hid (strN ((bytesU s).map foldC) = foldS s) := rfl
      rw [HFS.out] at hcv
      clear hB HF HF0
      go_wp2
      go_ret
      exact ⟨rfl, hbw⟩

theorem map_takeF (l : List Nat) (k : Nat) (hk : k < l.length) : (l.take (k + 1)).map foldC = (l.take k).map foldC ++ [foldC l[k]] := by
  rw [List.take_add_one, List.getElem?_eq_getElem hk, List.map_append]; rfl

set_option maxRecDepth 1000000 in
set_option maxHeartbeats 4000000 in
theorem rFold_any (s : ByteArray) (w : World) (hs : s.size ≤ 1000000) :
    Calls Tryd.prog 107 #[.string s] w fun e w' => e = .returned (.string (foldS s)) ∧ Below w.heap.size w w' := by
  obtain ⟨i0, hi, hz0, hz1, hz2⟩ := info_parts Tryd.info5
  go_enter Tryd.func107, Tryd.ntmps107
  go_wp2
  go_loopw [3, 4] (fun v i wr => ∃ k : Nat, k ≤ s.size ∧ i = .int .i64 k ∧ OwnB wr w.heap.size 5 v (((bytesU s).take k).map foldC) ∧ Below w.heap.size w wr) (fun _ i _ => s.size - (intOf i).toNat)
  case atStart => exact ⟨0, by omega, rfl, OwnB.nil _ _ _, Below.refl _ _⟩
  case round =>
    obtain ⟨k, hk, rfl, hown, hb⟩ := hrel
    have hsz := hb.size
    by_cases hlt : k < s.size
    · have hkl : k < (bytesU s).length := by rw [bytesU_len]; exact hlt
      have hx : (bytesU s)[k] = (s[k]'hlt).toNat := by simp [bytesU]; rfl
      have hm := map_takeF (bytesU s) k hkl
      rw [hx] at hm
      have HM := Lib.hid hm
      have hc256 := (s[k]'hlt).toNat_lt
      have hll : (((bytesU s).take k).map foldC).length < 100000000000000 := by
        have := List.length_take_le k (bytesU s)
        rw [List.length_map]; omega
      clear hx hm
      by_cases hcap : 65 ≤ (s[k]'hlt).toNat ∧ (s[k]'hlt).toNat ≤ 90
      · obtain ⟨h1, h2⟩ := hcap
        have hfc : foldC (s[k]'hlt).toNat = (s[k]'hlt).toNat + 32 := by unfold foldC; rw [if_pos ⟨h1, h2⟩]
        have HFC := Lib.hid hfc
        clear hfc
        go_wp2_with (at_builtin; refine wpList_app1 rfl _ _ 80 rfl w.heap.size 5 i0 Tryd.underlying80 hi hz0 hz1 hz2 _ _ wr hown rfl ((s[k]'hlt).toNat + 32) (by omega) _ (by push_cast; first | rfl | omega) rfl hll hsz ?_; intro v' w1 hown' hb' hsz')
        go_roundw
        case rel => exact ⟨k + 1, by omega, by go_num, by rw [HM.out, HFC.out]; exact hown', hb.trans hb'⟩
        case measure => simp [intOf]; omega
      · have hfc : foldC (s[k]'hlt).toNat = (s[k]'hlt).toNat := by unfold foldC; rw [if_neg hcap]
        have HFC := Lib.hid hfc
        have hways : (s[k]'hlt).toNat < 65 ∨ (65 ≤ (s[k]'hlt).toNat ∧ 90 < (s[k]'hlt).toNat) := by omega
        clear hfc hcap
        rcases hways with h1 | ⟨h1, h2⟩
        all_goals
          go_wp2_with (at_builtin; refine wpList_app1 rfl _ _ 80 rfl w.heap.size 5 i0 Tryd.underlying80 hi hz0 hz1 hz2 _ _ wr hown rfl (s[k]'hlt).toNat (by omega) _ rfl rfl hll hsz ?_; intro v' w1 hown' hb' hsz')
          go_roundw
          case rel => exact ⟨k + 1, by omega, by go_num, by rw [HM.out, HFC.out]; exact hown', hb.trans hb'⟩
          case measure => simp [intOf]; omega
    · have hall : (bytesU s).take k = bytesU s := List.take_of_length_le (by rw [bytesU_len]; omega)
      rw [hall] at hown
      obtain ⟨a, cap, rfl, hcap, hB, _⟩ := hown.slice
      have hcv := hB.conv (P := Tryd.prog) 80 5 Tryd.underlying80 Tryd.underlying5 9 Tryd.underlying9 _ cap rfl
      have HFS : Hid (strN ((bytesU s).map foldC) = foldS s) := rfl
      rw [HFS.out] at hcv
      obtain ⟨n, hn⟩ : ∃ n, ((bytesU s).map foldC).length = n := ⟨_, rfl⟩
      rw [hn] at hcv ⊢
      clear hB hown hall hn
      go_wp2
      go_ret
      exact ⟨rfl, hb⟩

/-- What Name answers. -/
def nameV (s : ByteArray) : ByteArray × Int := if 20 < s.size then (⟨#[]⟩, 2) else if nameB s = false then (⟨#[]⟩, 3) else (foldS s, 0)

set_option maxHeartbeats 1000000 in
theorem Name_any (s : ByteArray) (w : World) (hs : s.size ≤ 140737488351232) :
    Calls Tryd.prog 80 #[.string s] w fun e w' => e = .returned (.tuple #[.string (nameV s).1, .int .i64 (nameV s).2]) ∧ Below w.heap.size w w' := by
  by_cases hl : 20 < s.size
  · have HN : Hid (nameV s = (⟨#[]⟩, 2)) := by unfold nameV; rw [if_pos hl]; rfl
    go_enter Tryd.func80, Tryd.ntmps80
    go_wp2
    go_ret2
    exact ⟨by rw [HN.out]; rfl, Below.refl _ _⟩
  · have ql : decide ((20 : Int) < (s.size : Int)) = false := by simp; omega
    have HI := Lib.hid (fun W => isName_any s W (by omega))
    have HF := Lib.hid (fun W => Fold_any s W (by omega))
    have hN : nameV s = if nameB s = false then (⟨#[]⟩, 3) else (foldS s, 0) := by unfold nameV; rw [if_neg hl]
    obtain ⟨b, hb⟩ : ∃ b, nameB s = b := ⟨_, rfl⟩
    rw [hb] at HI hN
    obtain ⟨f, hf⟩ : ∃ f, foldS s = f := ⟨_, rfl⟩
    rw [hf] at HF hN
    have HN := Lib.hid hN
    clear hN hb hf hl
    go_enter Tryd.func80, Tryd.ntmps80
    go_wp2_with fail
    refine (HI.out _).mono ?_
    rintro e w1 ⟨rfl, b1⟩
    cases b with
    | false =>
      have HN2 : Hid (nameV s = (⟨#[]⟩, 3)) := by rw [HN.out]; rfl
      clear HN
      go_wp2
      go_ret2
      exact ⟨by rw [HN2.out]; rfl, b1⟩
    | true =>
      have HN2 : Hid (nameV s = (f, 0)) := by rw [HN.out]; rfl
      clear HN
      go_wp2_with fail
      refine (HF.out _).mono ?_
      rintro e w2 ⟨rfl, b2⟩
      go_wp2
      go_ret2
      exact ⟨by rw [HN2.out]; rfl, b1.trans (b2.mono b1.size)⟩
end Go.Proofs.YtbnddpicpomakaaDoor
