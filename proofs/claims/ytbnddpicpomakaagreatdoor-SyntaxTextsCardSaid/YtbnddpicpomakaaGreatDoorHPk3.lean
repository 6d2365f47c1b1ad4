/- Several texts of one proof, one behind the other. -/
import Derived.Test.YtbnddpicpomakaaGreatDoorHPk2
import Derived.Lib.Hide
import Derived.Lib.MapLaws
import Derived.Lib.ValidLaws
import Derived.Laws.RangeAny
import Derived.Lib.ConvBytes
import Derived.Lib.OthersKept
import Derived.Lib.RuneCount
set_option linter.unusedSimpArgs false
set_option linter.unusedVariables false

/- Classes of code points. -/
set_option linter.unusedSimpArgs false
set_option linter.unusedVariables false
set_option maxRecDepth 100000
namespace Go.Proofs.YtbnddpicpomakaaGreatDoor
set_option linter.unusedSimpArgs false
open Go.RowKit

def classZ (v : Int) : Int :=
  if v = 32 ∨ v = 9 ∨ v = 10 ∨ v = 13 then 1
  else if (97 ≤ v ∧ v ≤ 122) ∨ (65 ≤ v ∧ v ≤ 90) ∨ v = 95 then 2
  else if 48 ≤ v ∧ v ≤ 57 then 3
  else if v = 39 then 4
  else if 33 ≤ v ∧ v ≤ 126 then 5
  else 0

theorem class_of (v k : Int) (h : (k = 1 ∧ (v = 32 ∨ v = 9 ∨ v = 10 ∨ v = 13)) ∨ (k = 2 ∧ ((97 ≤ v ∧ v ≤ 122) ∨ (65 ≤ v ∧ v ≤ 90) ∨ v = 95)) ∨ (k = 3 ∧ 48 ≤ v ∧ v ≤ 57) ∨ (k = 4 ∧ v = 39) ∨
    (k = 5 ∧ 33 ≤ v ∧ v ≤ 126 ∧ ¬ (97 ≤ v ∧ v ≤ 122) ∧ ¬ (65 ≤ v ∧ v ≤ 90) ∧ v ≠ 95 ∧ ¬ (48 ≤ v ∧ v ≤ 57) ∧ v ≠ 39) ∨ (k = 0 ∧ v ≠ 32 ∧ v ≠ 9 ∧ v ≠ 10 ∧ v ≠ 13 ∧ ¬ (33 ≤ v ∧ v ≤ 126))) : classZ v = k := by
  unfold classZ
  repeat' split
  all_goals omega

set_option maxRecDepth 100000 in
set_option maxHeartbeats 4000000 in
theorem Class_any (c : Int) (w : World) : Calls Tryz.prog 51 #[.int .i32 c] w fun e w' => e = .returned (.int .i64 (classZ c)) ∧ w = w' := by
  by_cases k9 : c = 9
  · subst k9
    go_enter Tryz.func51, Tryz.ntmps51
    go_wp2
    go_ret
    exact ⟨rfl, rfl⟩
  by_cases k10 : c = 10
  · subst k10
    go_enter Tryz.func51, Tryz.ntmps51
    go_wp2
    go_ret
    exact ⟨rfl, rfl⟩
  by_cases k13 : c = 13
  · subst k13
    go_enter Tryz.func51, Tryz.ntmps51
    go_wp2
    go_ret
    exact ⟨rfl, rfl⟩
  by_cases k32 : c = 32
  · subst k32
    go_enter Tryz.func51, Tryz.ntmps51
    go_wp2
    go_ret
    exact ⟨rfl, rfl⟩
  by_cases k39 : c = 39
  · subst k39
    go_enter Tryz.func51, Tryz.ntmps51
    go_wp2
    go_ret
    exact ⟨rfl, rfl⟩
  by_cases k95 : c = 95
  · subst k95
    go_enter Tryz.func51, Tryz.ntmps51
    go_wp2
    go_ret
    exact ⟨rfl, rfl⟩
  by_cases rx : c ≤ 8
  · have hcl : Hid (classZ c = 0) := class_of c 0 (by omega)
    have e32 : (c == 32) = false := by simp; omega
    have e9 : (c == 9) = false := by simp; omega
    have e10 : (c == 10) = false := by simp; omega
    have e13 : (c == 13) = false := by simp; omega
    have e95 : (c == 95) = false := by simp; omega
    have e39 : (c == 39) = false := by simp; omega
    have g97 : decide (97 ≤ c) = false := by simp; omega
    have l122 : decide (c ≤ 122) = true := by simp; omega
    have g65 : decide (65 ≤ c) = false := by simp; omega
    have l90 : decide (c ≤ 90) = true := by simp; omega
    have g48 : decide (48 ≤ c) = false := by simp; omega
    have l57 : decide (c ≤ 57) = true := by simp; omega
    have g33 : decide (33 ≤ c) = false := by simp; omega
    have l126 : decide (c ≤ 126) = true := by simp; omega
    clear k9 k10 k13 k32 k39 k95 rx
    go_enter Tryz.func51, Tryz.ntmps51
    go_wp2
    go_ret
    exact ⟨by rw [hcl.out]; rfl, rfl⟩
  by_cases r11 : 11 ≤ c ∧ c ≤ 12
  · have hcl : Hid (classZ c = 0) := class_of c 0 (by omega)
    have e32 : (c == 32) = false := by simp; omega
    have e9 : (c == 9) = false := by simp; omega
    have e10 : (c == 10) = false := by simp; omega
    have e13 : (c == 13) = false := by simp; omega
    have e95 : (c == 95) = false := by simp; omega
    have e39 : (c == 39) = false := by simp; omega
    have g97 : decide (97 ≤ c) = false := by simp; omega
    have l122 : decide (c ≤ 122) = true := by simp; omega
    have g65 : decide (65 ≤ c) = false := by simp; omega
    have l90 : decide (c ≤ 90) = true := by simp; omega
    have g48 : decide (48 ≤ c) = false := by simp; omega
    have l57 : decide (c ≤ 57) = true := by simp; omega
    have g33 : decide (33 ≤ c) = false := by simp; omega
    have l126 : decide (c ≤ 126) = true := by simp; omega
    clear k9 k10 k13 k32 k39 k95 r11 rx
    go_enter Tryz.func51, Tryz.ntmps51
    go_wp2
    go_ret
    exact ⟨by rw [hcl.out]; rfl, rfl⟩
  by_cases r14 : 14 ≤ c ∧ c ≤ 31
  · have hcl : Hid (classZ c = 0) := class_of c 0 (by omega)
    have e32 : (c == 32) = false := by simp; omega
    have e9 : (c == 9) = false := by simp; omega
    have e10 : (c == 10) = false := by simp; omega
    have e13 : (c == 13) = false := by simp; omega
    have e95 : (c == 95) = false := by simp; omega
    have e39 : (c == 39) = false := by simp; omega
    have g97 : decide (97 ≤ c) = false := by simp; omega
    have l122 : decide (c ≤ 122) = true := by simp; omega
    have g65 : decide (65 ≤ c) = false := by simp; omega
    have l90 : decide (c ≤ 90) = true := by simp; omega
    have g48 : decide (48 ≤ c) = false := by simp; omega
    have l57 : decide (c ≤ 57) = true := by simp; omega
    have g33 : decide (33 ≤ c) = false := by simp; omega
    have l126 : decide (c ≤ 126) = true := by simp; omega
    clear k9 k10 k13 k32 k39 k95 r14 rx r11
    go_enter Tryz.func51, Tryz.ntmps51
    go_wp2
    go_ret
    exact ⟨by rw [hcl.out]; rfl, rfl⟩
  by_cases r33 : 33 ≤ c ∧ c ≤ 38
  · have hcl : Hid (classZ c = 5) := class_of c 5 (by omega)
    have e32 : (c == 32) = false := by simp; omega
    have e9 : (c == 9) = false := by simp; omega
    have e10 : (c == 10) = false := by simp; omega
    have e13 : (c == 13) = false := by simp; omega
    have e95 : (c == 95) = false := by simp; omega
    have e39 : (c == 39) = false := by simp; omega
    have g97 : decide (97 ≤ c) = false := by simp; omega
    have l122 : decide (c ≤ 122) = true := by simp; omega
    have g65 : decide (65 ≤ c) = false := by simp; omega
    have l90 : decide (c ≤ 90) = true := by simp; omega
    have g48 : decide (48 ≤ c) = false := by simp; omega
    have l57 : decide (c ≤ 57) = true := by simp; omega
    have g33 : decide (33 ≤ c) = true := by simp; omega
    have l126 : decide (c ≤ 126) = true := by simp; omega
    clear k9 k10 k13 k32 k39 k95 r33 rx r11 r14
    go_enter Tryz.func51, Tryz.ntmps51
    go_wp2
    go_ret
    exact ⟨by rw [hcl.out]; rfl, rfl⟩
  by_cases r40 : 40 ≤ c ∧ c ≤ 47
  · have hcl : Hid (classZ c = 5) := class_of c 5 (by omega)
    have e32 : (c == 32) = false := by simp; omega
    have e9 : (c == 9) = false := by simp; omega
    have e10 : (c == 10) = false := by simp; omega
    have e13 : (c == 13) = false := by simp; omega
    have e95 : (c == 95) = false := by simp; omega
    have e39 : (c == 39) = false := by simp; omega
    have g97 : decide (97 ≤ c) = false := by simp; omega
    have l122 : decide (c ≤ 122) = true := by simp; omega
    have g65 : decide (65 ≤ c) = false := by simp; omega
    have l90 : decide (c ≤ 90) = true := by simp; omega
    have g48 : decide (48 ≤ c) = false := by simp; omega
    have l57 : decide (c ≤ 57) = true := by simp; omega
    have g33 : decide (33 ≤ c) = true := by simp; omega
    have l126 : decide (c ≤ 126) = true := by simp; omega
    clear k9 k10 k13 k32 k39 k95 r40 rx r11 r14 r33
    go_enter Tryz.func51, Tryz.ntmps51
    go_wp2
    go_ret
    exact ⟨by rw [hcl.out]; rfl, rfl⟩
  by_cases r48 : 48 ≤ c ∧ c ≤ 57
  · have hcl : Hid (classZ c = 3) := class_of c 3 (by omega)
    have e32 : (c == 32) = false := by simp; omega
    have e9 : (c == 9) = false := by simp; omega
    have e10 : (c == 10) = false := by simp; omega
    have e13 : (c == 13) = false := by simp; omega
    have e95 : (c == 95) = false := by simp; omega
    have e39 : (c == 39) = false := by simp; omega
    have g97 : decide (97 ≤ c) = false := by simp; omega
    have l122 : decide (c ≤ 122) = true := by simp; omega
    have g65 : decide (65 ≤ c) = false := by simp; omega
    have l90 : decide (c ≤ 90) = true := by simp; omega
    have g48 : decide (48 ≤ c) = true := by simp; omega
    have l57 : decide (c ≤ 57) = true := by simp; omega
    have g33 : decide (33 ≤ c) = true := by simp; omega
    have l126 : decide (c ≤ 126) = true := by simp; omega
    clear k9 k10 k13 k32 k39 k95 r48 rx r11 r14 r33 r40
    go_enter Tryz.func51, Tryz.ntmps51
    go_wp2
    go_ret
    exact ⟨by rw [hcl.out]; rfl, rfl⟩
  by_cases r58 : 58 ≤ c ∧ c ≤ 64
  · have hcl : Hid (classZ c = 5) := class_of c 5 (by omega)
    have e32 : (c == 32) = false := by simp; omega
    have e9 : (c == 9) = false := by simp; omega
    have e10 : (c == 10) = false := by simp; omega
    have e13 : (c == 13) = false := by simp; omega
    have e95 : (c == 95) = false := by simp; omega
    have e39 : (c == 39) = false := by simp; omega
    have g97 : decide (97 ≤ c) = false := by simp; omega
    have l122 : decide (c ≤ 122) = true := by simp; omega
    have g65 : decide (65 ≤ c) = false := by simp; omega
    have l90 : decide (c ≤ 90) = true := by simp; omega
    have g48 : decide (48 ≤ c) = true := by simp; omega
    have l57 : decide (c ≤ 57) = false := by simp; omega
    have g33 : decide (33 ≤ c) = true := by simp; omega
    have l126 : decide (c ≤ 126) = true := by simp; omega
    clear k9 k10 k13 k32 k39 k95 r58 rx r11 r14 r33 r40 r48
    go_enter Tryz.func51, Tryz.ntmps51
    go_wp2
    go_ret
    exact ⟨by rw [hcl.out]; rfl, rfl⟩
  by_cases r65 : 65 ≤ c ∧ c ≤ 90
  · have hcl : Hid (classZ c = 2) := class_of c 2 (by omega)
    have e32 : (c == 32) = false := by simp; omega
    have e9 : (c == 9) = false := by simp; omega
    have e10 : (c == 10) = false := by simp; omega
    have e13 : (c == 13) = false := by simp; omega
    have e95 : (c == 95) = false := by simp; omega
    have e39 : (c == 39) = false := by simp; omega
    have g97 : decide (97 ≤ c) = false := by simp; omega
    have l122 : decide (c ≤ 122) = true := by simp; omega
    have g65 : decide (65 ≤ c) = true := by simp; omega
    have l90 : decide (c ≤ 90) = true := by simp; omega
    have g48 : decide (48 ≤ c) = true := by simp; omega
    have l57 : decide (c ≤ 57) = false := by simp; omega
    have g33 : decide (33 ≤ c) = true := by simp; omega
    have l126 : decide (c ≤ 126) = true := by simp; omega
    clear k9 k10 k13 k32 k39 k95 r65 rx r11 r14 r33 r40 r48 r58
    go_enter Tryz.func51, Tryz.ntmps51
    go_wp2
    go_ret
    exact ⟨by rw [hcl.out]; rfl, rfl⟩
  by_cases r91 : 91 ≤ c ∧ c ≤ 94
  · have hcl : Hid (classZ c = 5) := class_of c 5 (by omega)
    have e32 : (c == 32) = false := by simp; omega
    have e9 : (c == 9) = false := by simp; omega
    have e10 : (c == 10) = false := by simp; omega
    have e13 : (c == 13) = false := by simp; omega
    have e95 : (c == 95) = false := by simp; omega
    have e39 : (c == 39) = false := by simp; omega
    have g97 : decide (97 ≤ c) = false := by simp; omega
    have l122 : decide (c ≤ 122) = true := by simp; omega
    have g65 : decide (65 ≤ c) = true := by simp; omega
    have l90 : decide (c ≤ 90) = false := by simp; omega
    have g48 : decide (48 ≤ c) = true := by simp; omega
    have l57 : decide (c ≤ 57) = false := by simp; omega
    have g33 : decide (33 ≤ c) = true := by simp; omega
    have l126 : decide (c ≤ 126) = true := by simp; omega
    clear k9 k10 k13 k32 k39 k95 r91 rx r11 r14 r33 r40 r48 r58 r65
    go_enter Tryz.func51, Tryz.ntmps51
    go_wp2
    go_ret
    exact ⟨by rw [hcl.out]; rfl, rfl⟩
  by_cases r96 : 96 ≤ c ∧ c ≤ 96
  · have hcl : Hid (classZ c = 5) := class_of c 5 (by omega)
    have e32 : (c == 32) = false := by simp; omega
    have e9 : (c == 9) = false := by simp; omega
    have e10 : (c == 10) = false := by simp; omega
    have e13 : (c == 13) = false := by simp; omega
    have e95 : (c == 95) = false := by simp; omega
    have e39 : (c == 39) = false := by simp; omega
    have g97 : decide (97 ≤ c) = false := by simp; omega
    have l122 : decide (c ≤ 122) = true := by simp; omega
    have g65 : decide (65 ≤ c) = true := by simp; omega
    have l90 : decide (c ≤ 90) = false := by simp; omega
    have g48 : decide (48 ≤ c) = true := by simp; omega
    have l57 : decide (c ≤ 57) = false := by simp; omega
    have g33 : decide (33 ≤ c) = true := by simp; omega
    have l126 : decide (c ≤ 126) = true := by simp; omega
    clear k9 k10 k13 k32 k39 k95 r96 rx r11 r14 r33 r40 r48 r58 r65 r91
    go_enter Tryz.func51, Tryz.ntmps51
    go_wp2
    go_ret
    exact ⟨by rw [hcl.out]; rfl, rfl⟩
  by_cases r97 : 97 ≤ c ∧ c ≤ 122
  · have hcl : Hid (classZ c = 2) := class_of c 2 (by omega)
    have e32 : (c == 32) = false := by simp; omega
    have e9 : (c == 9) = false := by simp; omega
    have e10 : (c == 10) = false := by simp; omega
    have e13 : (c == 13) = false := by simp; omega
    have e95 : (c == 95) = false := by simp; omega
    have e39 : (c == 39) = false := by simp; omega
    have g97 : decide (97 ≤ c) = true := by simp; omega
    have l122 : decide (c ≤ 122) = true := by simp; omega
    have g65 : decide (65 ≤ c) = true := by simp; omega
    have l90 : decide (c ≤ 90) = false := by simp; omega
    have g48 : decide (48 ≤ c) = true := by simp; omega
    have l57 : decide (c ≤ 57) = false := by simp; omega
    have g33 : decide (33 ≤ c) = true := by simp; omega
    have l126 : decide (c ≤ 126) = true := by simp; omega
    clear k9 k10 k13 k32 k39 k95 r97 rx r11 r14 r33 r40 r48 r58 r65 r91 r96
    go_enter Tryz.func51, Tryz.ntmps51
    go_wp2
    go_ret
    exact ⟨by rw [hcl.out]; rfl, rfl⟩
  by_cases r123 : 123 ≤ c ∧ c ≤ 126
  · have hcl : Hid (classZ c = 5) := class_of c 5 (by omega)
    have e32 : (c == 32) = false := by simp; omega
    have e9 : (c == 9) = false := by simp; omega
    have e10 : (c == 10) = false := by simp; omega
    have e13 : (c == 13) = false := by simp; omega
    have e95 : (c == 95) = false := by simp; omega
    have e39 : (c == 39) = false := by simp; omega
    have g97 : decide (97 ≤ c) = true := by simp; omega
    have l122 : decide (c ≤ 122) = false := by simp; omega
    have g65 : decide (65 ≤ c) = true := by simp; omega
    have l90 : decide (c ≤ 90) = false := by simp; omega
    have g48 : decide (48 ≤ c) = true := by simp; omega
    have l57 : decide (c ≤ 57) = false := by simp; omega
    have g33 : decide (33 ≤ c) = true := by simp; omega
    have l126 : decide (c ≤ 126) = true := by simp; omega
    clear k9 k10 k13 k32 k39 k95 r123 rx r11 r14 r33 r40 r48 r58 r65 r91 r96 r97
    go_enter Tryz.func51, Tryz.ntmps51
    go_wp2
    go_ret
    exact ⟨by rw [hcl.out]; rfl, rfl⟩
  by_cases r127 : 127 ≤ c
  · have hcl : Hid (classZ c = 0) := class_of c 0 (by omega)
    have e32 : (c == 32) = false := by simp; omega
    have e9 : (c == 9) = false := by simp; omega
    have e10 : (c == 10) = false := by simp; omega
    have e13 : (c == 13) = false := by simp; omega
    have e95 : (c == 95) = false := by simp; omega
    have e39 : (c == 39) = false := by simp; omega
    have g97 : decide (97 ≤ c) = true := by simp; omega
    have l122 : decide (c ≤ 122) = false := by simp; omega
    have g65 : decide (65 ≤ c) = true := by simp; omega
    have l90 : decide (c ≤ 90) = false := by simp; omega
    have g48 : decide (48 ≤ c) = true := by simp; omega
    have l57 : decide (c ≤ 57) = false := by simp; omega
    have g33 : decide (33 ≤ c) = true := by simp; omega
    have l126 : decide (c ≤ 126) = false := by simp; omega
    clear k9 k10 k13 k32 k39 k95 r127 rx r11 r14 r33 r40 r48 r58 r65 r91 r96 r97 r123
    go_enter Tryz.func51, Tryz.ntmps51
    go_wp2
    go_ret
    exact ⟨by rw [hcl.out]; rfl, rfl⟩
  exfalso; omega

set_option maxRecDepth 100000 in
set_option maxHeartbeats 4000000 in
theorem rClass_any (c : Int) (w : World) : Calls Tryz.prog 60 #[.int .i64 c] w fun e w' => e = .returned (.int .i64 (classZ c)) ∧ w = w' := by
  by_cases k9 : c = 9
  · subst k9
    go_enter Tryz.func60, Tryz.ntmps60
    go_wp2
    go_ret
    exact ⟨rfl, rfl⟩
  by_cases k10 : c = 10
  · subst k10
    go_enter Tryz.func60, Tryz.ntmps60
    go_wp2
    go_ret
    exact ⟨rfl, rfl⟩
  by_cases k13 : c = 13
  · subst k13
    go_enter Tryz.func60, Tryz.ntmps60
    go_wp2
    go_ret
    exact ⟨rfl, rfl⟩
  by_cases k32 : c = 32
  · subst k32
    go_enter Tryz.func60, Tryz.ntmps60
    go_wp2
    go_ret
    exact ⟨rfl, rfl⟩
  by_cases k39 : c = 39
  · subst k39
    go_enter Tryz.func60, Tryz.ntmps60
    go_wp2
    go_ret
    exact ⟨rfl, rfl⟩
  by_cases k95 : c = 95
  · subst k95
    go_enter Tryz.func60, Tryz.ntmps60
    go_wp2
    go_ret
    exact ⟨rfl, rfl⟩
  by_cases rx : c ≤ 8
  · have hcl : Hid (classZ c = 0) := class_of c 0 (by omega)
    have e32 : (c == 32) = false := by simp; omega
    have e9 : (c == 9) = false := by simp; omega
    have e10 : (c == 10) = false := by simp; omega
    have e13 : (c == 13) = false := by simp; omega
    have e95 : (c == 95) = false := by simp; omega
    have e39 : (c == 39) = false := by simp; omega
    have g97 : decide (97 ≤ c) = false := by simp; omega
    have l122 : decide (c ≤ 122) = true := by simp; omega
    have g65 : decide (65 ≤ c) = false := by simp; omega
    have l90 : decide (c ≤ 90) = true := by simp; omega
    have g48 : decide (48 ≤ c) = false := by simp; omega
    have l57 : decide (c ≤ 57) = true := by simp; omega
    have g33 : decide (33 ≤ c) = false := by simp; omega
    have l126 : decide (c ≤ 126) = true := by simp; omega
    clear k9 k10 k13 k32 k39 k95 rx
    go_enter Tryz.func60, Tryz.ntmps60
    go_wp2
    go_ret
    exact ⟨by rw [hcl.out]; rfl, rfl⟩
  by_cases r11 : 11 ≤ c ∧ c ≤ 12
  · have hcl : Hid (classZ c = 0) := class_of c 0 (by omega)
    have e32 : (c == 32) = false := by simp; omega
    have e9 : (c == 9) = false := by simp; omega
    have e10 : (c == 10) = false := by simp; omega
    have e13 : (c == 13) = false := by simp; omega
    have e95 : (c == 95) = false := by simp; omega
    have e39 : (c == 39) = false := by simp; omega
    have g97 : decide (97 ≤ c) = false := by simp; omega
    have l122 : decide (c ≤ 122) = true := by simp; omega
    have g65 : decide (65 ≤ c) = false := by simp; omega
    have l90 : decide (c ≤ 90) = true := by simp; omega
    have g48 : decide (48 ≤ c) = false := by simp; omega
    have l57 : decide (c ≤ 57) = true := by simp; omega
    have g33 : decide (33 ≤ c) = false := by simp; omega
    have l126 : decide (c ≤ 126) = true := by simp; omega
    clear k9 k10 k13 k32 k39 k95 r11 rx
    go_enter Tryz.func60, Tryz.ntmps60
    go_wp2
    go_ret
    exact ⟨by rw [hcl.out]; rfl, rfl⟩
  by_cases r14 : 14 ≤ c ∧ c ≤ 31
  · have hcl : Hid (classZ c = 0) := class_of c 0 (by omega)
    have e32 : (c == 32) = false := by simp; omega
    have e9 : (c == 9) = false := by simp; omega
    have e10 : (c == 10) = false := by simp; omega
    have e13 : (c == 13) = false := by simp; omega
    have e95 : (c == 95) = false := by simp; omega
    have e39 : (c == 39) = false := by simp; omega
    have g97 : decide (97 ≤ c) = false := by simp; omega
    have l122 : decide (c ≤ 122) = true := by simp; omega
    have g65 : decide (65 ≤ c) = false := by simp; omega
    have l90 : decide (c ≤ 90) = true := by simp; omega
    have g48 : decide (48 ≤ c) = false := by simp; omega
    have l57 : decide (c ≤ 57) = true := by simp; omega
    have g33 : decide (33 ≤ c) = false := by simp; omega
    have l126 : decide (c ≤ 126) = true := by simp; omega
    clear k9 k10 k13 k32 k39 k95 r14 rx r11
    go_enter Tryz.func60, Tryz.ntmps60
    go_wp2
    go_ret
    exact ⟨by rw [hcl.out]; rfl, rfl⟩
  by_cases r33 : 33 ≤ c ∧ c ≤ 38
  · have hcl : Hid (classZ c = 5) := class_of c 5 (by omega)
    have e32 : (c == 32) = false := by simp; omega
    have e9 : (c == 9) = false := by simp; omega
    have e10 : (c == 10) = false := by simp; omega
    have e13 : (c == 13) = false := by simp; omega
    have e95 : (c == 95) = false := by simp; omega
    have e39 : (c == 39) = false := by simp; omega
    have g97 : decide (97 ≤ c) = false := by simp; omega
    have l122 : decide (c ≤ 122) = true := by simp; omega
    have g65 : decide (65 ≤ c) = false := by simp; omega
    have l90 : decide (c ≤ 90) = true := by simp; omega
    have g48 : decide (48 ≤ c) = false := by simp; omega
    have l57 : decide (c ≤ 57) = true := by simp; omega
    have g33 : decide (33 ≤ c) = true := by simp; omega
    have l126 : decide (c ≤ 126) = true := by simp; omega
    clear k9 k10 k13 k32 k39 k95 r33 rx r11 r14
    go_enter Tryz.func60, Tryz.ntmps60
    go_wp2
    go_ret
    exact ⟨by rw [hcl.out]; rfl, rfl⟩
  by_cases r40 : 40 ≤ c ∧ c ≤ 47
  · have hcl : Hid (classZ c = 5) := class_of c 5 (by omega)
    have e32 : (c == 32) = false := by simp; omega
    have e9 : (c == 9) = false := by simp; omega
    have e10 : (c == 10) = false := by simp; omega
    have e13 : (c == 13) = false := by simp; omega
    have e95 : (c == 95) = false := by simp; omega
    have e39 : (c == 39) = false := by simp; omega
    have g97 : decide (97 ≤ c) = false := by simp; omega
    have l122 : decide (c ≤ 122) = true := by simp; omega
    have g65 : decide (65 ≤ c) = false := by simp; omega
    have l90 : decide (c ≤ 90) = true := by simp; omega
    have g48 : decide (48 ≤ c) = false := by simp; omega
    have l57 : decide (c ≤ 57) = true := by simp; omega
    have g33 : decide (33 ≤ c) = true := by simp; omega
    have l126 : decide (c ≤ 126) = true := by simp; omega
    clear k9 k10 k13 k32 k39 k95 r40 rx r11 r14 r33
    go_enter Tryz.func60, Tryz.ntmps60
    go_wp2
    go_ret
    exact ⟨by rw [hcl.out]; rfl, rfl⟩
  by_cases r48 : 48 ≤ c ∧ c ≤ 57
  · have hcl : Hid (classZ c = 3) := class_of c 3 (by omega)
    have e32 : (c == 32) = false := by simp; omega
    have e9 : (c == 9) = false := by simp; omega
    have e10 : (c == 10) = false := by simp; omega
    have e13 : (c == 13) = false := by simp; omega
    have e95 : (c == 95) = false := by simp; omega
    have e39 : (c == 39) = false := by simp; omega
    have g97 : decide (97 ≤ c) = false := by simp; omega
    have l122 : decide (c ≤ 122) = true := by simp; omega
    have g65 : decide (65 ≤ c) = false := by simp; omega
    have l90 : decide (c ≤ 90) = true := by simp; omega
    have g48 : decide (48 ≤ c) = true := by simp; omega
    have l57 : decide (c ≤ 57) = true := by simp; omega
    have g33 : decide (33 ≤ c) = true := by simp; omega
    have l126 : decide (c ≤ 126) = true := by simp; omega
    clear k9 k10 k13 k32 k39 k95 r48 rx r11 r14 r33 r40
    go_enter Tryz.func60, Tryz.ntmps60
    go_wp2
    go_ret
    exact ⟨by rw [hcl.out]; rfl, rfl⟩
  by_cases r58 : 58 ≤ c ∧ c ≤ 64
  · have hcl : Hid (classZ c = 5) := class_of c 5 (by omega)
    have e32 : (c == 32) = false := by simp; omega
    have e9 : (c == 9) = false := by simp; omega
    have e10 : (c == 10) = false := by simp; omega
    have e13 : (c == 13) = false := by simp; omega
    have e95 : (c == 95) = false := by simp; omega
    have e39 : (c == 39) = false := by simp; omega
    have g97 : decide (97 ≤ c) = false := by simp; omega
    have l122 : decide (c ≤ 122) = true := by simp; omega
    have g65 : decide (65 ≤ c) = false := by simp; omega
    have l90 : decide (c ≤ 90) = true := by simp; omega
    have g48 : decide (48 ≤ c) = true := by simp; omega
    have l57 : decide (c ≤ 57) = false := by simp; omega
    have g33 : decide (33 ≤ c) = true := by simp; omega
    have l126 : decide (c ≤ 126) = true := by simp; omega
    clear k9 k10 k13 k32 k39 k95 r58 rx r11 r14 r33 r40 r48
    go_enter Tryz.func60, Tryz.ntmps60
    go_wp2
    go_ret
    exact ⟨by rw [hcl.out]; rfl, rfl⟩
  by_cases r65 : 65 ≤ c ∧ c ≤ 90
  · have hcl : Hid (classZ c = 2) := class_of c 2 (by omega)
    have e32 : (c == 32) = false := by simp; omega
    have e9 : (c == 9) = false := by simp; omega
    have e10 : (c == 10) = false := by simp; omega
    have e13 : (c == 13) = false := by simp; omega
    have e95 : (c == 95) = false := by simp; omega
    have e39 : (c == 39) = false := by simp; omega
    have g97 : decide (97 ≤ c) = false := by simp; omega
    have l122 : decide (c ≤ 122) = true := by simp; omega
    have g65 : decide (65 ≤ c) = true := by simp; omega
    have l90 : decide (c ≤ 90) = true := by simp; omega
    have g48 : decide (48 ≤ c) = true := by simp; omega
    have l57 : decide (c ≤ 57) = false := by simp; omega
    have g33 : decide (33 ≤ c) = true := by simp; omega
    have l126 : decide (c ≤ 126) = true := by simp; omega
    clear k9 k10 k13 k32 k39 k95 r65 rx r11 r14 r33 r40 r48 r58
    go_enter Tryz.func60, Tryz.ntmps60
    go_wp2
    go_ret
    exact ⟨by rw [hcl.out]; rfl, rfl⟩
  by_cases r91 : 91 ≤ c ∧ c ≤ 94
  · have hcl : Hid (classZ c = 5) := class_of c 5 (by omega)
    have e32 : (c == 32) = false := by simp; omega
    have e9 : (c == 9) = false := by simp; omega
    have e10 : (c == 10) = false := by simp; omega
    have e13 : (c == 13) = false := by simp; omega
    have e95 : (c == 95) = false := by simp; omega
    have e39 : (c == 39) = false := by simp; omega
    have g97 : decide (97 ≤ c) = false := by simp; omega
    have l122 : decide (c ≤ 122) = true := by simp; omega
    have g65 : decide (65 ≤ c) = true := by simp; omega
    have l90 : decide (c ≤ 90) = false := by simp; omega
    have g48 : decide (48 ≤ c) = true := by simp; omega
    have l57 : decide (c ≤ 57) = false := by simp; omega
    have g33 : decide (33 ≤ c) = true := by simp; omega
    have l126 : decide (c ≤ 126) = true := by simp; omega
    clear k9 k10 k13 k32 k39 k95 r91 rx r11 r14 r33 r40 r48 r58 r65
    go_enter Tryz.func60, Tryz.ntmps60
    go_wp2
    go_ret
    exact ⟨by rw [hcl.out]; rfl, rfl⟩
  by_cases r96 : 96 ≤ c ∧ c ≤ 96
  · have hcl : Hid (classZ c = 5) := class_of c 5 (by omega)
    have e32 : (c == 32) = false := by simp; omega
    have e9 : (c == 9) = false := by simp; omega
    have e10 : (c == 10) = false := by simp; omega
    have e13 : (c == 13) = false := by simp; omega
    have e95 : (c == 95) = false := by simp; omega
    have e39 : (c == 39) = false := by simp; omega
    have g97 : decide (97 ≤ c) = false := by simp; omega
    have l122 : decide (c ≤ 122) = true := by simp; omega
    have g65 : decide (65 ≤ c) = true := by simp; omega
    have l90 : decide (c ≤ 90) = false := by simp; omega
    have g48 : decide (48 ≤ c) = true := by simp; omega
    have l57 : decide (c ≤ 57) = false := by simp; omega
    have g33 : decide (33 ≤ c) = true := by simp; omega
    have l126 : decide (c ≤ 126) = true := by simp; omega
    clear k9 k10 k13 k32 k39 k95 r96 rx r11 r14 r33 r40 r48 r58 r65 r91
    go_enter Tryz.func60, Tryz.ntmps60
    go_wp2
    go_ret
    exact ⟨by rw [hcl.out]; rfl, rfl⟩
  by_cases r97 : 97 ≤ c ∧ c ≤ 122
  · have hcl : Hid (classZ c = 2) := class_of c 2 (by omega)
    have e32 : (c == 32) = false := by simp; omega
    have e9 : (c == 9) = false := by simp; omega
    have e10 : (c == 10) = false := by simp; omega
    have e13 : (c == 13) = false := by simp; omega
    have e95 : (c == 95) = false := by simp; omega
    have e39 : (c == 39) = false := by simp; omega
    have g97 : decide (97 ≤ c) = true := by simp; omega
    have l122 : decide (c ≤ 122) = true := by simp; omega
    have g65 : decide (65 ≤ c) = true := by simp; omega
    have l90 : decide (c ≤ 90) = false := by simp; omega
    have g48 : decide (48 ≤ c) = true := by simp; omega
    have l57 : decide (c ≤ 57) = false := by simp; omega
    have g33 : decide (33 ≤ c) = true := by simp; omega
    have l126 : decide (c ≤ 126) = true := by simp; omega
    clear k9 k10 k13 k32 k39 k95 r97 rx r11 r14 r33 r40 r48 r58 r65 r91 r96
    go_enter Tryz.func60, Tryz.ntmps60
    go_wp2
    go_ret
    exact ⟨by rw [hcl.out]; rfl, rfl⟩
  by_cases r123 : 123 ≤ c ∧ c ≤ 126
  · have hcl : Hid (classZ c = 5) := class_of c 5 (by omega)
    have e32 : (c == 32) = false := by simp; omega
    have e9 : (c == 9) = false := by simp; omega
    have e10 : (c == 10) = false := by simp; omega
    have e13 : (c == 13) = false := by simp; omega
    have e95 : (c == 95) = false := by simp; omega
    have e39 : (c == 39) = false := by simp; omega
    have g97 : decide (97 ≤ c) = true := by simp; omega
    have l122 : decide (c ≤ 122) = false := by simp; omega
    have g65 : decide (65 ≤ c) = true := by simp; omega
    have l90 : decide (c ≤ 90) = false := by simp; omega
    have g48 : decide (48 ≤ c) = true := by simp; omega
    have l57 : decide (c ≤ 57) = false := by simp; omega
    have g33 : decide (33 ≤ c) = true := by simp; omega
    have l126 : decide (c ≤ 126) = true := by simp; omega
    clear k9 k10 k13 k32 k39 k95 r123 rx r11 r14 r33 r40 r48 r58 r65 r91 r96 r97
    go_enter Tryz.func60, Tryz.ntmps60
    go_wp2
    go_ret
    exact ⟨by rw [hcl.out]; rfl, rfl⟩
  by_cases r127 : 127 ≤ c
  · have hcl : Hid (classZ c = 0) := class_of c 0 (by omega)
    have e32 : (c == 32) = false := by simp; omega
    have e9 : (c == 9) = false := by simp; omega
    have e10 : (c == 10) = false := by simp; omega
    have e13 : (c == 13) = false := by simp; omega
    have e95 : (c == 95) = false := by simp; omega
    have e39 : (c == 39) = false := by simp; omega
    have g97 : decide (97 ≤ c) = true := by simp; omega
    have l122 : decide (c ≤ 122) = false := by simp; omega
    have g65 : decide (65 ≤ c) = true := by simp; omega
    have l90 : decide (c ≤ 90) = false := by simp; omega
    have g48 : decide (48 ≤ c) = true := by simp; omega
    have l57 : decide (c ≤ 57) = false := by simp; omega
    have g33 : decide (33 ≤ c) = true := by simp; omega
    have l126 : decide (c ≤ 126) = false := by simp; omega
    clear k9 k10 k13 k32 k39 k95 r127 rx r11 r14 r33 r40 r48 r58 r65 r91 r96 r97 r123
    go_enter Tryz.func60, Tryz.ntmps60
    go_wp2
    go_ret
    exact ⟨by rw [hcl.out]; rfl, rfl⟩
  exfalso; omega
end Go.Proofs.YtbnddpicpomakaaGreatDoor

/- Code points and their bytes: plain mathematics. -/
set_option linter.unusedSimpArgs false
set_option linter.unusedVariables false
set_option maxRecDepth 100000
namespace Go.Proofs.YtbnddpicpomakaaGreatDoor
open Go

/-- Is v a code point? -/
def okP (v : Nat) : Bool := decide (v < 55296) || (decide (57343 < v) && decide (v ≤ 1114111))

theorem okP_iff (v : Nat) : okP v = true ↔ (v < 55296 ∨ (57343 < v ∧ v ≤ 1114111)) := by
  simp [okP]

/-- The bytes of a code point. -/
def encP (v : Nat) : List Nat :=
  if v < 128 then [v] else if v < 2048 then [192 + v / 64, 128 + v % 64]
  else if v < 65536 then [224 + v / 4096, 128 + v / 64 % 64, 128 + v % 64]
  else [240 + v / 262144, 128 + v / 4096 % 64, 128 + v / 64 % 64, 128 + v % 64]

def encS (l : List Nat) : List Nat := l.flatMap encP

/-- What stands at the head of some bytes, as the model reads it. -/
def hd (l : List Nat) : Nat × Nat := Lib.decodeN l.length (l.getD 0 0) (l.getD 1 0) (l.getD 2 0) (l.getD 3 0)

/-- The code point at the head of some bytes. -/
def pt (l : List Nat) : Option (Nat × Nat) := if l = [] then none else if hd l = (65533, 1) then none else some (hd l)

def decF : Nat → List Nat → Option (List Nat)
  | 0, l => if l = [] then some [] else none
  | f + 1, l => if l = [] then some [] else match pt l with
    | none => none
    | some (v, n) => (decF f (l.drop n)).map (v :: ·)

/-- The code points of some bytes. -/
def decS (l : List Nat) : Option (List Nat) := decF l.length l

theorem encP_len (v : Nat) : 1 ≤ (encP v).length ∧ (encP v).length ≤ 4 := by
  unfold encP; split
  · simp
  · split
    · simp
    · split <;> simp

theorem encP_lt {v : Nat} (h : v ≤ 1114111) : ∀ c ∈ encP v, c < 256 := by
  intro c hc
  unfold encP at hc
  split at hc
  · simp at hc; omega
  · split at hc
    · simp at hc; omega
    · split at hc
      · simp at hc; omega
      · simp at hc; omega

theorem okP_le {v : Nat} (h : okP v = true) : v ≤ 1114111 := by rw [okP_iff] at h; omega

theorem pt_enc {v : Nat} (h : okP v = true) (B : List Nat) : pt (encP v ++ B) = some (v, (encP v).length) := by
  rw [okP_iff] at h
  have key : ∀ (L : List Nat), L ≠ [] → hd L = (v, (encP v).length) → ¬ (v = 65533 ∧ (encP v).length = 1) → pt L = some (v, (encP v).length) := by
    intro L h0 h1 h2
    unfold pt
    rw [if_neg h0, h1, if_neg (by intro h; simp only [Prod.mk.injEq] at h; exact h2 h)]
  unfold encP at key ⊢
  by_cases h1 : v < 128
  · simp only [if_pos h1] at key ⊢
    refine key _ (by simp) ?_ (by simp; omega)
    simp [hd, Lib.decodeN, h1]
  · simp only [if_neg h1] at key ⊢
    by_cases h2 : v < 2048
    · simp only [if_pos h2] at key ⊢
      refine key _ (by simp) ?_ (by simp)
      simp only [hd, Lib.decodeN, List.length_append, List.length_cons, List.length_nil, List.cons_append, List.nil_append, List.getD_cons_zero, List.getD_cons_succ]
      rw [if_neg (by omega), if_pos (by omega), if_pos (by omega)]
      congr 1; omega
    · simp only [if_neg h2] at key ⊢
      by_cases h3 : v < 65536
      · simp only [if_pos h3] at key ⊢
        refine key _ (by simp) ?_ (by simp)
        simp only [hd, Lib.decodeN, List.length_append, List.length_cons, List.length_nil, List.cons_append, List.nil_append, List.getD_cons_zero, List.getD_cons_succ]
        rw [if_neg (by omega), if_neg (by omega), if_pos (by omega), if_pos (by omega)]
        congr 1; omega
      · simp only [if_neg h3] at key ⊢
        refine key _ (by simp) ?_ (by simp)
        simp only [hd, Lib.decodeN, List.length_append, List.length_cons, List.length_nil, List.cons_append, List.nil_append, List.getD_cons_zero, List.getD_cons_succ]
        rw [if_neg (by omega), if_neg (by omega), if_neg (by omega), if_pos (by omega), if_pos (by omega)]
        congr 1; omega

theorem take1 : ∀ l : List Nat, 0 < l.length → l.take 1 = [l.getD 0 0]
  | _ :: _, _ => by simp
theorem take2 : ∀ l : List Nat, 1 < l.length → l.take 2 = [l.getD 0 0, l.getD 1 0]
  | [_], h => by simp at h
  | _ :: _ :: _, _ => by simp
theorem take3 : ∀ l : List Nat, 2 < l.length → l.take 3 = [l.getD 0 0, l.getD 1 0, l.getD 2 0]
  | [_], h => by simp at h
  | [_, _], h => by simp at h
  | _ :: _ :: _ :: _, _ => by simp
theorem take4 : ∀ l : List Nat, 3 < l.length → l.take 4 = [l.getD 0 0, l.getD 1 0, l.getD 2 0, l.getD 3 0]
  | [_], h => by simp at h
  | [_, _], h => by simp at h
  | [_, _, _], h => by simp at h
  | _ :: _ :: _ :: _ :: _, _ => by simp

theorem getD_lt (l : List Nat) (h : ∀ c ∈ l, c < 256) (i : Nat) : l.getD i 0 < 256 := by
  rw [List.getD_eq_getElem?_getD]
  cases hi : l[i]? with
  | none => simp
  | some c => exact h c (List.mem_of_getElem? hi)

theorem hd_pos (l : List Nat) : 1 ≤ (hd l).2 := by
  unfold hd
  rcases Lib.decodeN_shape l.length (l.getD 0 0) (l.getD 1 0) (l.getD 2 0) (l.getD 3 0) with ⟨c, e⟩ | ⟨c1, c2, c3, cv, e⟩ | ⟨c1, c2, c3, c4, cv, cs, e⟩ | ⟨c1, c2, c3, c4, c5, cv, cw, e⟩ | e <;> rw [e] <;> simp

theorem hd_le (l : List Nat) : (hd l).1 ≤ 1114111 ∨ 128 ≤ (hd l).1 := by
  unfold hd
  rcases Lib.decodeN_shape l.length (l.getD 0 0) (l.getD 1 0) (l.getD 2 0) (l.getD 3 0) with ⟨c, e⟩ | ⟨c1, c2, c3, cv, e⟩ | ⟨c1, c2, c3, c4, cv, cs, e⟩ | ⟨c1, c2, c3, c4, c5, cv, cw, e⟩ | e <;> rw [e] <;> dsimp only <;> omega

theorem pt_some {l : List Nat} (h256 : ∀ c ∈ l, c < 256) {v n : Nat} (h : pt l = some (v, n)) : okP v = true ∧ l.take n = encP v ∧ n = (encP v).length ∧ n ≤ l.length ∧ 1 ≤ n ∧ hd l = (v, n) := by
  unfold pt at h
  split at h
  · simp at h
  · rename_i hne
    split at h
    · simp at h
    · rename_i hb
      simp only [Option.some.injEq] at h
      have hl : 0 < l.length := List.length_pos_iff.2 hne
      have k0 := getD_lt l h256 0
      have k1 := getD_lt l h256 1
      have k2 := getD_lt l h256 2
      have k3 := getD_lt l h256 3
      have hH := h
      unfold hd at h hb
      rcases Lib.decodeN_shape l.length (l.getD 0 0) (l.getD 1 0) (l.getD 2 0) (l.getD 3 0) with ⟨c, e⟩ | ⟨c1, c2, c3, cv, e⟩ | ⟨c1, c2, c3, c4, cv, cs, e⟩ | ⟨c1, c2, c3, c4, c5, cv, cw, e⟩ | e
      · rw [e] at h
        simp only [Prod.mk.injEq] at h
        obtain ⟨rfl, rfl⟩ := h
        refine ⟨(okP_iff _).2 (by omega), ?_, ?_, by omega, by omega, hH⟩
        · rw [take1 l hl]; unfold encP; rw [if_pos c]
        · unfold encP; rw [if_pos c]; rfl
      · rw [e] at h
        simp only [Prod.mk.injEq] at h
        obtain ⟨rfl, rfl⟩ := h
        refine ⟨(okP_iff _).2 (by omega), ?_, ?_, by omega, by omega, hH⟩
        · rw [take2 l c2]; unfold encP; rw [if_neg (by omega), if_pos (by omega)]
          congr 1; · omega
          congr 1; omega
        · unfold encP; rw [if_neg (by omega), if_pos (by omega)]; rfl
      · rw [e] at h
        simp only [Prod.mk.injEq] at h
        obtain ⟨rfl, rfl⟩ := h
        refine ⟨(okP_iff _).2 (by omega), ?_, ?_, by omega, by omega, hH⟩
        · rw [take3 l c2]; unfold encP; rw [if_neg (by omega), if_neg (by omega), if_pos (by omega)]
          congr 1; · omega
          congr 1; · omega
          congr 1; omega
        · unfold encP; rw [if_neg (by omega), if_neg (by omega), if_pos (by omega)]; rfl
      · rw [e] at h
        simp only [Prod.mk.injEq] at h
        obtain ⟨rfl, rfl⟩ := h
        refine ⟨(okP_iff _).2 (by omega), ?_, ?_, by omega, by omega, hH⟩
        · rw [take4 l c2]; unfold encP; rw [if_neg (by omega), if_neg (by omega), if_neg (by omega)]
          congr 1; · omega
          congr 1; · omega
          congr 1; · omega
          congr 1; omega
        · unfold encP; rw [if_neg (by omega), if_neg (by omega), if_neg (by omega)]; rfl
      · exact absurd e hb

theorem decF_nil (f : Nat) : decF f [] = some [] := by cases f <;> simp [decF]

theorem decF_enc : ∀ (p : List Nat) (f : Nat), (∀ v ∈ p, okP v = true) → (encS p).length ≤ f → decF f (encS p) = some p
  | [], f, _, _ => by simp [encS, decF_nil]
  | v :: p, f, h, hf => by
    have hl := encP_len v
    have e : encS (v :: p) = encP v ++ encS p := rfl
    rw [e, List.length_append] at hf
    obtain ⟨f', rfl⟩ : ∃ f', f = f' + 1 := ⟨f - 1, by omega⟩
    have hne : encP v ++ encS p ≠ [] := by intro h; have := congrArg List.length h; rw [List.length_append] at this; simp only [List.length_nil] at this; omega
    rw [e]
    unfold decF
    rw [if_neg hne, pt_enc (h v (by simp))]
    simp only
    rw [List.drop_left, decF_enc p f' (fun x hx => h x (by simp [hx])) (by omega)]
    rfl

theorem enc_decF : ∀ (f : Nat) (l p : List Nat), (∀ c ∈ l, c < 256) → decF f l = some p → (∀ v ∈ p, okP v = true) ∧ encS p = l
  | 0, l, p, _, h => by
    unfold decF at h
    split at h
    · rename_i hl; simp at h; subst h; subst hl; simp [encS]
    · simp at h
  | f + 1, l, p, h256, h => by
    unfold decF at h
    split at h
    · rename_i hl; simp at h; subst h; subst hl; simp [encS]
    · cases hp : pt l with
      | none => rw [hp] at h; simp at h
      | some x =>
        obtain ⟨v, n⟩ := x
        rw [hp] at h
        simp only [Option.map_eq_some_iff] at h
        obtain ⟨q, hq, rfl⟩ := h
        obtain ⟨h1, h2, h3, h4, h5, _⟩ := pt_some h256 hp
        obtain ⟨h6, h7⟩ := enc_decF f (l.drop n) q (fun c hc => h256 c (List.mem_of_mem_drop hc)) hq
        refine ⟨?_, ?_⟩
        · intro x hx
          rcases List.mem_cons.1 hx with rfl | hx
          · exact h1
          · exact h6 x hx
        · show encP v ++ encS q = l
          rw [h7, ← h2, List.take_append_drop]

/-- The code points of some bytes: the one list of code points that has them. -/
theorem decS_iff {l : List Nat} (h256 : ∀ c ∈ l, c < 256) (p : List Nat) : decS l = some p ↔ ((∀ v ∈ p, okP v = true) ∧ encS p = l) := by
  constructor
  · exact enc_decF _ _ _ h256
  · rintro ⟨h1, rfl⟩
    exact decF_enc p _ h1 (Nat.le_refl _)

theorem encS_lt {p : List Nat} (h : ∀ v ∈ p, okP v = true) : ∀ c ∈ encS p, c < 256 := by
  intro c hc
  obtain ⟨v, hv, hc⟩ := List.mem_flatMap.1 hc
  exact encP_lt (okP_le (h v hv)) c hc

theorem decS_encS {p : List Nat} (h : ∀ v ∈ p, okP v = true) : decS (encS p) = some p := (decS_iff (encS_lt h) p).2 ⟨h, rfl⟩

theorem encS_append (p q : List Nat) : encS (p ++ q) = encS p ++ encS q := by simp [encS]
theorem encS_cons (v : Nat) (p : List Nat) : encS (v :: p) = encP v ++ encS p := rfl
theorem encS_nil : encS [] = [] := rfl

theorem decS_append {a b p q : List Nat} (ha : ∀ c ∈ a, c < 256) (hb : ∀ c ∈ b, c < 256) (h1 : decS a = some p) (h2 : decS b = some q) : decS (a ++ b) = some (p ++ q) := by
  obtain ⟨h3, h4⟩ := (decS_iff ha p).1 h1
  obtain ⟨h5, h6⟩ := (decS_iff hb q).1 h2
  refine (decS_iff (fun c hc => (List.mem_append.1 hc).elim (ha c) (hb c)) _).2 ⟨fun v hv => (List.mem_append.1 hv).elim (h3 v) (h5 v), ?_⟩
  rw [encS_append, h4, h6]

theorem encS_len (p : List Nat) : p.length ≤ (encS p).length ∧ (encS p).length ≤ 4 * p.length := by
  induction p with
  | nil => simp [encS]
  | cons v p ih => rw [encS_cons, List.length_append, List.length_cons]; have := encP_len v; omega

/-- The step of a reader: a code point is there. -/
theorem decS_step {l p : List Nat} (h256 : ∀ c ∈ l, c < 256) (h : decS l = some p) (hne : l ≠ []) : ∃ v n q, pt l = some (v, n) ∧ p = v :: q ∧ decS (l.drop n) = some q ∧ hd l = (v, n) ∧ 1 ≤ n ∧ n ≤ l.length ∧ okP v = true ∧ n = (encP v).length := by
  obtain ⟨h1, h2⟩ := (decS_iff h256 p).1 h
  cases p with
  | nil => exact absurd h2.symm hne
  | cons v q =>
    have hv := h1 v (by simp)
    have hp : pt l = some (v, (encP v).length) := by rw [← h2, encS_cons]; exact pt_enc hv _
    obtain ⟨_, _, _, g4, g5, g6⟩ := pt_some h256 hp
    refine ⟨v, _, q, hp, rfl, ?_, g6, g5, g4, hv, rfl⟩
    rw [← h2, encS_cons, List.drop_left]
    exact decS_encS fun x hx => h1 x (by simp [hx])

theorem decS_nil : decS [] = some [] := rfl

/-- .. and none is there. -/
theorem decS_bad {l : List Nat} (h256 : ∀ c ∈ l, c < 256) (hne : l ≠ []) (h : pt l = none) : decS l = none := by
  cases hd : decS l with
  | none => rfl
  | some p =>
    obtain ⟨v, n, q, h1, _⟩ := decS_step h256 hd hne
    rw [h] at h1; simp at h1

theorem decS_go {l : List Nat} (h256 : ∀ c ∈ l, c < 256) {v n : Nat} (h : pt l = some (v, n)) : decS l = (decS (l.drop n)).map (v :: ·) := by
  obtain ⟨h1, h2, h3, h4, h5, _⟩ := pt_some h256 h
  have hd256 : ∀ c ∈ l.drop n, c < 256 := fun c hc => h256 c (List.mem_of_mem_drop hc)
  have hne : l ≠ [] := by intro e; subst e; simp at h4; omega
  cases hq : decS (l.drop n) with
  | some q =>
    obtain ⟨h6, h7⟩ := (decS_iff hd256 q).1 hq
    refine (decS_iff h256 _).2 ⟨?_, ?_⟩
    · intro x hx
      rcases List.mem_cons.1 hx with rfl | hx
      · exact h1
      · exact h6 x hx
    · show encP v ++ encS q = l
      rw [h7, ← h2, List.take_append_drop]
  | none =>
    cases hp : decS l with
    | none => rfl
    | some p =>
      obtain ⟨v', n', q', g1, _, g3, _⟩ := decS_step h256 hp hne
      rw [h] at g1
      simp only [Option.some.injEq, Prod.mk.injEq] at g1
      obtain ⟨rfl, rfl⟩ := g1
      rw [hq] at g3; simp at g3

/-- The code points ahead of a place, where what stands there begins one. -/
theorem decS_split {l p : List Nat} (h256 : ∀ c ∈ l, c < 256) (h : decS l = some p) (i : Nat) (hi : i ≤ p.length) : decS (l.drop (encS (p.take i)).length) = some (p.drop i) ∧ (encS (p.take i)).length ≤ l.length := by
  obtain ⟨h1, h2⟩ := (decS_iff h256 p).1 h
  have e : l = encS (p.take i) ++ encS (p.drop i) := by rw [← encS_append, List.take_append_drop, h2]
  refine ⟨?_, by rw [e, List.length_append]; omega⟩
  rw [e, List.drop_left]
  exact decS_encS fun x hx => h1 x (List.mem_of_mem_drop hx)
end Go.Proofs.YtbnddpicpomakaaGreatDoor

/- The model's decoder and the code points. -/
set_option linter.unusedSimpArgs false
set_option linter.unusedVariables false
set_option maxRecDepth 100000
namespace Go.Proofs.YtbnddpicpomakaaGreatDoor
open Go

def bytesU (s : ByteArray) : List Nat := s.data.toList.map UInt8.toNat

theorem bytesU_len (s : ByteArray) : (bytesU s).length = s.size := by simp [bytesU]
theorem bytesU_lt (s : ByteArray) : ∀ c ∈ bytesU s, c < 256 := by
  intro c hc
  obtain ⟨u, _, rfl⟩ := List.mem_map.1 hc
  exact u.toNat_lt
theorem map_lt (l : List UInt8) : ∀ c ∈ l.map UInt8.toNat, c < 256 := by
  intro c hc
  obtain ⟨u, _, rfl⟩ := List.mem_map.1 hc
  exact u.toNat_lt

theorem getD_map (l : List UInt8) (i : Nat) : (l.map UInt8.toNat).getD i 0 = (l.getD i 0).toNat := by
  rw [List.getD_eq_getElem?_getD, List.getD_eq_getElem?_getD, List.getElem?_map]
  cases l[i]? <;> rfl

theorem decodeL_hd (l : List UInt8) : Lib.decodeL l = hd (l.map UInt8.toNat) := by
  rw [Lib.decodeL_N]
  unfold hd
  rw [getD_map, getD_map, getD_map, getD_map, List.length_map]

theorem valid_dec : ∀ (n : Nat) (l : List UInt8), l.length ≤ n → Lib.validD l = (decS (l.map UInt8.toNat)).isSome
  | 0, l, h => by
    have : l = [] := List.eq_nil_of_length_eq_zero (by omega)
    subst this
    rw [Lib.validD_nil]; rfl
  | n + 1, l, h => by
    by_cases hne : l = []
    · subst hne; rw [Lib.validD_nil]; rfl
    · have hne2 : l.map UInt8.toNat ≠ [] := by simpa using hne
      have hl : 0 < l.length := List.length_pos_iff.2 hne
      rw [Lib.validD_step l hne, decodeL_hd]
      cases hp : pt (l.map UInt8.toNat) with
      | none =>
        rw [decS_bad (map_lt l) hne2 hp]
        have : hd (l.map UInt8.toNat) = (65533, 1) := by
          unfold pt at hp
          rw [if_neg hne2] at hp
          by_cases h : hd (l.map UInt8.toNat) = (65533, 1)
          · exact h
          · rw [if_neg h] at hp; simp at hp
        rw [this]; simp
      | some x =>
        obtain ⟨v, k⟩ := x
        rw [decS_go (map_lt l) hp]
        obtain ⟨_, _, _, h4, h5, h6⟩ := pt_some (map_lt l) hp
        have hb : ¬ ((hd (l.map UInt8.toNat)).1 = 65533 ∧ (hd (l.map UInt8.toNat)).2 = 1) := by
          intro hh
          unfold pt at hp
          rw [if_neg hne2, if_pos (Prod.ext hh.1 hh.2)] at hp
          simp at hp
        rw [if_neg hb, h6]
        dsimp only
        rw [valid_dec n (l.drop k) (by rw [List.length_drop]; omega), Option.isSome_map, List.map_drop]

theorem valid_bytes (s : ByteArray) : Lib.validD s.data.toList = (decS (bytesU s)).isSome := valid_dec _ _ (Nat.le_refl _)

theorem get_bytes (s : ByteArray) (i : Nat) : (s.get! i).toNat = (bytesU s).getD i 0 := by
  unfold bytesU
  rw [getD_map, List.getD_eq_getElem?_getD]
  congr 1
  show s.data[i]! = _
  rw [getElem!_def]
  simp only [Array.getElem?_toList]
  cases s.data[i]? <;> rfl

theorem decode_hd (s : ByteArray) (i : Nat) : Utf8.decode s i = hd ((bytesU s).drop i) := by
  rw [Lib.decode_at]
  unfold hd
  have hg : ∀ j, ((bytesU s).drop i).getD j 0 = (bytesU s).getD (i + j) 0 := fun j => by
    rw [List.getD_eq_getElem?_getD, List.getD_eq_getElem?_getD, List.getElem?_drop]
  rw [hg, hg, hg, hg, get_bytes, get_bytes, get_bytes, get_bytes, List.length_drop, bytesU_len]
  rfl
end Go.Proofs.YtbnddpicpomakaaGreatDoor

/- Rows of integers of one kind: read, appended to. -/
set_option linter.unusedSimpArgs false
set_option linter.unusedVariables false
set_option maxRecDepth 100000
namespace Go.Proofs.YtbnddpicpomakaaGreatDoor
open Go.RowKit

/-- The address leads to the integers l, of kind k, in blocks below number N. -/
def Rs (k : IntKind) (N : Nat) (w : World) (a : Option Addr) (l : List Int) : Prop :=
  l = [] ∨ ∃ b o, a = some ⟨b, o, none⟩ ∧ b < N ∧ ∀ (i : Nat) (c : Int), l[i]? = some c → w.cell? ⟨b, o + i, none⟩ = some (.int k c)

theorem Rs.below {k : IntKind} {N : Nat} {w w' : World} {a : Option Addr} {l : List Int} (h : Rs k N w a l) (hb : Below N w w') : Rs k N w' a l := by
  rcases h with h2 | ⟨b, o, ha, hN, hc⟩
  · exact .inl h2
  · exact .inr ⟨b, o, ha, hN, fun i c hi => (hb.cell (p := ⟨b, o + i, none⟩) hN).trans (hc i c hi)⟩

theorem Rs.mono {k : IntKind} {N M : Nat} {w : World} {a : Option Addr} {l : List Int} (h : Rs k N w a l) (hM : N ≤ M) : Rs k M w a l := by
  rcases h with h2 | ⟨b, o, ha, hN, hc⟩
  · exact .inl h2
  · exact .inr ⟨b, o, ha, by omega, hc⟩

theorem Rs.at_ {k : IntKind} {N : Nat} {w : World} {a : Option Addr} {l : List Int} (h : Rs k N w a l) {j : Nat} (hj : j < l.length) : ∃ b o, a = some ⟨b, o, none⟩ ∧ b < N ∧ w.cell? ⟨b, o + j, none⟩ = some (.int k l[j]) := by
  rcases h with h2 | ⟨b, o, ha, hN, hc⟩
  · subst h2; simp at hj
  · exact ⟨b, o, ha, hN, hc j _ (List.getElem?_eq_getElem hj)⟩

/-- 'b[k:]' of such a slice, as one value. -/
theorem Rs.from {P : Program} {kd : IntKind} {N : Nat} {w : World} {a : Option Addr} {l : List Int} (h : Rs kd N w a l) (t e : TypeId) (ht : P.underlying t = some (.slice e)) (hz : ∀ w, (Go.sizeOf e).run P w = .ok 1 w)
    (len cap k : Nat) (hlen : len = l.length) (hk : k ≤ len) (hcap : len ≤ cap) :
    ∃ a', Rs kd N w a' (l.drop k) ∧ ∀ W, (Instr.slice t (.slice a len cap) (some (.int .i64 (k : Int))) none none).run P W = .ok (.slice a' (len - k) (cap - k)) W := by
  subst hlen
  have ht' : P.underlying t = some (.slice (P.elem t)) := by simp [Program.elem, ht]
  have hee : P.elem t = e := by simp [Program.elem, ht]
  refine ⟨if cap = k then a else a.map (·.add (k * 1)), ?_, fun W => ?_⟩
  · rcases h with h2 | ⟨b, o, ha, hN, hc⟩
    · exact .inl (by simp [h2])
    · by_cases hkl : k = l.length
      · exact .inl (by simp [hkl])
      · right
        refine ⟨b, o + k, ?_, hN, fun i c hi => ?_⟩
        · rw [if_neg (by omega), ha]; simp [Addr.add]
        · rw [List.getElem?_drop] at hi
          rw [Nat.add_assoc]; exact hc _ _ hi
  · have := run_slice_l (P := P) W t a l.length cap ht' .i64 (k : Int) (by omega) (by omega)
    rw [this, hee, hz W]
    simp [Result.andThen, sliced]

/-- 'b[:m]'. -/
theorem Rs.upTo {P : Program} {kd : IntKind} {N : Nat} {w : World} {a : Option Addr} {l : List Int} (h : Rs kd N w a l) (t e : TypeId) (ht : P.underlying t = some (.slice e)) (hz : ∀ w, (Go.sizeOf e).run P w = .ok 1 w)
    (len cap m : Nat) (hlen : len = l.length) (hm : m ≤ len) (hcap : len ≤ cap) :
    ∃ a', Rs kd N w a' (l.take m) ∧ ∀ W, (Instr.slice t (.slice a len cap) none (some (.int .i64 (m : Int))) none).run P W = .ok (.slice a' m cap) W := by
  subst hlen
  have ht' : P.underlying t = some (.slice (P.elem t)) := by simp [Program.elem, ht]
  have hee : P.elem t = e := by simp [Program.elem, ht]
  refine ⟨if cap = 0 then a else a.map (·.add (0 * 1)), ?_, fun W => ?_⟩
  · rcases h with h2 | ⟨b, o, ha, hN, hc⟩
    · exact .inl (by simp [h2])
    · right
      refine ⟨b, o, ?_, hN, fun i c hi => ?_⟩
      · rw [ha]; split <;> simp [Addr.add]
      · rw [List.getElem?_take] at hi
        split at hi
        · exact hc _ _ hi
        · simp at hi
  · have := run_slice_h (P := P) W t a l.length cap ht' .i64 (m : Int) (by omega) (by omega)
    rw [this, hee, hz W]
    simp [Result.andThen, sliced]

/-- A row of integers of the call's own. -/
def OwnI (k : IntKind) (w : World) (base : Nat) (T : TypeId) (v : Value) (l : List Int) : Prop := w.ownsRow base T 1 v l.length (l.map fun (c : Int) => Value.int k c)

theorem OwnI.nil (k : IntKind) (w : World) (base : Nat) (T : TypeId) : OwnI k w base T (.slice none 0 0) [] := World.ownsRow_nil _ _ _ _

theorem OwnI.slice {k : IntKind} {w : World} {base : Nat} {T : TypeId} {v : Value} {l : List Int} (h : OwnI k w base T v l) : ∃ a cap, v = .slice a l.length cap ∧ l.length ≤ cap ∧ Rs k w.heap.size w a l ∧ (l ≠ [] → ∃ g, a = some ⟨g, 0, none⟩ ∧ base ≤ g) := by
  obtain ⟨h1, h2⟩ := h
  rcases h2 with ⟨hv, hn⟩ | ⟨g, cap, cur, hv, hg, hh, hnc, hcm, hcs, hcur⟩
  · have : l = [] := List.length_eq_zero_iff.1 hn
    subst this
    exact ⟨none, 0, by simpa using hv, by simp, .inl rfl, by simp⟩
  · refine ⟨some ⟨g, 0, none⟩, cap, hv, hnc, .inr ⟨g, 0, rfl, ?_, ?_⟩, fun _ => ⟨g, rfl, hg⟩⟩
    · by_cases hlt : g < w.heap.size
      · exact hlt
      · rw [Array.getElem?_eq_none (by omega)] at hh; simp at hh
    · intro i c hi
      have hil : i < l.length := by
        by_cases hlt : i < l.length
        · exact hlt
        · rw [List.getElem?_eq_none (by omega)] at hi; simp at hi
      have e1 : (cur.toList.take (l.length * 1))[i]? = some (Value.int k c) := by rw [hcur]; simp [hi]
      rw [List.getElem?_take_of_lt (by omega)] at e1
      simp only [World.cell?, hh, Nat.zero_add]
      simpa using e1

theorem OwnI.below {k : IntKind} {w w' : World} {base N : Nat} {T : TypeId} {v : Value} {l : List Int} (h : OwnI k w base T v l) (hN : w.heap.size ≤ N) (hb : Below N w w') : OwnI k w' base T v l := by
  obtain ⟨h1, h2⟩ := h
  refine ⟨h1, ?_⟩
  rcases h2 with h2 | ⟨g, cap, cur, hv, hg, hh, r⟩
  · exact .inl h2
  · refine .inr ⟨g, cap, cur, hv, hg, ?_, r⟩
    rw [hb.block g (by
      by_cases hlt : g < w.heap.size
      · omega
      · rw [Array.getElem?_eq_none (by omega)] at hh; simp at hh)]
    exact hh

/-- 'append(s, x)': x has just been laid in a block of its own. -/
theorem wpList_appI {P : Program} {ops : Array Oper} {rest : List Oper} {o : Oper} {a : Act} {Q : Exit → Act → World → Prop} (hgd : o.guard = none) (s x : Operand) (t : TypeId)
    (ho : o.op = .call { callee := .builtin .append, args := #[s, x], argTypes := #[t, t] }) (k : IntKind)
    (base : Nat) (e : TypeId) (i : TypeInfo) (bytes : Nat) (ht : P.underlying t = some (.slice e)) (hi : P.info? e = some i) (hz : i.zero = some (.int k 0))
    (hsize : i.size = 1) (hby : i.bytes = bytes) (h0 : bytes ≤ 8)
    (v : Value) (l : List Int) (w : World) (hown : OwnI k w base e v l) (hs : a.eval s = v) (c : Int)
    (hx : a.eval x = .slice (some ⟨w.heap.size, 0, none⟩) 1 1) (hlen : l.length < 1000000000000) (hbase : base ≤ w.heap.size)
    (h : ∀ v' w', OwnI k w' base e v' (l ++ [c]) → Below base w w' → w.heap.size < w'.heap.size → wpList P ops Q rest (a.put o.dst v') w') :
    wpList P ops Q (o :: rest) a (w.alloc (.cells #[.int k c] e)) := by
  refine wpList_append_own (w.alloc (.cells #[.int k c] e)) hgd s x t ho base e i (.int k 0) 1 bytes ht hi hz hsize hby rfl (by decide) v l.length _ hs (World.ownsRow.alloc hown _) ⟨w.heap.size, 0, none⟩ 1 1 [.int k c] hx rfl ?_ ?_ ?_ ?_ ?_ ?_
  · intro j u hj
    match j, hj with
    | 0, hj => simp at hj; subst hj; simp [Addr.add]
  · intro u hu; simp at hu; subst hu; rfl
  · unfold maxLen; omega
  · have : (l.length + 1) * bytes ≤ (l.length + 1) * 8 := Nat.mul_le_mul_left _ h0
    omega
  · simp; omega
  · intro v' w' hown' hgrow _
    refine h v' w' (by simpa [OwnI] using hown') ?_ ?_
    · exact ((Below.refl base w).alloc hbase _).grown hgrow (by simp; omega) (fun j hj => (World.ownsRow.lt hown j hj).1)
    · have := hgrow.size; simp at this; omega

theorem boxB (w : World) (o : Obj) : Below w.heap.size w (w.alloc o) := (Below.refl _ w).alloc (Nat.le_refl _) o

/-- A slice of integers that came in. -/
theorem IsRow.rs {k : IntKind} {w : World} {a : Option Addr} {len cap : Nat} {zs : List Int} (h : IsRow k w a len cap zs) :
    ∃ l : List Int, len = l.length ∧ Rs k w.heap.size w a l ∧ len ≤ cap ∧ cap ≤ 9223372036854775807 ∧ ∀ n ∈ l, (Lit.int k n).wf = true := by
  obtain ⟨h1, h2, l, hl, hw, hc⟩ := h.read
  unfold maxLen at h2
  exact ⟨l, hl.symm, hc, h1, by omega, hw⟩
end Go.Proofs.YtbnddpicpomakaaGreatDoor

/- The walks of runes.isName, Fold, Name and of the reference's. -/
set_option linter.unusedSimpArgs false
set_option linter.unusedVariables false
set_option maxRecDepth 100000
namespace Go.Proofs.YtbnddpicpomakaaGreatDoor
set_option linter.unusedSimpArgs false
open Go.RowKit

def byteN (s : ByteArray) (i : Nat) : Nat := (bytesU s).getD i 0

theorem byteN_at (s : ByteArray) (i : Nat) (h : i < s.size) : byteN s i = (s[i]'h).toNat := by
  unfold byteN
  rw [List.getD_eq_getElem?_getD, List.getElem?_eq_getElem (by rw [bytesU_len]; exact h)]
  simp [bytesU]; rfl

/-- May the byte stand at this place of a name? -/
def okN (i c : Nat) : Bool := classZ (c : Int) == 2 || (classZ (c : Int) == 3 && i != 0)
def nameB (s : ByteArray) : Bool := decide (0 < s.size) && (List.range s.size).all fun i => okN i (byteN s i)

theorem nameB_true {s : ByteArray} : nameB s = true ↔ 0 < s.size ∧ ∀ i, i < s.size → okN i (byteN s i) = true := by
  unfold nameB
  rw [Bool.and_eq_true, decide_eq_true_iff, List.all_eq_true]
  simp

theorem nameB_false {s : ByteArray} {i : Nat} (h : i < s.size) (hb : okN i (byteN s i) = false) : nameB s = false := by
  rw [Bool.eq_false_iff]
  intro hn
  have := (nameB_true.1 hn).2 i h
  rw [hb] at this; cases this

theorem class_high {c : Int} (h : 127 ≤ c) : classZ c = 0 := class_of c 0 (by omega)

set_option maxHeartbeats 2000000 in
theorem isName_any (s : ByteArray) (w : World) (hs : s.size ≤ 1000000) :
    Calls Tryz.prog 112 #[.string s] w fun e w' => e = .returned (.bool (nameB s)) ∧ Below w.heap.size w w' := by
  go_enter Tryz.func112, Tryz.ntmps112
  go_wp2
  go_loopw [] (fun wr => ∃ pos : Nat, wr = w.iter s pos ∧ pos ≤ s.size ∧ Hid (∀ i, i < pos → okN i (byteN s i) = true)) (fun wr => s.size - wr.iterPos w.heap.size)
  case atStart => exact ⟨0, rfl, by omega, by simp [Hid]⟩
  case round =>
    obtain ⟨pos, rfl, hpos, HI⟩ := hrel
    have HBE : Hid (∀ q, Below w.heap.size w (w.iter s q)) := fun q => (Below.refl _ w).alloc (Nat.le_refl _) _
    by_cases hp : pos < s.size
    · have hnx : ∀ ty, (Instr.next (.pointer (some ⟨w.heap.size, 0, none⟩)) true ty).run Tryz.prog (w.iter s pos) = _ := fun ty => run_next_any w s pos ty hp
      have hB := byteN_at s pos hp
      have hb256 := (s[pos]'hp).toNat_lt
      by_cases hasc : (s[pos]'hp).toNat < 128
      · have hdec := decode_ascii s pos hp hasc
        simp only [hdec] at hnx
        obtain ⟨c, hc⟩ : ∃ c, (s[pos]'hp).toNat = c := ⟨_, rfl⟩
        rw [hc] at hnx hB hasc
        have HB := Lib.hid hB
        have HCl := Lib.hid (fun W => Class_any (c : Int) W)
        obtain ⟨k, hk⟩ : ∃ k, classZ (c : Int) = k := ⟨_, rfl⟩
        rw [hk] at HCl
        have hok : okN pos c = (k == 2 || (k == 3 && pos != 0)) := by unfold okN; rw [hk]
        have HOk := Lib.hid hok
        clear hdec hB hb256 hc hk hok
        go_wp2_with fail
        refine (HCl.out _).mono ?_
        rintro e w1 ⟨rfl, rfl⟩
        clear HCl
        by_cases hgo : k = 2 ∨ (k = 3 ∧ pos ≠ 0)
        · have HI2 : Hid (∀ i, i < pos + 1 → okN i (byteN s i) = true) := by
            intro i hi
            by_cases h : i = pos
            · subst h
              rw [HB.out, HOk.out]
              rcases hgo with h | ⟨h, h'⟩ <;> simp [h]
              exact h'
            · exact HI.out i (by omega)
          clear HI HOk HB
          by_cases h2 : k = 2
          · subst h2
            clear hgo
            go_wp2
            go_roundw
            case rel => exact ⟨pos + 1, rfl, by omega, HI2⟩
            case measure => simp; omega
          · obtain ⟨rfl, h0⟩ : k = 3 ∧ pos ≠ 0 := by
              rcases hgo with h | h
              · exact absurd h h2
              · exact h
            have q0 : ((pos : Int) == 0) = false := by simp; omega
            clear hgo h2
            go_wp2
            go_roundw
            case rel => exact ⟨pos + 1, rfl, by omega, HI2⟩
            case measure => simp; omega
        · have HN : Hid (nameB s = false) := nameB_false hp (by
            rw [HB.out, HOk.out]
            rw [Bool.eq_false_iff]
            intro h
            simp only [Bool.or_eq_true, Bool.and_eq_true, beq_iff_eq, bne_iff_ne, ne_eq] at h
            exact hgo h)
          have hways : (k ≠ 2 ∧ k ≠ 3) ∨ (k = 3 ∧ pos = 0) := by omega
          clear HI HOk HB hgo
          rcases hways with ⟨h2, h3⟩ | ⟨rfl, rfl⟩
          · have q2 : (k != 2) = true := by simp [h2]
            have q3 : (k != 3) = true := by simp [h3]
            go_wp2
            go_ret
            exact ⟨by rw [HN.out]; rfl, HBE.out _⟩
          · go_wp2
            go_ret
            exact ⟨by rw [HN.out]; rfl, HBE.out _⟩
      · have hhi := decode_high s pos hp (by omega)
        have HN : Hid (nameB s = false) := nameB_false hp (by
          rw [hB]
          unfold okN
          rw [class_high (by omega)]; rfl)
        obtain ⟨r, hr⟩ : ∃ r, (Utf8.decode s pos).1 = r := ⟨_, rfl⟩
        obtain ⟨z, hz⟩ : ∃ z, (Utf8.decode s pos).2 = z := ⟨_, rfl⟩
        rw [hr, hz] at hnx
        rw [hr] at hhi
        have HCl := Lib.hid (fun W => Class_any (r : Int) W)
        rw [class_high (by omega)] at HCl
        clear hB hb256 hr hz HI hasc hhi
        go_wp2_with fail
        refine (HCl.out _).mono ?_
        rintro e w1 ⟨rfl, rfl⟩
        clear HCl
        go_wp2
        go_ret
        exact ⟨by rw [HN.out]; rfl, HBE.out _⟩
    · have hnx : ∀ ty, (Instr.next (.pointer (some ⟨w.heap.size, 0, none⟩)) true ty).run Tryz.prog (w.iter s pos) = _ := fun ty => run_next_end w s pos ty hp
      by_cases h0 : s.size = 0
      · have HN : Hid (nameB s = false) := by unfold nameB; simp [h0, Hid]
        have he : s.toList = [] := by rw [ByteArray.toList_eq, Array.size_eq_zero_iff.1 (show s.data.size = 0 from h0)]
        clear HI h0
        go_wp2
        go_ret
        exact ⟨by rw [HN.out]; rfl, HBE.out _⟩
      · have HN : Hid (nameB s = true) := nameB_true.2 ⟨by omega, fun i hi => HI.out i (by omega)⟩
        have he : (s.toList == []) = false := by
          rw [ByteArray.toList_eq]
          rw [Bool.eq_false_iff]
          intro h
          rw [beq_iff_eq] at h
          apply h0
          have := congrArg List.length h
          simpa using this
        have he2 : ¬ s.toList = [] := by simpa using he
        have he3 : (!s.toList.isEmpty) = true := by simpa using he2
        clear HI h0
        go_wp2
        go_ret
        exact ⟨by rw [HN.out]; rfl, HBE.out _⟩
end Go.Proofs.YtbnddpicpomakaaGreatDoor

/- The walks of runes.Fold, runes.Name and of the reference's. -/
set_option linter.unusedSimpArgs false
set_option linter.unusedVariables false
set_option maxRecDepth 100000
namespace Go.Proofs.YtbnddpicpomakaaGreatDoor
set_option linter.unusedSimpArgs false
open Go.RowKit

def foldC (c : Nat) : Nat := if 65 ≤ c ∧ c ≤ 90 then c + 32 else c
def foldS (s : ByteArray) : ByteArray := strN ((bytesU s).map foldC)

theorem foldC_lt {c : Nat} (h : c < 256) : foldC c < 256 := by unfold foldC; split <;> omega

theorem conv_bytesU (s : ByteArray) (w : World) : ∃ W1 cap, (convert 9 99 (.string s)).run Tryz.prog w = .ok (.slice (some ⟨w.heap.size, 0, none⟩) s.size cap) W1 ∧ Below w.heap.size w W1 ∧ W1.heap.size = w.heap.size + 1 ∧
    ∀ (j : Nat), j < s.size → W1.cell? ⟨w.heap.size, j, none⟩ = some (.int .u8 (byteN s j : Int)) ∧ W1.frozen? ⟨w.heap.size, j, none⟩ = false := by
  refine ⟨_, _, Lib.run_convert_string_bytes w 9 99 5 s Tryz.underlying9 Tryz.underlying99 Tryz.underlying5, ⟨rfl, rfl, rfl, ?_, fun k hk => Lib.bytesWorld_at_old w _ s k hk⟩, Lib.bytesWorld_size w _ s, ?_⟩
  · rw [Lib.bytesWorld_size]; omega
  · intro j hj
    refine ⟨?_, ?_⟩
    · rw [Lib.bytesWorld_cell w _ s j hj]
      have : byteN s j = (s.data.toList.getD j 0).toNat := by
        unfold byteN bytesU
        rw [getD_map]
      rw [this]
    · unfold World.frozen?
      simp only [Lib.bytesWorld_at_new]
      have : j < (Lib.bytesCells w 5 s).size := by
        simp only [Lib.bytesCells, Array.size_append]
        simp
        have : s.data.size = s.size := rfl
        omega
      simp
      omega

/-- The row in block G while the first k bytes are folded. -/
def FoldAt (w : World) (G n k : Nat) (s : ByteArray) : Prop := ∀ j, j < n → w.cell? ⟨G, j, none⟩ = some (.int .u8 ((if j < k then foldC (byteN s j) else byteN s j : Nat) : Int)) ∧ w.frozen? ⟨G, j, none⟩ = false

theorem FoldAt.keep {w : World} {G n k : Nat} {s : ByteArray} (h : FoldAt w G n k s) (hf : foldC (byteN s k) = byteN s k) : FoldAt w G n (k + 1) s := by
  intro j hj
  refine ⟨?_, (h j hj).2⟩
  rw [(h j hj).1]
  by_cases h1 : j < k
  · rw [if_pos h1, if_pos (by omega)]
  · by_cases h2 : j = k
    · subst h2; rw [if_neg (by omega), if_pos (by omega), hf]
    · rw [if_neg h1, if_neg (by omega)]

theorem FoldAt.set {w : World} {G n k : Nat} {s : ByteArray} (h : FoldAt w G n k s) (hk : k < n) (v : Int) (hv : v = (foldC (byteN s k) : Int)) : FoldAt (w.setCell ⟨G, k, none⟩ (.int .u8 v)) G n (k + 1) s := by
  subst hv
  intro j hj
  refine ⟨?_, by rw [World.frozen?_setCell]; exact (h j hj).2⟩
  by_cases h2 : j = k
  · subst h2
    rw [World.cell?_setCell_same _ _ _ (h j hj).1, if_pos (by omega)]
  · rw [World.cell?_setCell_other _ _ _ _ (by simp [Ne.symm h2]), (h j hj).1]
    by_cases h1 : j < k
    · rw [if_pos h1, if_pos (by omega)]
    · rw [if_neg h1, if_neg (by omega)]

theorem FoldAt.bs {w : World} {G n : Nat} {s : ByteArray} (h : FoldAt w G n n s) (hn : n = s.size) (hG : G < w.heap.size) : Bs w.heap.size w (some ⟨G, 0, none⟩) ((bytesU s).map foldC) := by
  refine ⟨?_, .inr ⟨G, 0, rfl, hG, fun i c hi => ?_⟩⟩
  · intro c hc
    obtain ⟨d, hd, rfl⟩ := List.mem_map.1 hc
    exact foldC_lt (bytesU_lt s d hd)
  · rw [List.getElem?_map] at hi
    have hil : i < (bytesU s).length := by
      by_cases hil : i < (bytesU s).length
      · exact hil
      · rw [List.getElem?_eq_none (by omega)] at hi; simp at hi
    rw [List.getElem?_eq_getElem hil] at hi
    simp only [Option.map_some, Option.some.injEq] at hi
    rw [bytesU_len] at hil
    rw [Nat.zero_add, (h i (by omega)).1, if_pos (by omega), ← hi]
    have : byteN s i = (bytesU s)[i]'(by rw [bytesU_len]; exact hil) := by
      unfold byteN
      rw [List.getD_eq_getElem?_getD, List.getElem?_eq_getElem (by rw [bytesU_len]; exact hil)]; rfl
    rw [this]

set_option maxHeartbeats 2000000 in
theorem Fold_any (s : ByteArray) (w : World) (hs : s.size ≤ 1000000) :
    Calls Tryz.prog 113 #[.string s] w fun e w' => e = .returned (.string (foldS s)) ∧ Below w.heap.size w w' := by
  obtain ⟨W1, cap, hcv, hb1, hsz1, hcell⟩ := conv_bytesU s w
  have hF : FoldAt W1 w.heap.size s.size 0 s := fun j hj => by
    obtain ⟨h1, h2⟩ := hcell j hj
    exact ⟨by rw [h1, if_neg (by omega)], h2⟩
  have HF0 := Lib.hid hF
  have hz1 : w.heap.size < W1.heap.size := by omega
  obtain ⟨n, hn⟩ : ∃ n, n = s.size := ⟨_, rfl⟩
  have HN := Lib.hid hn
  rw [← hn] at hcv HF0
  have hn1 : n ≤ 1000000 := by omega
  clear hcell hF hsz1 hn
  go_enter Tryz.func113, Tryz.ntmps113
  go_wp2
  clear hcv
  go_loopw [10] (fun i wr => ∃ k : Nat, k ≤ n ∧ i = .int .i64 k ∧ Hid (FoldAt wr w.heap.size n k s) ∧ LaterB w.heap.size W1 wr) (fun i _ => n - (intOf i).toNat)
  case atStart => exact ⟨0, by omega, rfl, HF0.out, LaterB.refl _ _⟩
  case round =>
    obtain ⟨k, hk, rfl, HF, hlb⟩ := hrel
    have hbw : Below w.heap.size w wr := hb1.trans ⟨hlb.os, hlb.tape, hlb.output, hlb.size, fun j hj => hlb.block j (by omega) (by omega)⟩
    by_cases hlt : k < n
    · obtain ⟨hc, hfz⟩ := HF.out k hlt
      rw [if_neg (by omega)] at hc
      have hb256 : byteN s k < 256 := by unfold byteN; exact getD_lt _ (bytesU_lt s) k
      have HK := Lib.hid (fun h => HF.out.keep h)
      have HS := Lib.hid (fun v h => HF.out.set hlt v h)
      obtain ⟨c, hcc⟩ : ∃ c, byteN s k = c := ⟨_, rfl⟩
      rw [hcc] at hc hb256 HK HS
      clear hcc HF
      by_cases hcap : 65 ≤ c ∧ c ≤ 90
      · obtain ⟨h1, h2⟩ := hcap
        have q1 : decide ((65 : Int) ≤ (c : Int)) = true := by simp; omega
        have q2 : decide ((c : Int) ≤ 90) = true := by simp; omega
        have hfc : foldC c = c + 32 := by unfold foldC; rw [if_pos ⟨h1, h2⟩]
        have HFC := Lib.hid hfc
        clear hfc
        go_wp2
        go_roundw
        case rel => exact ⟨k + 1, by omega, by go_num, HS.out _ (by rw [HFC.out]; omega), hlb.trans (LaterB.setCell _)⟩
        case measure => simp [intOf]; omega
      · have hfc : foldC c = c := by unfold foldC; rw [if_neg hcap]
        have HK2 := Lib.hid (HK.out hfc)
        clear hfc HK HS
        by_cases h1 : 65 ≤ c
        · have q1 : decide ((65 : Int) ≤ (c : Int)) = true := by simp; omega
          have q2 : decide ((c : Int) ≤ 90) = false := by simp; omega
          go_wp2
          go_roundw
          case rel => exact ⟨k + 1, by omega, by go_num, HK2.out, hlb⟩
          case measure => simp [intOf]; omega
        · have q1 : decide ((65 : Int) ≤ (c : Int)) = false := by simp; omega
          go_wp2
          go_roundw
          case rel => exact ⟨k + 1, by omega, by go_num, HK2.out, hlb⟩
          case measure => simp [intOf]; omega
    · obtain rfl : k = n := by omega
      have hB := HF.out.bs HN.out (by have := hlb.size; omega)
      have hcv := hB.conv (P := Tryz.prog) 99 5 Tryz.underlying99 Tryz.underlying5 9 Tryz.underlying9 k cap (by rw [List.length_map, bytesU_len]; exact HN.out)
      have HFS : Hid (strN ((bytesU s).map foldC) = foldS s) := rfl
      rw [HFS.out] at hcv
      clear hB HF HF0
      go_wp2
      go_ret
      exact ⟨rfl, hbw⟩

theorem map_takeF (l : List Nat) (k : Nat) (hk : k < l.length) : (l.take (k + 1)).map foldC = (l.take k).map foldC ++ [foldC l[k]] := by
  rw [List.take_add_one, List.getElem?_eq_getElem hk, List.map_append]; rfl

set_option maxRecDepth 1000000 in
set_option maxHeartbeats 4000000 in
theorem rFold_any (s : ByteArray) (w : World) (hs : s.size ≤ 1000000) :
    Calls Tryz.prog 118 #[.string s] w fun e w' => e = .returned (.string (foldS s)) ∧ Below w.heap.size w w' := by
  obtain ⟨i0, hi, hz0, hz1, hz2⟩ := info_parts Tryz.info5
  go_enter Tryz.func118, Tryz.ntmps118
  go_wp2
  go_loopw [3, 4] (fun v i wr => ∃ k : Nat, k ≤ s.size ∧ i = .int .i64 k ∧ OwnB wr w.heap.size 5 v (((bytesU s).take k).map foldC) ∧ Below w.heap.size w wr) (fun _ i _ => s.size - (intOf i).toNat)
  case atStart => exact ⟨0, by omega, rfl, OwnB.nil _ _ _, Below.refl _ _⟩
  case round =>
    obtain ⟨k, hk, rfl, hown, hb⟩ := hrel
    have hsz := hb.size
    by_cases hlt : k < s.size
    · have hkl : k < (bytesU s).length := by rw [bytesU_len]; exact hlt
      have hx : (bytesU s)[k] = (s[k]'hlt).toNat := by simp [bytesU]; rfl
      have hm := map_takeF (bytesU s) k hkl
      rw [hx] at hm
      have HM := Lib.hid hm
      have hc256 := (s[k]'hlt).toNat_lt
      have hll : (((bytesU s).take k).map foldC).length < 100000000000000 := by
        have := List.length_take_le k (bytesU s)
        rw [List.length_map]; omega
      clear hx hm
      by_cases hcap : 65 ≤ (s[k]'hlt).toNat ∧ (s[k]'hlt).toNat ≤ 90
      · obtain ⟨h1, h2⟩ := hcap
        have hfc : foldC (s[k]'hlt).toNat = (s[k]'hlt).toNat + 32 := by unfold foldC; rw [if_pos ⟨h1, h2⟩]
        have HFC := Lib.hid hfc
        clear hfc
        go_wp2_with (at_builtin; refine wpList_app1 rfl _ _ 99 rfl w.heap.size 5 i0 Tryz.underlying99 hi hz0 hz1 hz2 _ _ wr hown rfl ((s[k]'hlt).toNat + 32) (by omega) _ (by push_cast; first | rfl | omega) rfl hll hsz ?_; intro v' w1 hown' hb' hsz')
        go_roundw
        case rel => exact ⟨k + 1, by omega, by go_num, by rw [HM.out, HFC.out]; exact hown', hb.trans hb'⟩
        case measure => simp [intOf]; omega
      · have hfc : foldC (s[k]'hlt).toNat = (s[k]'hlt).toNat := by unfold foldC; rw [if_neg hcap]
        have HFC := Lib.hid hfc
        have hways : (s[k]'hlt).toNat < 65 ∨ (65 ≤ (s[k]'hlt).toNat ∧ 90 < (s[k]'hlt).toNat) := by omega
        clear hfc hcap
        rcases hways with h1 | ⟨h1, h2⟩
        all_goals
          go_wp2_with (at_builtin; refine wpList_app1 rfl _ _ 99 rfl w.heap.size 5 i0 Tryz.underlying99 hi hz0 hz1 hz2 _ _ wr hown rfl (s[k]'hlt).toNat (by omega) _ rfl rfl hll hsz ?_; intro v' w1 hown' hb' hsz')
          go_roundw
          case rel => exact ⟨k + 1, by omega, by go_num, by rw [HM.out, HFC.out]; exact hown', hb.trans hb'⟩
          case measure => simp [intOf]; omega
    · have hall : (bytesU s).take k = bytesU s := List.take_of_length_le (by rw [bytesU_len]; omega)
      rw [hall] at hown
      obtain ⟨a, cap, rfl, hcap, hB, _⟩ := hown.slice
      have hcv := hB.conv (P := Tryz.prog) 99 5 Tryz.underlying99 Tryz.underlying5 9 Tryz.underlying9 _ cap rfl
      have HFS : Hid (strN ((bytesU s).map foldC) = foldS s) := rfl
      rw [HFS.out] at hcv
      obtain ⟨n, hn⟩ : ∃ n, ((bytesU s).map foldC).length = n := ⟨_, rfl⟩
      rw [hn] at hcv ⊢
      clear hB hown hall hn
      go_wp2
      go_ret
      exact ⟨rfl, hb⟩

/-- What Name answers. -/
def nameV (s : ByteArray) : ByteArray × Int := if 20 < s.size then (⟨#[]⟩, 2) else if nameB s = false then (⟨#[]⟩, 3) else (foldS s, 0)

set_option maxHeartbeats 1000000 in
theorem Name_any (s : ByteArray) (w : World) (hs : s.size ≤ 140737488351232) :
    Calls Tryz.prog 95 #[.string s] w fun e w' => e = .returned (.tuple #[.string (nameV s).1, .int .i64 (nameV s).2]) ∧ Below w.heap.size w w' := by
  by_cases hl : 20 < s.size
  · have HN : Hid (nameV s = (⟨#[]⟩, 2)) := by unfold nameV; rw [if_pos hl]; rfl
    go_enter Tryz.func95, Tryz.ntmps95
    go_wp2
    go_ret2
    exact ⟨by rw [HN.out]; rfl, Below.refl _ _⟩
  · have ql : decide ((20 : Int) < (s.size : Int)) = false := by simp; omega
    have HI := Lib.hid (fun W => isName_any s W (by omega))
    have HF := Lib.hid (fun W => Fold_any s W (by omega))
    have hN : nameV s = if nameB s = false then (⟨#[]⟩, 3) else (foldS s, 0) := by unfold nameV; rw [if_neg hl]
    obtain ⟨b, hb⟩ : ∃ b, nameB s = b := ⟨_, rfl⟩
    rw [hb] at HI hN
    obtain ⟨f, hf⟩ : ∃ f, foldS s = f := ⟨_, rfl⟩
    rw [hf] at HF hN
    have HN := Lib.hid hN
    clear hN hb hf hl
    go_enter Tryz.func95, Tryz.ntmps95
    go_wp2_with fail
    refine (HI.out _).mono ?_
    rintro e w1 ⟨rfl, b1⟩
    cases b with
    | false =>
      have HN2 : Hid (nameV s = (⟨#[]⟩, 3)) := by rw [HN.out]; rfl
      clear HN
      go_wp2
      go_ret2
      exact ⟨by rw [HN2.out]; rfl, b1⟩
    | true =>
      have HN2 : Hid (nameV s = (f, 0)) := by rw [HN.out]; rfl
      clear HN
      go_wp2_with fail
      refine (HF.out _).mono ?_
      rintro e w2 ⟨rfl, b2⟩
      go_wp2
      go_ret2
      exact ⟨by rw [HN2.out]; rfl, b1.trans (b2.mono b1.size)⟩
end Go.Proofs.YtbnddpicpomakaaGreatDoor

/- The mathematics of expressions: how deep and how many, which may be. -/
set_option linter.unusedSimpArgs false
set_option linter.unusedVariables false
set_option maxRecDepth 100000
namespace Go.Proofs.YtbnddpicpomakaaGreatDoor
open Go.RowKit

/-- The greatest of some numbers. -/
def maxL : List Nat → Nat
  | [] => 0
  | x :: r => max x (maxL r)
theorem maxL_le {l : List Nat} {m : Nat} : maxL l ≤ m ↔ ∀ x ∈ l, x ≤ m := by
  induction l with
  | nil => simp [maxL]
  | cons x r ih => simp only [maxL, List.mem_cons, forall_eq_or_imp, ← ih]; omega
theorem maxL_snoc (l : List Nat) (x : Nat) : maxL (l ++ [x]) = max (maxL l) x := by
  induction l with
  | nil => simp [maxL]
  | cons y r ih => simp only [List.cons_append, maxL, ih]; omega
theorem maxL_mem {l : List Nat} {x : Nat} (h : x ∈ l) : x ≤ maxL l := maxL_le.1 (Nat.le_refl _) x h

section
variable {α : Type}
def Rose.depth : Rose α → Nat
  | .mk _ args => 1 + maxL (args.attach.map fun x => Rose.depth x.1)
termination_by e => SizeOf.sizeOf e
decreasing_by exact Rose.size_arg x.2
theorem Rose.depth_eq (e : Rose α) : e.depth = 1 + maxL (e.args.map Rose.depth) := by
  obtain ⟨l, args⟩ := e
  rw [Rose.depth, Rose.args]
  congr 2
  rw [List.attach_map_val (f := Rose.depth)]
theorem Rose.depth_pos (e : Rose α) : 1 ≤ e.depth := by rw [Rose.depth_eq]; omega
theorem Rose.depth_arg {e x : Rose α} (h : x ∈ e.args) : x.depth < e.depth := by
  rw [Rose.depth_eq e]
  have := maxL_mem (List.mem_map.2 ⟨x, h, rfl⟩ : x.depth ∈ e.args.map Rose.depth)
  omega
theorem Rose.depth_le {e : Rose α} {n : Nat} : e.depth ≤ n + 1 ↔ ∀ x ∈ e.args, x.depth ≤ n := by
  rw [Rose.depth_eq]
  have := @maxL_le (e.args.map Rose.depth) n
  simp only [List.mem_map, forall_exists_index, and_imp, forall_apply_eq_imp_iff₂] at this
  rw [← this]; omega

def Rose.count : Rose α → Nat
  | .mk _ args => 1 + (args.attach.map fun x => Rose.count x.1).sum
termination_by e => SizeOf.sizeOf e
decreasing_by exact Rose.size_arg x.2
theorem Rose.count_eq (e : Rose α) : e.count = 1 + (e.args.map Rose.count).sum := by
  obtain ⟨l, args⟩ := e
  rw [Rose.count, Rose.args]
  congr 2
  rw [List.attach_map_val (f := Rose.count)]
theorem Rose.count_pos (e : Rose α) : 1 ≤ e.count := by rw [Rose.count_eq]; omega

/-- Do all labels do, each with the number of its arguments? -/
def Rose.allB (p : α → Nat → Bool) : Rose α → Bool
  | .mk l args => p l args.length && args.attach.all fun x => Rose.allB p x.1
termination_by e => SizeOf.sizeOf e
decreasing_by exact Rose.size_arg x.2
theorem Rose.allB_eq (p : α → Nat → Bool) (e : Rose α) : e.allB p = (p e.lab e.args.length && e.args.all (Rose.allB p)) := by
  obtain ⟨l, args⟩ := e
  rw [Rose.allB, Rose.args, Rose.lab]
  congr 1
  rw [Bool.eq_iff_iff, List.all_eq_true, List.all_eq_true]
  simp

theorem sum_le_max {l : List Nat} : maxL l ≤ l.sum := by
  induction l with
  | nil => simp [maxL]
  | cons x r ih => simp only [maxL, List.sum_cons]; omega

theorem Rose.depth_le_count (e : Rose α) : e.depth ≤ e.count := by
  induction e using Rose.ind with
  | h l args ih =>
    rw [Rose.depth_eq, Rose.count_eq]
    have h1 : maxL ((Rose.mk l args).args.map Rose.depth) ≤ ((Rose.mk l args).args.map Rose.count).sum := by
      refine Nat.le_trans ?_ sum_le_max
      rw [maxL_le]
      intro x hx
      obtain ⟨y, hy, rfl⟩ := List.mem_map.1 hx
      exact Nat.le_trans (ih y hy) (maxL_mem (List.mem_map.2 ⟨y, hy, rfl⟩))
    omega

/-- All labels do, and no more than so many levels. -/
def Rose.fits (p : α → Nat → Bool) : Nat → Rose α → Bool
  | 0, _ => false
  | n + 1, e => p e.lab e.args.length && e.args.all (Rose.fits p n)
theorem Rose.fits_eq (p : α → Nat → Bool) : ∀ (n : Nat) (e : Rose α), e.fits p n = (e.allB p && decide (e.depth ≤ n))
  | 0, e => by have := e.depth_pos; simp [Rose.fits]; omega
  | n + 1, e => by
    rw [Rose.fits, Rose.allB_eq, Bool.eq_iff_iff]
    simp only [Bool.and_eq_true, List.all_eq_true, decide_eq_true_iff, Rose.depth_le, Rose.fits_eq p n]
    constructor
    · rintro ⟨h1, h2⟩; exact ⟨⟨h1, fun x hx => (h2 x hx).1⟩, fun x hx => (h2 x hx).2⟩
    · rintro ⟨⟨h1, h2⟩, h3⟩; exact ⟨h1, fun x hx => ⟨h2 x hx, h3 x hx⟩⟩
end

/-- Is an expression too much for a statement? -/
def Lb.big (l : Lb) (n : Nat) : Bool := decide (6 < n) || decide (100 < l.nm.size + l.tb.size + l.op.size) || decide (200 < l.v.s.size)
def greatX : Nat → Ex → Bool
  | 0, _ => true
  | n + 1, e => e.lab.big e.args.length || e.args.any (greatX n)
theorem greatX_fits : ∀ (n : Nat) (e : Ex), greatX n e = !e.fits (fun l k => !l.big k) n
  | 0, e => rfl
  | n + 1, e => by
    rw [greatX, Rose.fits, Bool.eq_iff_iff]
    have : e.args.any (greatX n) = !e.args.all (Rose.fits (fun l k => !l.big k) n) := by
      rw [List.any_eq_not_all_not]
      congr 2
      funext x
      rw [greatX_fits n x]; simp
    rw [this]
    simp

/-- A string's bytes. -/
def sB (l : List Nat) : ByteArray := strN l

def resL : List (List Nat) := [
  [97, 110, 100],
  [97, 115],
  [97, 115, 99],
  [98, 101, 103, 105, 110],
  [98, 101, 116, 119, 101, 101, 110],
  [98, 108, 111, 98],
  [98, 121],
  [99, 111, 109, 109, 105, 116],
  [99, 114, 101, 97, 116, 101],
  [100, 101, 108, 101, 116, 101],
  [100, 101, 115, 99],
  [100, 105, 115, 116, 105, 110, 99, 116],
  [100, 114, 111, 112],
  [102, 111, 114],
  [102, 114, 111, 109],
  [103, 114, 111, 117, 112],
  [105, 110, 100, 101, 120],
  [105, 110, 115, 101, 114, 116],
  [105, 110, 116],
  [105, 110, 116, 111],
  [105, 115],
  [106, 111, 105, 110],
  [107, 101, 121],
  [108, 105, 107, 101],
  [108, 105, 109, 105, 116],
  [110, 111, 116],
  [110, 117, 108, 108],
  [111, 102],
  [111, 110],
  [111, 114],
  [111, 114, 100, 101, 114],
  [112, 101, 114, 105, 111, 100],
  [112, 111, 114, 116, 105, 111, 110],
  [112, 114, 105, 109, 97, 114, 121],
  [112, 114, 117, 110, 101],
  [114, 101, 108, 101, 97, 115, 101],
  [114, 111, 108, 108, 98, 97, 99, 107],
  [115, 97, 118, 101, 112, 111, 105, 110, 116],
  [115, 101, 108, 101, 99, 116],
  [115, 101, 116],
  [115, 121, 115, 116, 101, 109, 95, 116, 105, 109, 101],
  [116, 97, 98, 108, 101],
  [116, 101, 120, 116],
  [116, 111],
  [117, 112, 100, 97, 116, 101],
  [118, 97, 108, 117, 101, 115],
  [118, 101, 114, 115, 105, 111, 110, 101, 100],
  [119, 104, 101, 114, 101],
  [119, 105, 116, 104, 111, 117, 116]]
/-- A reserved word? -/
def resB (s : ByteArray) : Bool := resL.any fun l => s.toList == l.map UInt8.ofNat
/-- The name of a column or a table? -/
def isX (s : ByteArray) : Bool := decide ((nameV s).2 = 0) && decide ((nameV s).1 = s) && !resB s
def binL : List (List Nat) := [[111, 114], [97, 110, 100], [61], [60, 62], [60], [60, 61], [62], [62, 61], [108, 105, 107, 101], [124, 124], [43], [45], [42], [47], [37]]
def inL (L : List (List Nat)) (s : ByteArray) : Bool := L.any fun l => s.toList == l.map UInt8.ofNat
def unL : List (List Nat) := [[45], [110, 111, 116]]
def nullL : List (List Nat) := [[105, 115, 32, 110, 117, 108, 108], [105, 115, 32, 110, 111, 116, 32, 110, 117, 108, 108]]
def aggL : List (List Nat) := [[99, 111, 117, 110, 116], [115, 117, 109], [109, 105, 110], [109, 97, 120]]
def countL : List (List Nat) := [[99, 111, 117, 110, 116]]
def callL : List (List Nat) := [[111, 118, 101, 114, 108, 97, 112, 115], [99, 111, 110, 116, 97, 105, 110, 115]]
def lenL : List (List Nat) := [[108, 101, 110, 103, 116, 104]]
/-- Is there such an operation? -/
def takesB (k : Int) (op : ByteArray) (n : Nat) : Bool :=
  if k = 3 then decide (n = 1) && inL unL op
  else if k = 4 then decide (n = 2) && inL binL op
  else if k = 5 then decide (n = 1) && inL nullL op
  else if k = 6 then (inL aggL op && decide (n = 1)) || (inL countL op && decide (n = 0))
  else if k = 7 then (inL callL op && decide (n = 4)) || (inL lenL op && decide (n = 1))
  else false
/-- Is a value without anything? -/
def Vl.zeroB (v : Vl) : Bool := ((v.k : Int) == 0) && ((v.n == 0) && v.s.toList.isEmpty)
/-- May a label be, with so many arguments? -/
def Lb.ok (l : Lb) (n : Nat) : Bool :=
  if l.kd = 1 then l.v.right && decide (0 ≤ l.v.n) && l.tb.toList.isEmpty && l.nm.toList.isEmpty && l.op.toList.isEmpty && ((n : Int) == 0)
  else if l.kd = 2 then isX l.nm && (l.tb.toList.isEmpty || isX l.tb) && l.v.zeroB && l.op.toList.isEmpty && ((n : Int) == 0)
  else takesB l.kd l.op n && l.v.zeroB && l.tb.toList.isEmpty && l.nm.toList.isEmpty
/-- Right, with so many levels. -/
def rightX (n : Nat) (e : Ex) : Bool := e.fits Lb.ok n
theorem rightX_eq (n : Nat) (e : Ex) : rightX n e = (e.allB Lb.ok && decide (e.depth ≤ n)) := Rose.fits_eq _ n e
end Go.Proofs.YtbnddpicpomakaaGreatDoor

/- The walks of layer 2's small functions. -/
set_option linter.unusedSimpArgs false
set_option linter.unusedVariables false
set_option maxRecDepth 100000
namespace Go.Proofs.YtbnddpicpomakaaGreatDoor
open Go.RowKit

theorem ret_b {a b : Bool} (h : a = b) : Ending.returned (.bool a) = .returned (.bool b) := by rw [h]

theorem Below.box (w : World) (o : Obj) : Below w.heap.size w (w.alloc o) := (Below.refl _ _).alloc (Nat.le_refl _) _

theorem null_any (w : World) : Calls Tryz.prog 123 #[] w fun e w' => e = .returned (.agg #[.int .u8 0, .int .i64 0, .string ⟨#[]⟩]) ∧ Below w.heap.size w w' := by
  go_enter Tryz.func123, Tryz.ntmps123
  go_wp2
  exact bodyPost_ret (v := .agg #[.int .u8 0, .int .i64 0, .string ⟨#[]⟩]) (by simp [results, Tryz.results123, go_sem]) rfl ⟨rfl, Below.box _ _⟩

theorem whole_any (n : Int) (w : World) : Calls Tryz.prog 124 #[.int .i64 n] w fun e w' => e = .returned (.agg #[.int .u8 1, .int .i64 n, .string ⟨#[]⟩]) ∧ Below w.heap.size w w' := by
  go_enter Tryz.func124, Tryz.ntmps124
  go_wp2
  exact bodyPost_ret (v := .agg #[.int .u8 1, .int .i64 n, .string ⟨#[]⟩]) (by simp [results, Tryz.results124, go_sem]) rfl ⟨rfl, Below.box _ _⟩

theorem kinds (k : Nat) : k = 0 ∨ k = 1 ∨ k = 2 ∨ k = 3 ∨ 3 < k := by omega

theorem right_big {k : Nat} (n : Int) (s : ByteArray) (hk : 3 < k) : Vl.right ⟨k, n, s⟩ = false := by
  unfold Vl.right
  rw [if_neg (by simp only; omega), if_neg (by simp only; omega), if_neg (by simp only; omega)]

theorem rright_any (k : Nat) (n : Int) (s : ByteArray) (w : World) : Calls Tryz.prog 77 #[.agg #[.int .u8 k, .int .i64 n, .string s]] w fun e w' => e = .returned (.bool (Vl.right ⟨k, n, s⟩)) ∧ Below w.heap.size w w' := by
  rcases kinds k with rfl | rfl | rfl | rfl | hk
  all_goals
    go_enter Tryz.func77, Tryz.ntmps77
    go_wp2
    all_goals
      go_ret
      exact ⟨ret_b (by first | (rw [right_big _ _ hk]; done) | (rw [right_big _ _ hk]; simp; omega) | (rw [Bool.eq_iff_iff]; simp [Vl.right, *])), Below.box _ _⟩
end Go.Proofs.YtbnddpicpomakaaGreatDoor
