/- The reference's reading of one code point: plain mathematics. -/
import Derived.Test.YtkhcnfeklmbplaaDoorUDec
namespace Go.Proofs.YtkhcnfeklmbplaaDoor
set_option linter.unusedSimpArgs false

def chkP (z lst v : Nat) : Nat × Nat := if v < lst ∨ 1114111 < v ∨ (55296 ≤ v ∧ v ≤ 57343) then (0, 0) else (v, z)

def finP (l : List Nat) (z lst : Nat) : Nat → Nat → Nat → Nat × Nat
  | 0, _, v => chkP z lst v
  | f + 1, k, v => if l.getD k 0 < 128 ∨ 192 ≤ l.getD k 0 then (0, 0) else finP l z lst f (k + 1) (64 * v + l.getD k 0 - 128)

def goP (l : List Nat) (z v0 lst : Nat) : Nat × Nat := if l.length < z then (0, 0) else finP l z lst (z - 1) 1 v0

/-- What the reference's point answers. -/
def refP (l : List Nat) : Nat × Nat :=
  if l.getD 0 0 < 128 then (l.getD 0 0, 1)
  else if 192 ≤ l.getD 0 0 ∧ l.getD 0 0 < 224 then goP l 2 (l.getD 0 0 - 192) 128
  else if 224 ≤ l.getD 0 0 ∧ l.getD 0 0 < 240 then goP l 3 (l.getD 0 0 - 224) 2048
  else if 240 ≤ l.getD 0 0 ∧ l.getD 0 0 < 248 then goP l 4 (l.getD 0 0 - 240) 65536
  else (0, 0)

set_option maxHeartbeats 4000000 in
theorem refP_hd (l : List Nat) (h256 : ∀ c ∈ l, c < 256) (hne : l ≠ []) : refP l = if hd l = (65533, 1) then (0, 0) else hd l := by
  have k0 := getD_lt l h256 0
  have k1 := getD_lt l h256 1
  have k2 := getD_lt l h256 2
  have k3 := getD_lt l h256 3
  have hl : 0 < l.length := List.length_pos_iff.2 hne
  unfold refP goP hd
  simp only [finP, chkP, Nat.reduceSub, Nat.reduceAdd]
  generalize l.getD 0 0 = a at *
  generalize l.getD 1 0 = b at *
  generalize l.getD 2 0 = c at *
  generalize l.getD 3 0 = d at *
  generalize l.length = n at *
  rcases Lib.decodeN_shape n a b c d with ⟨e1, e⟩ | ⟨e1, e2, e3, e4, e⟩ | ⟨e1, e2, e3, e4, e5, e6, e⟩ | ⟨e1, e2, e3, e4, e5, e6, e7, e⟩ | e
  · rw [e, if_pos e1, if_neg (by simp; omega)]
  · rw [e, if_neg (by omega), if_pos (by omega), if_neg (by omega), if_neg (by omega), if_neg (by omega), if_neg (by simp)]
    refine Prod.ext ?_ rfl
    dsimp only
    omega
  · rw [e, if_neg (by omega), if_neg (by omega), if_pos (by omega), if_neg (by omega), if_neg (by omega), if_neg (by omega), if_neg (by omega), if_neg (by simp)]
    refine Prod.ext ?_ rfl
    dsimp only
    omega
  · rw [e, if_neg (by omega), if_neg (by omega), if_neg (by omega), if_pos (by omega), if_neg (by omega), if_neg (by omega), if_neg (by omega), if_neg (by omega), if_neg (by omega), if_neg (by simp)]
    refine Prod.ext ?_ rfl
    dsimp only
    omega
  · have e' := e
    rw [e, if_pos rfl]
    unfold Lib.decodeN at e'
    by_cases h1 : a < 128
    · rw [if_pos h1] at e'
      simp only [Prod.mk.injEq] at e'
      omega
    · rw [if_neg h1]
      rw [if_neg h1] at e'
      by_cases h2 : 192 ≤ a ∧ a < 224
      · rw [if_pos h2]
        by_cases h3 : n < 2
        · rw [if_pos h3]
        · rw [if_neg h3]
          by_cases h4 : b < 128 ∨ 192 ≤ b
          · rw [if_pos h4]
          · rw [if_neg h4]
            rw [if_pos (by omega)] at e'
            by_cases h5 : a % 32 * 64 + b % 64 ≥ 128
            · rw [if_pos h5] at e'; simp only [Prod.mk.injEq] at e'; omega
            · rw [if_pos (by omega)]
      · rw [if_neg h2]
        rw [if_neg (by omega)] at e'
        by_cases h6 : 224 ≤ a ∧ a < 240
        · rw [if_pos h6]
          by_cases h3 : n < 3
          · rw [if_pos h3]
          · rw [if_neg h3]
            by_cases h4 : b < 128 ∨ 192 ≤ b
            · rw [if_pos h4]
            · rw [if_neg h4]
              by_cases h7 : c < 128 ∨ 192 ≤ c
              · rw [if_pos h7]
              · rw [if_neg h7]
                rw [if_pos (by omega)] at e'
                by_cases h5 : a % 16 * 4096 + b % 64 * 64 + c % 64 ≥ 2048 ∧ (a % 16 * 4096 + b % 64 * 64 + c % 64 < 55296 ∨ (57344 ≤ a % 16 * 4096 + b % 64 * 64 + c % 64 ∧ a % 16 * 4096 + b % 64 * 64 + c % 64 ≤ 1114111))
                · rw [if_pos h5] at e'; simp only [Prod.mk.injEq] at e'; omega
                · rw [if_pos (by omega)]
        · rw [if_neg h6]
          rw [if_neg (by omega)] at e'
          by_cases h8 : 240 ≤ a ∧ a < 248
          · rw [if_pos h8]
            by_cases h3 : n < 4
            · rw [if_pos h3]
            · rw [if_neg h3]
              by_cases h4 : b < 128 ∨ 192 ≤ b
              · rw [if_pos h4]
              · rw [if_neg h4]
                by_cases h7 : c < 128 ∨ 192 ≤ c
                · rw [if_pos h7]
                · rw [if_neg h7]
                  by_cases h9 : d < 128 ∨ 192 ≤ d
                  · rw [if_pos h9]
                  · rw [if_neg h9]
                    rw [if_pos (by omega)] at e'
                    by_cases h5 : a % 8 * 262144 + b % 64 * 4096 + c % 64 * 64 + d % 64 ≥ 65536 ∧ (a % 8 * 262144 + b % 64 * 4096 + c % 64 * 64 + d % 64 < 55296 ∨ (57344 ≤ a % 8 * 262144 + b % 64 * 4096 + c % 64 * 64 + d % 64 ∧ a % 8 * 262144 + b % 64 * 4096 + c % 64 * 64 + d % 64 ≤ 1114111))
                    · rw [if_pos h5] at e'; simp only [Prod.mk.injEq] at e'; omega
                    · rw [if_pos (by omega)]
          · rw [if_neg h8]

theorem refP_pt (l : List Nat) (h256 : ∀ c ∈ l, c < 256) (hne : l ≠ []) : refP l = (pt l).getD (0, 0) := by
  rw [refP_hd l h256 hne]
  unfold pt
  rw [if_neg hne]
  split <;> rfl
end Go.Proofs.YtkhcnfeklmbplaaDoor
