/- Several texts of one proof, one behind the other. -/
import Derived.Test.YtbnddpicpomakaaGreatDoorHPk9
import Derived.Laws.Cover4
set_option linter.unusedSimpArgs false
set_option linter.unusedVariables false

/- Unlike expressions have unlike texts: what a text looks like, and the theorem. -/
set_option linter.unusedSimpArgs false
set_option linter.unusedVariables false
set_option maxRecDepth 100000
namespace Go.Proofs.YtbnddpicpomakaaGreatDoor
open Go.RowKit

abbrev E0 : ByteArray := ⟨#[]⟩
def LX (e : Ex) : List UInt8 := bL (textX e)
theorem size0 {s : ByteArray} (h : s.size = 0) : s = E0 := bL_nil (by
  have : (bL s).length = 0 := by simpa [bL] using h
  exact List.length_eq_zero_iff.1 this)

def okOp (kd : Int) (op : ByteArray) : Prop := (kd = 6 ∧ (inL aggL op = true ∨ inL countL op = true)) ∨ (kd = 7 ∧ (inL callL op = true ∨ inL lenL op = true))
/-- Which expressions there are. -/
inductive Sx : Ex → Prop
  | str (s) : Sx (.mk ⟨1, ⟨2, 0, s⟩, E0, E0, E0⟩ [])
  | blob (s) : Sx (.mk ⟨1, ⟨3, 0, s⟩, E0, E0, E0⟩ [])
  | null : Sx (.mk ⟨1, ⟨0, 0, E0⟩, E0, E0, E0⟩ [])
  | num (n : Nat) : Sx (.mk ⟨1, ⟨1, n, E0⟩, E0, E0, E0⟩ [])
  | col0 (nm) (hn : isX nm = true) : Sx (.mk ⟨2, vZ, E0, nm, E0⟩ [])
  | col1 (tb nm) (hn : isX nm = true) (ht : isX tb = true) : Sx (.mk ⟨2, vZ, tb, nm, E0⟩ [])
  | un (op x) (h : inL unL op = true) : Sx (.mk ⟨3, vZ, E0, E0, op⟩ [x])
  | bin (op x y) (h : inL binL op = true) : Sx (.mk ⟨4, vZ, E0, E0, op⟩ [x, y])
  | nul (op x) (h : inL nullL op = true) : Sx (.mk ⟨5, vZ, E0, E0, op⟩ [x])
  | app (kd op xs) (h : okOp kd op) : Sx (.mk ⟨kd, vZ, E0, E0, op⟩ xs)

theorem zeroB_eq {v : Vl} (h : v.zeroB = true) : v = vZ := by
  obtain ⟨k, n, s⟩ := v
  unfold Vl.zeroB at h
  simp only [Bool.and_eq_true, beq_iff_eq] at h
  obtain ⟨h1, h2, h3⟩ := h
  rw [show k = 0 by omega, h2, bL_empty h3]; rfl
theorem shape (l : Lb) (r : List Ex) (h : l.ok r.length = true) : Sx (.mk l r) := by
  obtain ⟨kd, v, tb, nm, op⟩ := l
  unfold Lb.ok at h
  simp only at h
  split at h
  · rename_i hk
    subst hk
    simp only [Bool.and_eq_true, decide_eq_true_iff, beq_iff_eq] at h
    obtain ⟨⟨⟨⟨⟨h1, h2⟩, h3⟩, h4⟩, h5⟩, h6⟩ := h
    rw [bL_empty h3, bL_empty h4, bL_empty h5, List.length_eq_zero_iff.1 (show r.length = 0 by omega)]
    obtain ⟨k, n, s⟩ := v
    unfold Vl.right at h1
    simp only at h1 h2
    split at h1
    · rename_i hk
      subst hk
      simp only [Bool.and_eq_true, decide_eq_true_iff] at h1
      rw [h1.1, size0 h1.2]
      exact .null
    · split at h1
      · rename_i hk
        subst hk
        rw [size0 (of_decide_eq_true h1)]
        obtain ⟨m, rfl⟩ := Int.eq_ofNat_of_zero_le h2
        exact .num m
      · split at h1
        · rename_i hk
          rw [of_decide_eq_true h1]
          rcases hk with rfl | rfl
          · exact .str s
          · exact .blob s
        · cases h1
  · split at h
    · rename_i hk
      subst hk
      simp only [Bool.and_eq_true, Bool.or_eq_true, beq_iff_eq] at h
      obtain ⟨⟨⟨⟨h1, h2⟩, h3⟩, h4⟩, h5⟩ := h
      rw [zeroB_eq h3, bL_empty h4, List.length_eq_zero_iff.1 (show r.length = 0 by omega)]
      rcases h2 with h2 | h2
      · rw [bL_empty h2]; exact .col0 nm h1
      · exact .col1 tb nm h1 h2
    · simp only [Bool.and_eq_true] at h
      obtain ⟨⟨⟨h1, h2⟩, h3⟩, h4⟩ := h
      rw [zeroB_eq h2, bL_empty h3, bL_empty h4]
      unfold takesB at h1
      split at h1
      · rename_i hk
        subst hk
        simp only [Bool.and_eq_true, decide_eq_true_iff] at h1
        obtain ⟨x, rfl⟩ := List.length_eq_one_iff.1 h1.1
        exact .un op x h1.2
      · split at h1
        · rename_i hk
          subst hk
          simp only [Bool.and_eq_true, decide_eq_true_iff] at h1
          obtain ⟨x, y, rfl⟩ : ∃ x y, r = [x, y] := by
            have h2 := h1.1
            rcases r with _ | ⟨x, _ | ⟨y, _ | ⟨z, t⟩⟩⟩
            · simp at h2
            · simp at h2
            · exact ⟨x, y, rfl⟩
            · simp at h2
          exact .bin op x y h1.2
        · split at h1
          · rename_i hk
            subst hk
            simp only [Bool.and_eq_true, decide_eq_true_iff] at h1
            obtain ⟨x, rfl⟩ := List.length_eq_one_iff.1 h1.1
            exact .nul op x h1.2
          · split at h1
            · rename_i hk
              simp only [Bool.or_eq_true, Bool.and_eq_true] at h1
              refine .app kd op r (.inl ⟨hk, ?_⟩)
              rcases h1 with h1 | h1
              · exact .inl h1.1
              · exact .inr h1.1
            · split at h1
              · rename_i hk
                simp only [Bool.or_eq_true, Bool.and_eq_true] at h1
                refine .app kd op r (.inr ⟨hk, ?_⟩)
                rcases h1 with h1 | h1
                · exact .inl h1.1
                · exact .inr h1.1
              · cases h1

theorem LX_eq (l : Lb) (r : List Ex) : LX (.mk l r) = bL (l.textOf (r.map textX)) := by
  unfold LX; rw [textX_eq]; rfl
theorem lit_eq (v : Vl) : LX (.mk ⟨1, v, E0, E0, E0⟩ []) = bL v.tk.text.1 := by
  rw [LX_eq, ← Vl.litS_eq]; rfl
/-- The texts of a call's arguments. -/
def inn : List Ex → List UInt8
  | [] => [42]
  | x :: r => LX x ++ Lib.joinTail [44, 32] (r.map LX)

inductive Gq : Ex → List UInt8 → List UInt8 → Prop
  | str (s) : Gq (.mk ⟨1, ⟨2, 0, s⟩, E0, E0, E0⟩ []) [] (bL s)
  | blob (s) : Gq (.mk ⟨1, ⟨3, 0, s⟩, E0, E0, E0⟩ []) [120] (bL (hexS s))
inductive Gw : Ex → List UInt8 → Prop
  | null : Gw (.mk ⟨1, ⟨0, 0, E0⟩, E0, E0, E0⟩ []) [110, 117, 108, 108]
  | num (n : Nat) : Gw (.mk ⟨1, ⟨1, n, E0⟩, E0, E0, E0⟩ []) (Lib.decDigits n)
  | col0 (nm) (hn : isX nm = true) : Gw (.mk ⟨2, vZ, E0, nm, E0⟩ []) (bL nm)
  | col1 (tb nm) (hn : isX nm = true) (ht : isX tb = true) : Gw (.mk ⟨2, vZ, tb, nm, E0⟩ []) (bL tb ++ 46 :: bL nm)
inductive Gp : Ex → List UInt8 → List UInt8 → Prop
  | un (op x) (h : inL unL op = true) : Gp (.mk ⟨3, vZ, E0, E0, op⟩ [x]) [] (bL op ++ 32 :: LX x)
  | bin (op x y) (h : inL binL op = true) : Gp (.mk ⟨4, vZ, E0, E0, op⟩ [x, y]) [] (LX x ++ 32 :: (bL op ++ 32 :: LX y))
  | nul (op x) (h : inL nullL op = true) : Gp (.mk ⟨5, vZ, E0, E0, op⟩ [x]) [] (LX x ++ 32 :: bL op)
  | app (kd op xs) (h : okOp kd op) : Gp (.mk ⟨kd, vZ, E0, E0, op⟩ xs) (bL op) (inn xs)

theorem joinS_bL (xs : List Ex) : bL (joinS (xs.map textX) ⟨#[44, 32]⟩) = Lib.join (xs.map LX) [44, 32] := by
  unfold joinS joinL
  rw [bL_baL, List.map_map]; rfl
theorem app_text (kd : Int) (op : ByteArray) (xs : List Ex) (h : kd = 6 ∨ kd = 7) : LX (.mk ⟨kd, vZ, E0, E0, op⟩ xs) = bL op ++ 40 :: (inn xs ++ [41]) := by
  rw [LX_eq]
  unfold Lb.textOf
  simp only
  rw [if_neg (by omega), if_neg (by omega), if_neg (by omega), if_neg (by omega), if_neg (by omega)]
  cases xs with
  | nil => rw [List.map_nil, if_pos (by rfl : ([] : List ByteArray).isEmpty = true), bL_app]; rfl
  | cons x r =>
    rw [if_neg (by simp), bL_app, bL_app, bL_app, joinS_bL, List.map_cons, Lib.join_cons, inn]
    simp [bL]
/-- Each expression is one of three kinds. -/
theorem forms {e : Ex} (h : Sx e) : (∃ a s, Gq e a s ∧ LX e = a ++ 39 :: (dblL s ++ [39])) ∨ (∃ a, Gw e a ∧ LX e = a) ∨ (∃ a i, Gp e a i ∧ LX e = a ++ 40 :: (i ++ [41])) := by
  cases h with
  | str s =>
    refine .inl ⟨_, _, .str s, ?_⟩
    rw [lit_eq]; exact bL_baL _
  | blob s =>
    refine .inl ⟨_, _, .blob s, ?_⟩
    rw [lit_eq]
    show bL ((⟨#[120]⟩ : ByteArray) ++ quoteS (hexS s)) = _
    rw [bL_app]
    show [120] ++ bL (baL _) = _
    rw [bL_baL]; rfl
  | null => exact .inr (.inl ⟨_, .null, by rw [lit_eq]; rfl⟩)
  | num n =>
    refine .inr (.inl ⟨_, .num n, ?_⟩)
    rw [lit_eq]
    show bL (baL (Lib.itoa n)) = _
    rw [bL_baL, Lib.itoa_nonneg]
  | col0 nm hn =>
    refine .inr (.inl ⟨_, .col0 nm hn, ?_⟩)
    rw [LX_eq]
    show bL (Lb.colS _) = _
    unfold Lb.colS
    rw [if_pos (by show E0.toList.isEmpty = true; rw [ByteArray.toList_eq]; rfl)]
  | col1 tb nm hn ht =>
    refine .inr (.inl ⟨_, .col1 tb nm hn ht, ?_⟩)
    rw [LX_eq]
    show bL (Lb.colS _) = _
    unfold Lb.colS
    rw [if_neg (fun he => (isX_bytes ht).1 (by rw [show tb = E0 from bL_empty he]; rfl)), bL_app, bL_app]
    simp [bL]
  | un op x h =>
    refine .inr (.inr ⟨_, _, .un op x h, ?_⟩)
    rw [LX_eq]
    show bL ((⟨#[40]⟩ : ByteArray) ++ op ++ ⟨#[32]⟩ ++ textX x ++ ⟨#[41]⟩) = _
    rw [bL_app, bL_app, bL_app, bL_app]
    simp [bL, LX]
  | bin op x y h =>
    refine .inr (.inr ⟨_, _, .bin op x y h, ?_⟩)
    rw [LX_eq]
    show bL ((⟨#[40]⟩ : ByteArray) ++ textX x ++ ⟨#[32]⟩ ++ op ++ ⟨#[32]⟩ ++ textX y ++ ⟨#[41]⟩) = _
    rw [bL_app, bL_app, bL_app, bL_app, bL_app, bL_app]
    simp [bL, LX]
  | nul op x h =>
    refine .inr (.inr ⟨_, _, .nul op x h, ?_⟩)
    rw [LX_eq]
    show bL ((⟨#[40]⟩ : ByteArray) ++ textX x ++ ⟨#[32]⟩ ++ op ++ ⟨#[41]⟩) = _
    rw [bL_app, bL_app, bL_app, bL_app]
    simp [bL, LX]
  | app kd op xs h => exact .inr (.inr ⟨_, _, .app kd op xs h, app_text kd op xs (h.elim (fun h => .inl h.1) (fun h => .inr h.1))⟩)

theorem inL_mem {L : List (List Nat)} {op : ByteArray} (h : inL L op = true) : ∃ l ∈ L, bL op = l.map UInt8.ofNat := by
  unfold inL at h
  obtain ⟨l, hl, he⟩ := List.any_eq_true.1 h
  refine ⟨l, hl, ?_⟩
  rw [beq_iff_eq, ByteArray.toList_eq] at he
  exact he
theorem op_wb {L : List (List Nat)} {op : ByteArray} (h : inL L op = true) (hL : ∀ l ∈ L, ∀ c ∈ l.map UInt8.ofNat, wb c = true) : ∀ c ∈ bL op, wb c = true := by
  obtain ⟨l, hl, he⟩ := inL_mem h
  rw [he]; exact hL l hl
theorem okOp_wb {kd : Int} {op : ByteArray} (h : okOp kd op) : ∀ c ∈ bL op, wb c = true := by
  rcases h with ⟨_, h | h⟩ | ⟨_, h | h⟩ <;> exact op_wb h (by decide)
theorem okOp_ne {kd : Int} {op : ByteArray} (h : okOp kd op) : ∃ c t, bL op = c :: t ∧ c ≠ 42 := by
  rcases h with ⟨_, h | h⟩ | ⟨_, h | h⟩ <;> obtain ⟨l, hl, he⟩ := inL_mem h <;> simp only [aggL, countL, callL, lenL, List.mem_cons, List.not_mem_nil, or_false] at hl
  · rcases hl with rfl | rfl | rfl | rfl <;> exact ⟨_, _, he, by decide⟩
  · subst hl; exact ⟨_, _, he, by decide⟩
  · rcases hl with rfl | rfl <;> exact ⟨_, _, he, by decide⟩
  · subst hl; exact ⟨_, _, he, by decide⟩
theorem ops_apart : ∀ l ∈ aggL ++ countL, ∀ m ∈ callL ++ lenL, l.map UInt8.ofNat ≠ m.map UInt8.ofNat := by decide
theorem okOp_kd {kd kd' : Int} {op : ByteArray} (h : okOp kd op) (h' : okOp kd' op) : kd = kd' := by
  rcases h with ⟨rfl, h⟩ | ⟨rfl, h⟩ <;> rcases h' with ⟨rfl, h'⟩ | ⟨rfl, h'⟩
  · rfl
  · exfalso
    rcases h with h | h <;> rcases h' with h' | h' <;> obtain ⟨l, hl, he⟩ := inL_mem h <;> obtain ⟨m, hm, he'⟩ := inL_mem h' <;> rw [he] at he' <;> exact ops_apart l (by simp [hl]) m (by simp [hm]) he'
  · exfalso
    rcases h with h | h <;> rcases h' with h' | h' <;> obtain ⟨l, hl, he⟩ := inL_mem h <;> obtain ⟨m, hm, he'⟩ := inL_mem h' <;> rw [he] at he' <;> exact ops_apart m (by simp [hm]) l (by simp [hl]) he'.symm
  · rfl

theorem Gq_inj {e e' : Ex} {a s a' s' : List UInt8} (h : Gq e a s) (h' : Gq e' a' s') (ha : a = a') (hs : s = s') : e = e' := by
  cases h <;> cases h'
  · rw [bL_inj hs]
  · cases ha
  · cases ha
  · rw [hexS_inj hs]
theorem Gq_wb {e : Ex} {a s : List UInt8} (h : Gq e a s) : ∀ c ∈ a, wb c = true := by
  cases h
  · intro c hc; cases hc
  · intro c hc; rw [List.mem_singleton.1 hc]; decide
theorem Gw_wb {e : Ex} {a : List UInt8} (h : Gw e a) : ∀ c ∈ a, wb c = true := by
  cases h with
  | null => decide
  | num n => intro c hc; have := dec_dig n c hc; exact wb_of (by omega)
  | col0 nm hn => intro c hc; exact nch_wb ((isX_bytes hn).2.1 c hc)
  | col1 tb nm hn ht =>
    intro c hc
    rcases List.mem_append.1 hc with hc | hc
    · exact nch_wb ((isX_bytes ht).2.1 c hc)
    · rcases List.mem_cons.1 hc with rfl | hc
      · decide
      · exact nch_wb ((isX_bytes hn).2.1 c hc)
theorem Gp_wb {e : Ex} {a i : List UInt8} (h : Gp e a i) : ∀ c ∈ a, wb c = true := by
  cases h
  · intro c hc; cases hc
  · intro c hc; cases hc
  · intro c hc; cases hc
  · rename_i h; exact okOp_wb h
theorem col_dot {nm : ByteArray} (hn : isX nm = true) {l : List UInt8} (h : bL nm = l) (hd : (46 : UInt8) ∈ l) : False := nch_ne ((isX_bytes hn).2.1 46 (by rw [h]; exact hd)) rfl
theorem num_name {n : Nat} {nm : ByteArray} (hn : isX nm = true) {l : List UInt8} (h : Lib.decDigits n = bL nm ++ l) : False := by
  obtain ⟨h1, _, h3, _⟩ := isX_bytes hn
  cases hl : bL nm with
  | nil => exact h1 hl
  | cons c t =>
    have h4 := h3 c (by rw [hl]; rfl)
    exact h4 (dec_dig n c (by rw [h, hl]; simp))
theorem null_name {nm : ByteArray} (hn : isX nm = true) (h : bL nm = [110, 117, 108, 108]) : False := by
  have h4 := (isX_bytes hn).2.2.2
  have : nm = ⟨#[110, 117, 108, 108]⟩ := bL_inj h
  rw [this] at h4
  exact absurd h4 (by decide +kernel)
theorem not_name {nm : ByteArray} (hn : isX nm = true) (h : bL nm = [110, 111, 116]) : False := by
  have h4 := (isX_bytes hn).2.2.2
  have : nm = ⟨#[110, 111, 116]⟩ := bL_inj h
  rw [this] at h4
  exact absurd h4 (by decide +kernel)
theorem Gw_inj {e e' : Ex} {a a' : List UInt8} (h : Gw e a) (h' : Gw e' a') (ha : a = a') : e = e' := by
  cases h with
  | null =>
    cases h' with
    | null => rfl
    | num n => have := dec_dig n 110 (by rw [← ha]; simp); exact absurd this (by decide)
    | col0 nm hn => exact (null_name hn ha.symm).elim
    | col1 tb nm hn ht =>
      have : (46 : UInt8) ∈ [110, 117, 108, 108] := by rw [ha]; simp
      exact absurd this (by decide)
  | num n =>
    cases h' with
    | null => have := dec_dig n 110 (by rw [ha]; simp); exact absurd this (by decide)
    | num m => have := congrArg valD ha; rw [valD_dec, valD_dec] at this; rw [this]
    | col0 nm hn => exact (num_name hn (l := []) (by rw [ha]; simp)).elim
    | col1 tb nm hn ht => exact (num_name ht ha).elim
  | col0 nm hn =>
    cases h' with
    | null => exact (null_name hn ha).elim
    | num n => exact (num_name hn (l := []) (by rw [← ha]; simp)).elim
    | col0 nm' hn' => rw [bL_inj ha]
    | col1 tb nm' hn' ht => exact (col_dot hn ha (by simp)).elim
  | col1 tb nm hn ht =>
    cases h' with
    | null =>
      have : (46 : UInt8) ∈ [110, 117, 108, 108] := by rw [← ha]; simp
      exact absurd this (by decide)
    | num n => exact (num_name ht ha.symm).elim
    | col0 nm' hn' => exact (col_dot hn' ha.symm (by simp)).elim
    | col1 tb' nm' hn' ht' =>
      obtain ⟨h1, h2⟩ := run_of (fun c => c != 46) _ _ _ _ (fun c hc => by simpa using nch_ne ((isX_bytes ht).2.1 c hc)) (fun c hc => by simpa using nch_ne ((isX_bytes ht').2.1 c hc)) (fun c hc => by simp at hc; rw [← hc]; rfl) (fun c hc => by simp at hc; rw [← hc]; rfl) ha
      injection h2 with _ h2
      rw [bL_inj h1, bL_inj h2]
/-- A word is neither '-' nor 'not'. -/
theorem Gw_un {e : Ex} {op : ByteArray} {a : List UInt8} (h : Gw e a) (ho : inL unL op = true) (ha : bL op = a) : False := by
  obtain ⟨l, hl, he⟩ := inL_mem ho
  rw [he] at ha
  simp only [unL, List.mem_cons, List.not_mem_nil, or_false] at hl
  cases h with
  | null => rcases hl with rfl | rfl <;> revert ha <;> decide
  | num n =>
    rcases hl with rfl | rfl
    · have := dec_dig n 45 (by rw [← ha]; simp); exact absurd this (by decide)
    · have := dec_dig n 110 (by rw [← ha]; simp); exact absurd this (by decide)
  | col0 nm hn =>
    rcases hl with rfl | rfl
    · have := (isX_bytes hn).2.1 45 (by rw [← ha]; simp); unfold nch at this; exact absurd this (by decide)
    · exact not_name hn ha.symm
  | col1 tb nm hn ht =>
    rcases hl with rfl | rfl
    · have : (46 : UInt8) ∈ [45].map UInt8.ofNat := by rw [ha]; simp
      exact absurd this (by decide)
    · have : (46 : UInt8) ∈ [110, 111, 116].map UInt8.ofNat := by rw [ha]; simp
      exact absurd this (by decide)
end Go.Proofs.YtbnddpicpomakaaGreatDoor

/- Unlike expressions have unlike texts. -/
set_option linter.unusedSimpArgs false
set_option linter.unusedVariables false
set_option maxRecDepth 100000
namespace Go.Proofs.YtbnddpicpomakaaGreatDoor
open Go.RowKit

theorem LX_head {e : Ex} (h : Sx e) : ∃ c t, LX e = c :: t ∧ c ≠ 42 := by
  rcases forms h with ⟨a, s, hq, hx⟩ | ⟨a, hw, hx⟩ | ⟨a, i, hp, hx⟩
  · cases hq with
    | str s => exact ⟨_, _, hx, by decide⟩
    | blob s => exact ⟨_, _, hx, by decide⟩
  · cases hw with
    | null => exact ⟨_, _, hx, by decide⟩
    | num n =>
      cases hl : Lib.decDigits n with
      | nil => exact (dec_ne n hl).elim
      | cons c t =>
        have := dec_dig n c (by rw [hl]; simp)
        exact ⟨c, t, by rw [hx, hl], by rintro rfl; exact absurd this (by decide)⟩
    | col0 nm hn =>
      cases hl : bL nm with
      | nil => exact ((isX_bytes hn).1 hl).elim
      | cons c t =>
        have := (isX_bytes hn).2.1 c (by rw [hl]; simp)
        exact ⟨c, t, by rw [hx, hl], by rintro rfl; unfold nch at this; exact absurd this (by decide)⟩
    | col1 tb nm hn ht =>
      cases hl : bL tb with
      | nil => exact ((isX_bytes ht).1 hl).elim
      | cons c t =>
        have := (isX_bytes ht).2.1 c (by rw [hl]; simp)
        exact ⟨c, _, by rw [hx, hl]; rfl, by rintro rfl; unfold nch at this; exact absurd this (by decide)⟩
  · cases hp with
    | un => exact ⟨_, _, hx, by decide⟩
    | bin => exact ⟨_, _, hx, by decide⟩
    | nul => exact ⟨_, _, hx, by decide⟩
    | app kd op xs hk =>
      obtain ⟨c, t, hc, hn⟩ := okOp_ne hk
      exact ⟨c, _, by rw [hx, hc]; rfl, hn⟩

/-- The text tells the expression, whatever may stand behind it. -/
def Tells (x : Ex) : Prop := x.allB Lb.ok = true → ∀ y : Ex, y.allB Lb.ok = true → ∀ r r', Dl r → Dl r' → LX x ++ r = LX y ++ r' → x = y ∧ r = r'
theorem sx_of {e : Ex} (h : e.allB Lb.ok = true) : Sx e := by
  rw [Rose.allB_eq, Bool.and_eq_true] at h
  rw [← e.eta]; exact shape _ _ h.1
theorem arg_of {l : Lb} {args : List Ex} (h : (Rose.mk l args).allB Lb.ok = true) : ∀ x ∈ args, x.allB Lb.ok = true := by
  rw [Rose.allB_eq, Bool.and_eq_true, List.all_eq_true] at h
  exact h.2

theorem tails_tell : ∀ (xs ys : List Ex), (∀ x ∈ xs, Tells x) → (∀ x ∈ xs, x.allB Lb.ok = true) → (∀ y ∈ ys, y.allB Lb.ok = true) → ∀ r r', Lib.joinTail [44, 32] (xs.map LX) ++ 41 :: r = Lib.joinTail [44, 32] (ys.map LX) ++ 41 :: r' → xs = ys ∧ r = r'
  | [], [], _, _, _, r, r', h => ⟨rfl, by simpa [Lib.joinTail] using h⟩
  | [], y :: ys, _, _, _, r, r', h => by simp [Lib.joinTail] at h
  | x :: xs, [], _, _, _, r, r', h => by simp [Lib.joinTail] at h
  | x :: xs, y :: ys, hT, hx, hy, r, r', h => by
    simp only [Lib.joinTail, List.map_cons, List.flatten_cons, List.cons_append, List.nil_append, List.append_assoc, List.cons.injEq, true_and] at h
    have hd : ∀ (zs : List Ex) q, Dl (Lib.joinTail [44, 32] (zs.map LX) ++ 41 :: q) := fun zs q => by
      cases zs with
      | nil => exact Dl.cl q
      | cons z zs => simp only [Lib.joinTail, List.map_cons, List.flatten_cons, List.cons_append, List.nil_append, List.append_assoc]; exact Dl.co _
    obtain ⟨h1, h2⟩ := hT x (by simp) (hx x (by simp)) y (hy y (by simp)) _ _ (hd xs r) (hd ys r') h
    obtain ⟨h3, h4⟩ := tails_tell xs ys (fun z hz => hT z (by simp [hz])) (fun z hz => hx z (by simp [hz])) (fun z hz => hy z (by simp [hz])) r r' h2
    exact ⟨by rw [h1, h3], h4⟩
theorem inn_tell (xs ys : List Ex) (hT : ∀ x ∈ xs, Tells x) (hx : ∀ x ∈ xs, x.allB Lb.ok = true) (hy : ∀ y ∈ ys, y.allB Lb.ok = true) (r r' : List UInt8) (h : inn xs ++ 41 :: r = inn ys ++ 41 :: r') : xs = ys ∧ r = r' := by
  have hd : ∀ (zs : List Ex) q, Dl (Lib.joinTail [44, 32] (zs.map LX) ++ 41 :: q) := fun zs q => by
    cases zs with
    | nil => exact Dl.cl q
    | cons z zs => simp only [Lib.joinTail, List.map_cons, List.flatten_cons, List.cons_append, List.nil_append, List.append_assoc]; exact Dl.co _
  cases xs with
  | nil =>
    cases ys with
    | nil => exact ⟨rfl, by simpa [inn] using h⟩
    | cons y ys =>
      obtain ⟨c, t, hc, hn⟩ := LX_head (sx_of (hy y (by simp)))
      rw [inn, inn, hc] at h
      simp only [List.cons_append, List.cons.injEq] at h
      exact absurd h.1.symm hn
  | cons x xs =>
    cases ys with
    | nil =>
      obtain ⟨c, t, hc, hn⟩ := LX_head (sx_of (hx x (by simp)))
      rw [inn, inn, hc] at h
      simp only [List.cons_append, List.cons.injEq] at h
      exact absurd h.1 hn
    | cons y ys =>
      rw [inn, inn, List.append_assoc, List.append_assoc] at h
      obtain ⟨h1, h2⟩ := hT x (by simp) (hx x (by simp)) y (hy y (by simp)) _ _ (hd xs r) (hd ys r') h
      obtain ⟨h3, h4⟩ := tails_tell xs ys (fun z hz => hT z (by simp [hz])) (fun z hz => hx z (by simp [hz])) (fun z hz => hy z (by simp [hz])) r r' h2
      exact ⟨by rw [h1, h3], h4⟩

theorem hd_no {c : UInt8} {t : List UInt8} (h : wb c = false) : ∀ d, (c :: t).head? = some d → wb d = false := fun d hd => by
  simp at hd; rw [← hd]; exact h
theorem unL_wb {op : ByteArray} (h : inL unL op = true) : ∀ c ∈ bL op, wb c = true := op_wb h (by decide)
theorem binL_wb {op : ByteArray} (h : inL binL op = true) : ∀ c ∈ bL op, wb c = true := op_wb h (by decide)
/-- '-' or 'not' and a blank begins no expression and a blank. -/
theorem un_no {x : Ex} {op : ByteArray} {t t' : List UInt8} (hx : Sx x) (ho : inL unL op = true) (h : bL op ++ 32 :: t = LX x ++ 32 :: t') : False := by
  rcases forms hx with ⟨a, s, hq, he⟩ | ⟨a, hw, he⟩ | ⟨a, i, hp, he⟩
  · rw [he, List.append_assoc, List.cons_append] at h
    have := (run_of wb _ _ _ _ (unL_wb ho) (Gq_wb hq) (hd_no (by decide)) (hd_no (by decide)) h).2
    injection this with h1 _
    exact absurd h1 (by decide)
  · rw [he] at h
    exact Gw_un hw ho (run_of wb _ _ _ _ (unL_wb ho) (Gw_wb hw) (hd_no (by decide)) (hd_no (by decide)) h).1
  · rw [he, List.append_assoc, List.cons_append] at h
    have := (run_of wb _ _ _ _ (unL_wb ho) (Gp_wb hp) (hd_no (by decide)) (hd_no (by decide)) h).2
    injection this with h1 _
    exact absurd h1 (by decide)
theorem bin_is : ∀ l ∈ binL, l.map UInt8.ofNat ≠ [105, 115] := by decide
/-- A sign between two is not the one behind one. -/
theorem bin_nul {op op' : ByteArray} {t t' : List UInt8} (ho : inL binL op = true) (ho' : inL nullL op' = true) (h : bL op ++ 32 :: t = bL op' ++ 41 :: t') : False := by
  obtain ⟨m, hm, he'⟩ := inL_mem ho'
  have h2 : ∃ t2, bL op' ++ 41 :: t' = [105, 115] ++ 32 :: t2 := by
    rw [he']
    simp only [nullL, List.mem_cons, List.not_mem_nil, or_false] at hm
    rcases hm with rfl | rfl <;> exact ⟨_, rfl⟩
  obtain ⟨t2, h2⟩ := h2
  rw [h2] at h
  have h3 := (run_of wb _ _ _ _ (binL_wb ho) (by decide) (hd_no (by decide)) (hd_no (by decide)) h).1
  obtain ⟨l, hl, he⟩ := inL_mem ho
  rw [he] at h3
  exact bin_is l hl h3
theorem nul_nul {op op' : ByteArray} {t t' : List UInt8} (ho : inL nullL op = true) (ho' : inL nullL op' = true) (h : bL op ++ 41 :: t = bL op' ++ 41 :: t') : op = op' ∧ t = t' := by
  obtain ⟨l, hl, he⟩ := inL_mem ho
  obtain ⟨m, hm, he'⟩ := inL_mem ho'
  rw [he, he'] at h
  simp only [nullL, List.mem_cons, List.not_mem_nil, or_false] at hl hm
  rcases hl with rfl | rfl <;> rcases hm with rfl | rfl
  · exact ⟨bL_inj (he.trans he'.symm), by simpa using h⟩
  · simp at h
  · simp at h
  · exact ⟨bL_inj (he.trans he'.symm), by simpa using h⟩
theorem Dl.ne {r : List UInt8} (h : Dl r) {c : UInt8} (hn : ¬ (c = 32 ∨ c = 41 ∨ c = 44)) {t : List UInt8} (he : c :: t = r) : False := by
  subst he
  exact hn (h c rfl)
theorem Dl.head {r : List UInt8} (h : Dl r) : r.head? ≠ some 39 := fun hc => by
  rcases h 39 hc with h | h | h <;> exact absurd h (by decide)

theorem tells : ∀ e : Ex, Tells e := by
  intro e
  induction e using Rose.ind with
  | h l args ih =>
  intro hx y hy r r' hr hr' h
  have hax := arg_of hx
  rcases forms (sx_of hx) with ⟨a, s, hq, he⟩ | ⟨a, hw, he⟩ | ⟨a, i, hp, he⟩ <;> rcases forms (sx_of hy) with ⟨a', s', hq', he'⟩ | ⟨a', hw', he'⟩ | ⟨a', i', hp', he'⟩ <;> rw [he, he'] at h <;> (try simp only [List.append_assoc, List.cons_append, List.nil_append] at h)
  · obtain ⟨h1, h2⟩ := run_of wb _ _ _ _ (Gq_wb hq) (Gq_wb hq') (hd_no (by decide)) (hd_no (by decide)) h
    injection h2 with _ h2
    obtain ⟨h3, h4⟩ := dbl_inj _ _ _ _ hr.head hr'.head h2
    exact ⟨Gq_inj hq hq' h1 h3, h4⟩
  · obtain ⟨h1, h2⟩ := run_of wb _ _ _ _ (Gq_wb hq) (Gw_wb hw') (hd_no (by decide)) hr'.wb h
    exact (hr'.ne (by decide) h2).elim
  · obtain ⟨h1, h2⟩ := run_of wb _ _ _ _ (Gq_wb hq) (Gp_wb hp') (hd_no (by decide)) (hd_no (by decide)) h
    injection h2 with h2 _
    exact absurd h2 (by decide)
  · obtain ⟨h1, h2⟩ := run_of wb _ _ _ _ (Gw_wb hw) (Gq_wb hq') hr.wb (hd_no (by decide)) h
    exact (hr.ne (by decide) h2.symm).elim
  · obtain ⟨h1, h2⟩ := run_of wb _ _ _ _ (Gw_wb hw) (Gw_wb hw') hr.wb hr'.wb h
    exact ⟨Gw_inj hw hw' h1, h2⟩
  · obtain ⟨h1, h2⟩ := run_of wb _ _ _ _ (Gw_wb hw) (Gp_wb hp') hr.wb (hd_no (by decide)) h
    exact (hr.ne (by decide) h2.symm).elim
  · obtain ⟨h1, h2⟩ := run_of wb _ _ _ _ (Gp_wb hp) (Gq_wb hq') (hd_no (by decide)) (hd_no (by decide)) h
    injection h2 with h2 _
    exact absurd h2 (by decide)
  · obtain ⟨h1, h2⟩ := run_of wb _ _ _ _ (Gp_wb hp) (Gw_wb hw') (hd_no (by decide)) hr'.wb h
    exact (hr'.ne (by decide) h2).elim
  · obtain ⟨h1, h2⟩ := run_of wb _ _ _ _ (Gp_wb hp) (Gp_wb hp') (hd_no (by decide)) (hd_no (by decide)) h
    injection h2 with _ h2
    clear h he he'
    cases hp with
    | un op x ho =>
      have ihx := ih x (by simp) (hax x (by simp))
      cases hp' with
      | un op' x' ho' =>
        have hay := arg_of hy
        simp only [List.append_assoc, List.cons_append, List.nil_append] at h2
        obtain ⟨h3, h4⟩ := run_of wb _ _ _ _ (unL_wb ho) (unL_wb ho') (hd_no (by decide)) (hd_no (by decide)) h2
        injection h4 with _ h4
        obtain ⟨h5, h6⟩ := ihx x' (hay x' (by simp)) _ _ (Dl.cl _) (Dl.cl _) h4
        injection h6 with _ h6
        exact ⟨by rw [bL_inj h3, h5], h6⟩
      | bin op' x' y' ho' =>
        simp only [List.append_assoc, List.cons_append, List.nil_append] at h2
        exact (un_no (sx_of (arg_of hy x' (by simp))) ho h2).elim
      | nul op' x' ho' =>
        simp only [List.append_assoc, List.cons_append, List.nil_append] at h2
        exact (un_no (sx_of (arg_of hy x' (by simp))) ho h2).elim
      | app kd op' xs hk => obtain ⟨c, t, hc, _⟩ := okOp_ne hk; rw [hc] at h1; cases h1
    | bin op x y1 ho =>
      have ihx := ih x (by simp) (hax x (by simp))
      have ihy := ih y1 (by simp) (hax y1 (by simp))
      cases hp' with
      | un op' x' ho' =>
        simp only [List.append_assoc, List.cons_append, List.nil_append] at h2
        exact (un_no (sx_of (hax x (by simp))) ho' h2.symm).elim
      | bin op' x' y' ho' =>
        have hay := arg_of hy
        simp only [List.append_assoc, List.cons_append, List.nil_append] at h2
        obtain ⟨h3, h4⟩ := ihx x' (hay x' (by simp)) _ _ (Dl.sp _) (Dl.sp _) h2
        injection h4 with _ h4
        obtain ⟨h5, h6⟩ := run_of wb _ _ _ _ (binL_wb ho) (binL_wb ho') (hd_no (by decide)) (hd_no (by decide)) h4
        injection h6 with _ h6
        obtain ⟨h7, h8⟩ := ihy y' (hay y' (by simp)) _ _ (Dl.cl _) (Dl.cl _) h6
        injection h8 with _ h8
        exact ⟨by rw [h3, bL_inj h5, h7], h8⟩
      | nul op' x' ho' =>
        have hay := arg_of hy
        simp only [List.append_assoc, List.cons_append, List.nil_append] at h2
        obtain ⟨h3, h4⟩ := ihx x' (hay x' (by simp)) _ _ (Dl.sp _) (Dl.sp _) h2
        injection h4 with _ h4
        exact (bin_nul ho ho' h4).elim
      | app kd op' xs hk => obtain ⟨c, t, hc, _⟩ := okOp_ne hk; rw [hc] at h1; cases h1
    | nul op x ho =>
      have ihx := ih x (by simp) (hax x (by simp))
      cases hp' with
      | un op' x' ho' =>
        simp only [List.append_assoc, List.cons_append, List.nil_append] at h2
        exact (un_no (sx_of (hax x (by simp))) ho' h2.symm).elim
      | bin op' x' y' ho' =>
        have hay := arg_of hy
        simp only [List.append_assoc, List.cons_append, List.nil_append] at h2
        obtain ⟨h3, h4⟩ := ihx x' (hay x' (by simp)) _ _ (Dl.sp _) (Dl.sp _) h2
        injection h4 with _ h4
        exact (bin_nul ho' ho h4.symm).elim
      | nul op' x' ho' =>
        have hay := arg_of hy
        simp only [List.append_assoc, List.cons_append, List.nil_append] at h2
        obtain ⟨h3, h4⟩ := ihx x' (hay x' (by simp)) _ _ (Dl.sp _) (Dl.sp _) h2
        injection h4 with _ h4
        obtain ⟨h5, h6⟩ := nul_nul ho ho' h4
        exact ⟨by rw [h3, h5], h6⟩
      | app kd op' xs hk => obtain ⟨c, t, hc, _⟩ := okOp_ne hk; rw [hc] at h1; cases h1
    | app kd op xs hk =>
      cases hp' with
      | un op' x' ho' => obtain ⟨c, t, hc, _⟩ := okOp_ne hk; rw [hc] at h1; cases h1
      | bin op' x' y' ho' => obtain ⟨c, t, hc, _⟩ := okOp_ne hk; rw [hc] at h1; cases h1
      | nul op' x' ho' => obtain ⟨c, t, hc, _⟩ := okOp_ne hk; rw [hc] at h1; cases h1
      | app kd' op' xs' hk' =>
        have ho := bL_inj h1
        subst ho
        have hkd := okOp_kd hk hk'
        subst hkd
        obtain ⟨h3, h4⟩ := inn_tell _ _ ih hax (arg_of hy) r r' h2
        exact ⟨by rw [h3], h4⟩

/-- P20.4: unlike expressions have unlike texts. -/
theorem apart_iff {e o : Ex} (he : e.allB Lb.ok = true) (ho : o.allB Lb.ok = true) : textX e = textX o ↔ e = o :=
  ⟨fun h => (tells e he o ho [] [] Dl.nil Dl.nil (by unfold LX; rw [h])).1, fun h => by rw [h]⟩
end Go.Proofs.YtbnddpicpomakaaGreatDoor

/- The walk of the law SyntaxApart. -/
set_option linter.unusedSimpArgs false
set_option linter.unusedVariables false
set_option maxRecDepth 100000
namespace Go.Proofs.YtbnddpicpomakaaGreatDoor
open Go.RowKit

/-- Both expressions lie there. -/
structure ApE (w W : World) (n : Nat) (x y : XM) : Prop where
  e : Slot8 W w.heap.size (.int .i64 x.t.lab.kd) (.int .u8 x.t.lab.v.k) (.int .i64 x.t.lab.v.n) (.string x.t.lab.v.s) (.string x.t.lab.tb) (.string x.t.lab.nm) (.string x.t.lab.op) (.slice x.a x.t.args.length x.cap)
  o : Slot8 W (w.heap.size + 1) (.int .i64 y.t.lab.kd) (.int .u8 y.t.lab.v.k) (.int .i64 y.t.lab.v.n) (.string y.t.lab.v.s) (.string y.t.lab.tb) (.string y.t.lab.nm) (.string y.t.lab.op) (.slice y.a y.t.args.length y.cap)
  lt : w.heap.size < W.heap.size ∧ w.heap.size + 1 < W.heap.size
  xat : XAt W.heap.size W n x
  yat : XAt W.heap.size W n y
  bel : Below w.heap.size w W
theorem ApE.later {w W W' : World} {n : Nat} {x y : XM} (h : ApE w W n x y) (hb : Below W.heap.size W W') : ApE w W' n x y :=
  ⟨h.e.later h.lt.1 hb, h.o.later h.lt.2 hb, ⟨Nat.lt_of_lt_of_le h.lt.1 hb.size, Nat.lt_of_lt_of_le h.lt.2 hb.size⟩, h.xat.later hb, h.yat.later hb, h.bel.trans (hb.mono h.bel.size)⟩
theorem ApE.new (w : World) {n : Nat} {x y : XM} (hx : XAt w.heap.size w n x) (hy : XAt w.heap.size w n y) :
    ApE w ((w.alloc (.cells #[.int .i64 x.t.lab.kd, .int .u8 x.t.lab.v.k, .int .i64 x.t.lab.v.n, .string x.t.lab.v.s, .string x.t.lab.tb, .string x.t.lab.nm, .string x.t.lab.op, .slice x.a x.t.args.length x.cap] 45)).alloc (.cells #[.int .i64 y.t.lab.kd, .int .u8 y.t.lab.v.k, .int .i64 y.t.lab.v.n, .string y.t.lab.v.s, .string y.t.lab.tb, .string y.t.lab.nm, .string y.t.lab.op, .slice y.a y.t.args.length y.cap] 45)) n x y := by
  have b1 : Below w.heap.size w (w.alloc (.cells #[.int .i64 x.t.lab.kd, .int .u8 x.t.lab.v.k, .int .i64 x.t.lab.v.n, .string x.t.lab.v.s, .string x.t.lab.tb, .string x.t.lab.nm, .string x.t.lab.op, .slice x.a x.t.args.length x.cap] 45)) := (Below.refl _ w).alloc (Nat.le_refl _) _
  have hs1 : (w.alloc (.cells #[.int .i64 x.t.lab.kd, .int .u8 x.t.lab.v.k, .int .i64 x.t.lab.v.n, .string x.t.lab.v.s, .string x.t.lab.tb, .string x.t.lab.nm, .string x.t.lab.op, .slice x.a x.t.args.length x.cap] 45)).heap.size = w.heap.size + 1 := by simp
  have b2 : Below (w.alloc (.cells #[.int .i64 x.t.lab.kd, .int .u8 x.t.lab.v.k, .int .i64 x.t.lab.v.n, .string x.t.lab.v.s, .string x.t.lab.tb, .string x.t.lab.nm, .string x.t.lab.op, .slice x.a x.t.args.length x.cap] 45)).heap.size (w.alloc (.cells #[.int .i64 x.t.lab.kd, .int .u8 x.t.lab.v.k, .int .i64 x.t.lab.v.n, .string x.t.lab.v.s, .string x.t.lab.tb, .string x.t.lab.nm, .string x.t.lab.op, .slice x.a x.t.args.length x.cap] 45)) ((w.alloc (.cells #[.int .i64 x.t.lab.kd, .int .u8 x.t.lab.v.k, .int .i64 x.t.lab.v.n, .string x.t.lab.v.s, .string x.t.lab.tb, .string x.t.lab.nm, .string x.t.lab.op, .slice x.a x.t.args.length x.cap] 45)).alloc (.cells #[.int .i64 y.t.lab.kd, .int .u8 y.t.lab.v.k, .int .i64 y.t.lab.v.n, .string y.t.lab.v.s, .string y.t.lab.tb, .string y.t.lab.nm, .string y.t.lab.op, .slice y.a y.t.args.length y.cap] 45)) := (Below.refl _ _).alloc (Nat.le_refl _) _
  have b3 := b1.trans (b2.mono b1.size)
  have hn := Slot8.new (w.alloc (.cells #[.int .i64 x.t.lab.kd, .int .u8 x.t.lab.v.k, .int .i64 x.t.lab.v.n, .string x.t.lab.v.s, .string x.t.lab.tb, .string x.t.lab.nm, .string x.t.lab.op, .slice x.a x.t.args.length x.cap] 45)) 45 (.int .i64 y.t.lab.kd) (.int .u8 y.t.lab.v.k) (.int .i64 y.t.lab.v.n) (.string y.t.lab.v.s) (.string y.t.lab.tb) (.string y.t.lab.nm) (.string y.t.lab.op) (.slice y.a y.t.args.length y.cap)
  rw [hs1] at hn
  exact ⟨(Slot8.new w 45 (.int .i64 x.t.lab.kd) (.int .u8 x.t.lab.v.k) (.int .i64 x.t.lab.v.n) (.string x.t.lab.v.s) (.string x.t.lab.tb) (.string x.t.lab.nm) (.string x.t.lab.op) (.slice x.a x.t.args.length x.cap)).later (by rw [hs1]; omega) b2, hn, by simp; omega, hx.later b3, hy.later b3, b3⟩

theorem small_of {e : Ex} (h : greatX 24 e = false) : e.allB (fun l k => !l.big k) = true := by
  rw [greatX_fits, Rose.fits_eq] at h
  simp only [Bool.not_eq_false', Bool.and_eq_true] at h
  exact h.1
/-- What the law compares. -/
theorem apart_same {e o : Ex} (he : rightX 20 e = true) (ho : rightX 20 o = true) : ((textX e).toList == (textX o).toList) = sameX 20 e o := by
  rw [rightX_eq, Bool.and_eq_true, decide_eq_true_iff] at he ho
  rw [Bool.eq_iff_iff, beq_iff_eq, sameX_iff]
  constructor
  · intro h; exact ⟨(apart_iff he.1 ho.1).1 (toList_inj h), he.2⟩
  · rintro ⟨rfl, _⟩; rfl

end Go.Proofs.YtbnddpicpomakaaGreatDoor

/- The walks of runes.isDigits and Number. -/
set_option linter.unusedSimpArgs false
set_option linter.unusedVariables false
set_option maxRecDepth 100000
namespace Go.Proofs.YtbnddpicpomakaaGreatDoor
set_option linter.unusedSimpArgs false
open Go.RowKit

def digitsB (s : ByteArray) : Bool := decide (0 < s.size) && (List.range s.size).all fun i => decide (48 ≤ byteN s i ∧ byteN s i ≤ 57)

theorem digitsB_true {s : ByteArray} : digitsB s = true ↔ 0 < s.size ∧ ∀ i, i < s.size → 48 ≤ byteN s i ∧ byteN s i ≤ 57 := by
  unfold digitsB
  rw [Bool.and_eq_true, decide_eq_true_iff, List.all_eq_true]
  simp

theorem digitsB_false {s : ByteArray} {i : Nat} (h : i < s.size) (hb : ¬ (48 ≤ byteN s i ∧ byteN s i ≤ 57)) : digitsB s = false := by
  rw [Bool.eq_false_iff]
  intro hn
  exact hb ((digitsB_true.1 hn).2 i h)

theorem class3 (c : Nat) : classZ (c : Int) = 3 ↔ 48 ≤ c ∧ c ≤ 57 := by
  unfold classZ
  repeat' split
  all_goals omega

set_option maxHeartbeats 2000000 in
theorem isDigits_any (s : ByteArray) (w : World) (hs : s.size ≤ 1000000000) :
    Calls Tryz.prog 114 #[.string s] w fun e w' => e = .returned (.bool (digitsB s)) ∧ Below w.heap.size w w' := by
  go_enter Tryz.func114, Tryz.ntmps114
  go_wp2
  go_loopw [] (fun wr => ∃ pos : Nat, wr = w.iter s pos ∧ pos ≤ s.size ∧ Hid (∀ i, i < pos → 48 ≤ byteN s i ∧ byteN s i ≤ 57)) (fun wr => s.size - wr.iterPos w.heap.size)
  case atStart => exact ⟨0, rfl, by omega, by simp [Hid]⟩
  case round =>
    obtain ⟨pos, rfl, hpos, HI⟩ := hrel
    have HBE : Hid (∀ q, Below w.heap.size w (w.iter s q)) := fun q => (Below.refl _ w).alloc (Nat.le_refl _) _
    by_cases hp : pos < s.size
    · have hnx : ∀ ty, (Instr.next (.pointer (some ⟨w.heap.size, 0, none⟩)) true ty).run Tryz.prog (w.iter s pos) = _ := fun ty => run_next_any w s pos ty hp
      have hB := byteN_at s pos hp
      by_cases hd : 48 ≤ (s[pos]'hp).toNat ∧ (s[pos]'hp).toNat ≤ 57
      · have hdec := decode_ascii s pos hp (by omega)
        simp only [hdec] at hnx
        obtain ⟨c, hc⟩ : ∃ c, (s[pos]'hp).toNat = c := ⟨_, rfl⟩
        rw [hc] at hnx hB hd
        have HCl := Lib.hid (fun W => Class_any (c : Int) W)
        rw [(class3 c).2 hd] at HCl
        have HI2 : Hid (∀ i, i < pos + 1 → 48 ≤ byteN s i ∧ byteN s i ≤ 57) := by
          intro i hi
          by_cases h : i = pos
          · subst h; rw [hB]; exact hd
          · exact HI.out i (by omega)
        clear hdec hB hc hd HI
        go_wp2_with fail
        refine (HCl.out _).mono ?_
        rintro e w1 ⟨rfl, rfl⟩
        clear HCl
        go_wp2
        go_roundw
        case rel => exact ⟨pos + 1, rfl, by omega, HI2⟩
        case measure => simp; omega
      · have HN : Hid (digitsB s = false) := digitsB_false hp (by rw [hB]; exact hd)
        have hr3 : classZ (((Utf8.decode s pos).1 : Nat) : Int) ≠ 3 := by
          intro h
          rw [class3] at h
          by_cases hasc : (s[pos]'hp).toNat < 128
          · rw [decode_ascii s pos hp hasc] at h; exact hd h
          · have := (decode_high s pos hp (by omega)).1; omega
        obtain ⟨r, hr⟩ : ∃ r, (Utf8.decode s pos).1 = r := ⟨_, rfl⟩
        obtain ⟨z, hz⟩ : ∃ z, (Utf8.decode s pos).2 = z := ⟨_, rfl⟩
        rw [hr, hz] at hnx
        rw [hr] at hr3
        have HCl := Lib.hid (fun W => Class_any (r : Int) W)
        obtain ⟨k, hk⟩ : ∃ k, classZ (r : Int) = k := ⟨_, rfl⟩
        rw [hk] at HCl hr3
        have q3 : (k != 3) = true := by simp [hr3]
        clear hB hr hz HI hd hk hr3
        go_wp2_with fail
        refine (HCl.out _).mono ?_
        rintro e w1 ⟨rfl, rfl⟩
        clear HCl
        go_wp2
        go_ret
        exact ⟨by rw [HN.out]; rfl, HBE.out _⟩
    · have hnx : ∀ ty, (Instr.next (.pointer (some ⟨w.heap.size, 0, none⟩)) true ty).run Tryz.prog (w.iter s pos) = _ := fun ty => run_next_end w s pos ty hp
      by_cases h0 : s.size = 0
      · have HN : Hid (digitsB s = false) := by unfold digitsB; simp [h0, Hid]
        have he : s.toList = [] := by rw [ByteArray.toList_eq, Array.size_eq_zero_iff.1 (show s.data.size = 0 from h0)]
        clear HI h0
        go_wp2
        go_ret
        exact ⟨by rw [HN.out]; rfl, HBE.out _⟩
      · have HN : Hid (digitsB s = true) := digitsB_true.2 ⟨by omega, fun i hi => HI.out i (by omega)⟩
        have he : (s.toList == []) = false := by
          rw [ByteArray.toList_eq]
          rw [Bool.eq_false_iff]
          intro h
          rw [beq_iff_eq] at h
          apply h0
          have := congrArg List.length h
          simpa using this
        have he2 : ¬ s.toList = [] := by simpa using he
        have he3 : (!s.toList.isEmpty) = true := by simpa using he2
        clear HI h0
        go_wp2
        go_ret
        exact ⟨by rw [HN.out]; rfl, HBE.out _⟩

/-! The number of some digits. -/
def valL (l : List Nat) : Nat := l.foldl (fun n c => n * 10 + (c - 48)) 0
def valF (a : Nat) (l : List Nat) : Nat := l.foldl (fun n c => n * 10 + (c - 48)) a

theorem valF_mono : ∀ (l : List Nat) (a : Nat), a ≤ valF a l
  | [], a => Nat.le_refl _
  | c :: l, a => by
    have := valF_mono l (a * 10 + (c - 48))
    show a ≤ valF (a * 10 + (c - 48)) l
    omega

theorem parseM_val : ∀ (l : List UInt8) (acc : Nat), (∀ c ∈ l, 48 ≤ c.toNat ∧ c.toNat ≤ 57) → acc < 18446744073709551616 →
    (Lib.parseUintM 18446744073709551615 acc l = .ok (valF acc (l.map UInt8.toNat)) ∧ valF acc (l.map UInt8.toNat) < 18446744073709551616) ∨ (Lib.parseUintM 18446744073709551615 acc l = .range ∧ 18446744073709551616 ≤ valF acc (l.map UInt8.toNat))
  | [], acc, _, h => .inl ⟨rfl, h⟩
  | c :: l, acc, hd, h => by
    have hc := hd c (by simp)
    have e : valF acc ((c :: l).map UInt8.toNat) = valF (acc * 10 + (c.toNat - 48)) (l.map UInt8.toNat) := rfl
    have hm := valF_mono (l.map UInt8.toNat) (acc * 10 + (c.toNat - 48))
    rw [e, Lib.parseUintM, if_pos hc]
    by_cases h1 : 1844674407370955162 ≤ acc
    · rw [if_pos h1]; right; exact ⟨rfl, by omega⟩
    · rw [if_neg h1]
      by_cases h2 : 18446744073709551615 < acc * 10 + (c.toNat - 48)
      · rw [if_pos h2]; right; exact ⟨rfl, by omega⟩
      · rw [if_neg h2]
        exact parseM_val l _ (fun x hx => hd x (by simp [hx])) (by omega)

theorem parse_val (l : List UInt8) (hne : l ≠ []) (hd : ∀ c ∈ l, 48 ≤ c.toNat ∧ c.toNat ≤ 57) :
    (Lib.parseIntB 64 l = .ok ((valL (l.map UInt8.toNat) : Nat) : Int) ∧ valL (l.map UInt8.toNat) < 9223372036854775808) ∨ (Lib.parseIntB 64 l = .range ∧ 9223372036854775808 ≤ valL (l.map UInt8.toNat)) := by
  cases l with
  | nil => exact absurd rfl hne
  | cons c l =>
    have hc := hd c (by simp)
    have e : valL ((c :: l).map UInt8.toNat) = valF 0 ((c :: l).map UInt8.toNat) := rfl
    have hb : (2 : Nat) ^ 64 - 1 = 18446744073709551615 := by decide
    have hb2 : (2 : Nat) ^ (64 - 1) = 9223372036854775808 := by decide
    rw [e]
    unfold Lib.parseIntB
    simp only []
    rw [if_neg (by omega)]
    unfold Lib.parseUintB
    rw [if_neg (by simp), hb]
    rcases parseM_val (c :: l) 0 hd (by omega) with ⟨h1, h2⟩ | ⟨h1, h2⟩
    · rw [h1]
      simp only [hb2]
      by_cases h3 : 9223372036854775808 ≤ valF 0 ((c :: l).map UInt8.toNat)
      · rw [if_pos ⟨by omega, h3⟩]; right; exact ⟨rfl, h3⟩
      · rw [if_neg (by omega), if_neg (by omega), if_neg (by omega)]; left; exact ⟨rfl, by omega⟩
    · rw [h1]; right; exact ⟨rfl, by omega⟩

def numberV (s : ByteArray) : Int × Int := if digitsB s = false then (0, 3) else if 9223372036854775808 ≤ valL (bytesU s) then (0, 21) else (((valL (bytesU s) : Nat) : Int), 0)

set_option maxHeartbeats 1000000 in
theorem Number_any (s : ByteArray) (w : World) (hT : Pre5 w) (hs : s.size ≤ 1000000) :
    Calls Tryz.prog 96 #[.string s] w fun e w' => e = .returned (.tuple #[.int .i64 (numberV s).1, .int .i64 (numberV s).2]) ∧ Below w.heap.size w w' := by
  have HI := Lib.hid (fun W => isDigits_any s W (by omega))
  cases hd : digitsB s with
  | false =>
    have HN : Hid (numberV s = (0, 3)) := by unfold numberV; rw [if_pos hd]; rfl
    rw [hd] at HI
    clear hd hT
    go_enter Tryz.func96, Tryz.ntmps96
    go_wp2_with fail
    refine (HI.out _).mono ?_
    rintro e w1 ⟨rfl, b1⟩
    go_wp2
    go_ret2
    exact ⟨by rw [HN.out]; rfl, b1⟩
  | true =>
    have hN : numberV s = if 9223372036854775808 ≤ valL (bytesU s) then (0, 21) else (((valL (bytesU s) : Nat) : Int), 0) := by unfold numberV; rw [if_neg (by rw [hd]; simp)]
    obtain ⟨h0, hall⟩ := digitsB_true.1 hd
    have hbytes : ∀ c ∈ s.data.toList, 48 ≤ c.toNat ∧ c.toNat ≤ 57 := by
      intro c hc
      obtain ⟨i, hi, rfl⟩ := List.getElem_of_mem hc
      have hi2 : i < s.size := by simpa using hi
      have := hall i hi2
      rw [byteN_at s i hi2] at this
      exact this
    have hpv := parse_val s.data.toList (by
      intro h
      have := congrArg List.length h
      have e : s.data.toList.length = s.size := by simp
      rw [e, List.length_nil] at this; omega) hbytes
    have e : s.data.toList.map UInt8.toNat = bytesU s := rfl
    rw [e] at hpv
    rw [hd] at HI
    rcases hpv with ⟨h1, h2⟩ | ⟨h1, h2⟩
    · have HN : Hid (numberV s = (((valL (bytesU s) : Nat) : Int), 0)) := by rw [hN, if_neg (by omega)]; rfl
      have HP := Lib.hid (fun W => Any.strconv_ParseInt_10_at64_ok Tryz.laysParse s (by omega) _ h1 W)
      have HC : Hid (∀ W, Calls Tryz.prog 115 #[.string s, .int .i64 10, .int .i64 64] W fun e w' => e = .returned (.tuple #[.int .i64 ((valL (bytesU s) : Nat) : Int), .nilIface]) ∧ Below W.heap.size W w') := fun W => (HP.out W).mono fun e w' ⟨he, hw⟩ => ⟨he, by
        rcases hw with rfl | ⟨t, rfl⟩
        · exact Below.refl _ _
        · exact ⟨rfl, rfl, rfl, by rw [Lib.bytesWorld_size]; omega, fun k hk => Lib.bytesWorld_at_old W _ t k hk⟩⟩
      obtain ⟨v, hv⟩ : ∃ v, valL (bytesU s) = v := ⟨_, rfl⟩
      rw [hv] at HN HC
      clear hN h1 h2 HP hall hbytes hd hv hT e
      go_enter Tryz.func96, Tryz.ntmps96
      go_wp2_with fail
      refine (HI.out _).mono ?_
      rintro e w1 ⟨rfl, b1⟩
      go_wp2_with fail
      refine (HC.out _).mono ?_
      rintro e w2 ⟨rfl, b2⟩
      go_wp2
      go_ret2
      exact ⟨by rw [HN.out]; rfl, b1.trans (b2.mono b1.size)⟩
    · have HN : Hid (numberV s = (0, 21)) := by rw [hN, if_pos h2]; rfl
      have HP : Hid (∀ W, Below w.heap.size w W → ∃ te v, Calls Tryz.prog 115 #[.string s, .int .i64 10, .int .i64 64] W fun e w' => (∃ N, e = .returned (.tuple #[.int .i64 v, .iface te (.pointer (some ⟨N, 0, none⟩))])) ∧ Below W.heap.size W w') := fun W hb => by
        obtain ⟨ev, hv, hev⟩ := (hT.below hb).rng
        exact ⟨_, _, (Any.strconv_ParseInt_10_at64_range Tryz.laysParse s (by omega) h1 ev W hv hev).mono fun e w' ⟨N, he, _, _, hw⟩ => ⟨⟨N, he⟩, hw⟩⟩
      clear hN h1 h2 hall hbytes hd hT e
      go_enter Tryz.func96, Tryz.ntmps96
      go_wp2_with fail
      refine (HI.out _).mono ?_
      rintro e w1 ⟨rfl, b1⟩
      obtain ⟨te, v, hc⟩ := HP.out w1 b1
      go_wp2_with fail
      refine hc.mono ?_
      rintro e w2 ⟨⟨N, rfl⟩, b2⟩
      clear hc
      go_wp2
      go_ret2
      exact ⟨by rw [HN.out]; rfl, b1.trans (b2.mono b1.size)⟩
end Go.Proofs.YtbnddpicpomakaaGreatDoor

/- '[]rune' to a string. -/
set_option linter.unusedSimpArgs false
set_option linter.unusedVariables false
set_option maxRecDepth 100000
namespace Go.Proofs.YtbnddpicpomakaaGreatDoor
open Go.RowKit

/-- The text of some code points. -/
def strP (p : List Nat) : ByteArray := ⟨((encS p).map UInt8.ofNat).toArray⟩

theorem strP_size (p : List Nat) : (strP p).size = (encS p).length := by simp [strP, ByteArray.size]

theorem bytesU_strP {p : List Nat} (h : ∀ v ∈ p, okP v = true) : bytesU (strP p) = encS p := by
  unfold bytesU strP
  simp only [List.map_map]
  conv => rhs; rw [← List.map_id (encS p)]
  refine List.map_congr_left fun c hc => ?_
  have := encS_lt h c hc
  simp; omega

theorem encode_pt {v : Nat} (h : okP v = true) : Utf8.encode (v : Int) = ⟨((encP v).map UInt8.ofNat).toArray⟩ := by
  rw [okP_iff] at h
  have hv : Utf8.valid (v : Int) = true := by
    unfold Utf8.valid
    simp only [Bool.or_eq_true, Bool.and_eq_true, decide_eq_true_eq]
    omega
  unfold Utf8.encode encP
  simp only [hv, if_true, Int.toNat_natCast]
  split
  · rfl
  · split
    · rfl
    · split <;> rfl

theorem runes_foldl : ∀ (p : List Nat) (s : ByteArray), (∀ v ∈ p, okP v = true) → (p.map fun (n : Nat) => (n : Int)).foldl (fun r n => r ++ Utf8.encode n) s = s ++ strP p
  | [], s, _ => by
    have : strP [] = ByteArray.empty := rfl
    rw [this]; simp
  | v :: p, s, h => by
    rw [List.map_cons, List.foldl_cons, runes_foldl p _ (fun x hx => h x (by simp [hx])), encode_pt (h v (by simp)), ByteArray.append_assoc]
    congr 1
    apply ByteArray.ext
    simp [strP, encS_cons]

theorem runes_strP {p : List Nat} (h : ∀ v ∈ p, okP v = true) : runesBytes (p.map fun (n : Nat) => (n : Int)) = strP p := by
  unfold runesBytes
  rw [runes_foldl p _ h]; simp

theorem Rs.str {P : Program} {N : Nat} {w : World} {a : Option Addr} {p : List Nat} (h : Rs .i32 N w a (p.map fun (n : Nat) => (n : Int))) (hok : ∀ v ∈ p, okP v = true) (src dst e : TypeId)
    (hs : P.underlying src = some (.slice e)) (he : P.underlying e = some (.int .i32)) (hd : P.underlying dst = some .string) (n cap : Nat) (hn : n = p.length) :
    (convert src dst (.slice a n cap)).run P w = .ok (.string (strP p)) w := by
  subst hn
  rcases h with h | ⟨b, o, rfl, hb, hc⟩
  · have hp : p = [] := by simpa using h
    subst hp
    cases a with
    | none => exact run_convert_runes_nil w src dst e _ _ hs he hd
    | some a =>
      have := run_convert_runes (P := P) w src dst e a 0 cap [] (by simp) hs he hd (by simp)
      exact this
  · have := run_convert_runes (P := P) w src dst e ⟨b, o, none⟩ p.length cap (p.map fun (n : Nat) => (n : Int)) (by simp) hs he hd (fun j hj => by
      have e1 : (⟨b, o, none⟩ : Addr).add j = ⟨b, o + j, none⟩ := by unfold Addr.add; split <;> simp_all
      rw [e1]
      have hj' : j < p.length := by simpa using hj
      rw [hc j ((p[j] : Nat) : Int) (by simp [hj'])]
      simp [hj'])
    rw [this]
    rw [List.take_of_length_le (by simp), runes_strP hok]
end Go.Proofs.YtbnddpicpomakaaGreatDoor

/- The mathematics of the law RunesBack: a number's digits. -/
set_option linter.unusedSimpArgs false
set_option linter.unusedVariables false
set_option maxRecDepth 100000
namespace Go.Proofs.YtbnddpicpomakaaGreatDoor
set_option linter.unusedSimpArgs false
open Go.RowKit

theorem valF_snoc (a : Nat) (l : List Nat) (c : Nat) : valF a (l ++ [c]) = valF a l * 10 + (c - 48) := by
  unfold valF; rw [List.foldl_append]; rfl

theorem dec_facts (u : Nat) : (∀ c ∈ Lib.decDigits u, 48 ≤ c.toNat ∧ c.toNat ≤ 57) ∧ valF 0 ((Lib.decDigits u).map UInt8.toNat) = u ∧ 0 < (Lib.decDigits u).length ∧ (∀ k, u < 10 ^ (k + 1) → (Lib.decDigits u).length ≤ k + 1) := by
  induction u using Nat.strongRecOn with
  | _ u ih =>
    by_cases h : u < 10
    · have e : Lib.decDigits u = [UInt8.ofNat (48 + u)] := by rw [Lib.decDigits, dif_pos h]
      have h2 : (UInt8.ofNat (48 + u)).toNat = 48 + u := by simp; omega
      rw [e]
      refine ⟨?_, ?_, by simp, fun k _ => by simp⟩
      · intro c hc
        rw [List.mem_singleton] at hc
        subst hc
        omega
      · show valF 0 [(UInt8.ofNat (48 + u)).toNat] = u
        rw [h2]; simp [valF]
    · have e : Lib.decDigits u = Lib.decDigits (u / 10) ++ [UInt8.ofNat (48 + u % 10)] := by rw [Lib.decDigits, dif_neg h]
      have h2 : (UInt8.ofNat (48 + u % 10)).toNat = 48 + u % 10 := by simp; omega
      obtain ⟨i1, i2, i3, i4⟩ := ih (u / 10) (by omega)
      rw [e]
      refine ⟨?_, ?_, by simp, ?_⟩
      · intro c hc
        rcases List.mem_append.1 hc with hc | hc
        · exact i1 c hc
        · rw [List.mem_singleton] at hc
          subst hc
          omega
      · rw [List.map_append, List.map_singleton, valF_snoc, i2, h2]
        omega
      · intro k hk
        rw [List.length_append, List.length_singleton]
        cases k with
        | zero => omega
        | succ k =>
          have := i4 k (by rw [Nat.pow_succ] at hk; omega)
          omega

theorem bytesU_baL (l : List UInt8) : bytesU (baL l) = l.map UInt8.toNat := rfl

theorem num_digits (n : Int) (h0 : 0 ≤ n) (h1 : n ≤ 9223372036854775807) : numberV (baL (Lib.itoa n)) = (n, 0) ∧ (baL (Lib.itoa n)).size ≤ 19 := by
  obtain ⟨u, rfl⟩ := Int.eq_ofNat_of_zero_le h0
  have e : Lib.itoa (u : Int) = Lib.decDigits u := by unfold Lib.itoa; rw [if_neg (by omega)]; simp
  obtain ⟨i1, i2, i3, i4⟩ := dec_facts u
  rw [e]
  have hd : digitsB (baL (Lib.decDigits u)) = true := by
    rw [digitsB_true, baL_size]
    refine ⟨i3, fun i hi => ?_⟩
    unfold byteN
    rw [bytesU_baL, List.getD_eq_getElem?_getD, List.getElem?_map, List.getElem?_eq_getElem hi]
    exact i1 _ (List.getElem_mem hi)
  refine ⟨?_, ?_⟩
  · unfold numberV
    rw [if_neg (by rw [hd]; simp), show valL (bytesU (baL (Lib.decDigits u))) = u from i2, if_neg (by omega)]
  · rw [baL_size]
    exact i4 18 (by have : (10 : Nat) ^ (18 + 1) = 10000000000000000000 := by decide
                    omega)

theorem unq_quote (s : ByteArray) : unquoteS (quoteS s) = (s, 0) := by
  unfold unquoteS quoteS
  rw [baL_list, unquote_quote]
  simp [baL]

theorem quote_size (s : ByteArray) : (quoteS s).size ≤ 2 * s.size + 2 := by
  unfold quoteS
  rw [baL_size]
  unfold quoteL
  have := (dblL_len s.data.toList).2
  have e : s.data.toList.length = s.size := by simp
  simp only [List.length_append, List.length_cons, List.length_nil]
  omega

theorem strP_back {s : ByteArray} {p : List Nat} (h : decS (bytesU s) = some p) : strP p = s ∧ ∀ v ∈ p, okP v = true := by
  obtain ⟨h1, h2⟩ := (decS_iff (bytesU_lt s) p).1 h
  refine ⟨?_, h1⟩
  unfold strP
  rw [h2]
  apply ByteArray.ext
  unfold bytesU
  have hid : (UInt8.ofNat ∘ UInt8.toNat) = id := by funext c; simp
  rw [List.map_map, hid, List.map_id]

theorem split_strP {p : List Nat} (h : ∀ v ∈ p, okP v = true) : decS (bytesU (strP p)) = some p ∧ (strP p).size ≤ 4 * p.length := by
  rw [bytesU_strP h]
  exact ⟨decS_encS h, by rw [strP_size]; exact (encS_len p).2⟩
end Go.Proofs.YtbnddpicpomakaaGreatDoor

/- The walk of hindsightref05.Digits. -/
set_option linter.unusedSimpArgs false
set_option linter.unusedVariables false
set_option maxRecDepth 100000
namespace Go.Proofs.YtbnddpicpomakaaGreatDoor
set_option linter.unusedSimpArgs false
open Go.RowKit

/-- The loop's number: u, with the sign that came in. -/
def sgn (neg : Bool) (u : Nat) : Int := if neg then -(u : Int) else (u : Int)

theorem sgn_mod (b : Bool) (u : Nat) : (sgn b u).tmod 10 = sgn b (u % 10) := by
  cases b
  · exact (Int.ofNat_tmod u 10).symm
  · show (-(u : Int)).tmod 10 = -((u % 10 : Nat) : Int)
    rw [Int.neg_tmod]
    congr 1
theorem sgn_div (b : Bool) (u : Nat) : (sgn b u).tdiv 10 = sgn b (u / 10) := by
  cases b
  · exact (Int.ofNat_tdiv u 10).symm
  · show (-(u : Int)).tdiv 10 = -((u / 10 : Nat) : Int)
    rw [Int.neg_tdiv]
    congr 1
theorem sgn_zero (b : Bool) (u : Nat) : (sgn b u == 0) = decide (u = 0) := by
  rw [Bool.eq_iff_iff, beq_iff_eq, decide_eq_true_iff]
  unfold sgn
  split <;> omega

theorem dig_cat (c : Nat) (hc : c < 10) (out : List UInt8) : (baL [UInt8.ofNat (48 + c)]) ++ baL out = baL (UInt8.ofNat (48 + c) :: out) := by
  apply ByteArray.ext
  simp [baL]

theorem Bs.newD (w : World) (l : List Nat) (h : ∀ c ∈ l, c < 256) (T : TypeId) (cs : Array Value) (hc : cs = (l.map fun (c : Nat) => Value.int .u8 (c : Int)).toArray) : Bs (w.heap.size + 1) (w.alloc (.cells cs T)) (some ⟨w.heap.size, 0, none⟩) l := by
  refine ⟨h, .inr ⟨w.heap.size, 0, rfl, by omega, fun i c hi => ?_⟩⟩
  rw [Nat.zero_add, World.cell?_alloc_new, hc, List.getElem?_toArray, List.getElem?_map, hi]
  rfl

theorem dig_wrap (c : Nat) (h : c < 10) : wrap64 (c : Int) = (c : Int) ∧ wrap64 (48 + (c : Int)) = 48 + (c : Int) ∧ (48 + (c : Int)) % 256 = 48 + (c : Int) := by
  unfold wrap64; omega

theorem itoa_sgn (n : Int) : Lib.itoa n = if n < 0 then 45 :: Lib.decDigits n.natAbs else Lib.decDigits n.natAbs := by
  unfold Lib.itoa
  split
  · rfl
  · congr 1; omega

theorem dec_step (u : Nat) : Lib.decDigits u = (if u < 10 then [] else Lib.decDigits (u / 10)) ++ [UInt8.ofNat (48 + u % 10)] := by
  rw [Lib.decDigits]
  split
  · rename_i h; rw [Nat.mod_eq_of_lt h]; rfl
  · rfl

set_option maxRecDepth 1000000 in
set_option maxHeartbeats 4000000 in
theorem rDigits_any (n : Int) (w : World) (h0 : -9223372036854775808 ≤ n) (h1 : n ≤ 9223372036854775807) :
    Calls Tryz.prog 72 #[.int .i64 n] w fun e w' => e = .returned (.string (baL (Lib.itoa n))) ∧ Below w.heap.size w w' := by
  obtain ⟨b, hb⟩ : ∃ b, decide (n < 0) = b := ⟨_, rfl⟩
  have hn : n = sgn b n.natAbs := by unfold sgn; subst hb; split <;> simp_all <;> omega
  have HI := Lib.hid (itoa_sgn n)
  have HN := Lib.hid hn
  go_enter Tryz.func72, Tryz.ntmps72
  go_wp2
  go_loopw [3, 4] (fun o i wr => ∃ (u : Nat) (t : ByteArray) (out : List UInt8), o = .string t ∧ i = .int .i64 (sgn b u) ∧ u ≤ 9223372036854775808 ∧ (b = false → u ≤ 9223372036854775807) ∧ t.size ≤ 30 ∧ Hid (t = baL out ∧ Lib.decDigits n.natAbs = Lib.decDigits u ++ out ∧ out.length + (Lib.decDigits u).length ≤ 30) ∧ Below w.heap.size w wr) (fun _ i _ => (intOf i).natAbs)
  case atStart =>
    have hl := (dec_facts n.natAbs).2.2.2 29 (by omega)
    exact ⟨n.natAbs, ⟨#[]⟩, [], rfl, by rw [← HN.out], by omega, fun h => by subst h; simp at hb; omega, by decide, ⟨rfl, by simp, by simpa using hl⟩, Below.refl _ _⟩
  case round =>
    obtain ⟨u, t, out, rfl, rfl, hu, hub, hts, HD, hbw⟩ := hrel
    have hsz := hbw.size
    have hmod := Lib.hid (sgn_mod b u)
    have hdiv := Lib.hid (sgn_div b u)
    have hz := sgn_zero b (u / 10)
    have hst := dec_step u
    obtain ⟨c, hc⟩ : ∃ c, u % 10 = c := ⟨_, rfl⟩
    have hc10 : c < 10 := by omega
    rw [hc] at hmod hst
    have hB := Bs.newD wr [48 + c] (by simp; omega) 5 #[.int .u8 ((48 + c : Nat) : Int)] rfl
    have hcv := hB.conv (P := Tryz.prog) 99 5 Tryz.underlying99 Tryz.underlying5 9 Tryz.underlying9 1 1 rfl
    have ecast : ((48 + c : Nat) : Int) = 48 + (c : Int) := by omega
    rw [ecast] at hcv
    have hstr : strN [48 + c] = baL [UInt8.ofNat (48 + c)] := rfl
    rw [hstr] at hcv
    have hcat : baL [UInt8.ofNat (48 + c)] ++ t = baL (UInt8.ofNat (48 + c) :: out) := by rw [HD.out.1]; exact dig_cat c hc10 out
    have hol := HD.out.2.2
    have hds : baL [UInt8.ofNat (48 + c)] = baL [UInt8.ofNat (48 + c)] → (baL [UInt8.ofNat (48 + c)]).size = 1 := fun _ => rfl
    obtain ⟨i, hi⟩ : ∃ i, sgn b u = i := ⟨_, rfl⟩
    obtain ⟨q, hq⟩ : ∃ q, sgn b (u / 10) = q := ⟨_, rfl⟩
    obtain ⟨v, hv⟩ : ∃ v, u / 10 = v := ⟨_, rfl⟩
    obtain ⟨d, hd⟩ : ∃ d, baL [UInt8.ofNat (48 + c)] = d := ⟨_, rfl⟩
    obtain ⟨t', ht'⟩ : ∃ t', baL (UInt8.ofNat (48 + c) :: out) = t' := ⟨_, rfl⟩
    rw [hd] at hcv hcat hds
    have hd1 := hds rfl
    have ht's : t'.size = out.length + 1 := by rw [← ht', baL_size]; simp
    rw [ht'] at hcat
    rw [hq] at hdiv hz
    rw [hi] at hmod hdiv ⊢
    rw [hv] at hz hst hq
    have hqr : -9223372036854775808 ≤ q ∧ q ≤ 9223372036854775807 := by
      rw [← hq]; unfold sgn; split <;> omega
    obtain ⟨q0, q1⟩ := hqr
    have hm := (dig_wrap c hc10).2.2
    have hlong : ¬ 9223372036854775807 < d.size + t.size := by omega
    have hbx : Below w.heap.size w (wr.alloc (.cells #[.int .u8 (48 + (c : Int))] 5)) := hbw.alloc hsz _
    have hdl := (dec_facts v).2.2.1
    have HG : Hid (v ≠ 0 → (Lib.decDigits n.natAbs = Lib.decDigits v ++ UInt8.ofNat (48 + c) :: out ∧ (UInt8.ofNat (48 + c) :: out).length + (Lib.decDigits v).length ≤ 30)) := fun h => by
      have h10 : ¬ u < 10 := by omega
      rw [if_neg h10] at hst
      have h1 := HD.out.2.1
      rw [hst, List.append_assoc] at h1
      refine ⟨h1, ?_⟩
      have h2 := HD.out.2.2
      rw [hst, List.length_append, List.length_singleton] at h2
      rw [List.length_cons]; omega
    have HE : Hid (v = 0 → Lib.decDigits n.natAbs = UInt8.ofNat (48 + c) :: out) := fun h => by
      have h10 : u < 10 := by omega
      rw [if_pos h10] at hst
      have h1 := HD.out.2.1
      rw [hst] at h1
      exact h1
    have hmeas : v ≠ 0 → q.natAbs < i.natAbs := fun h => by
      rw [← hq, ← hi]; unfold sgn; split <;> omega
    have HT := Lib.hid ht'
    have HQ := Lib.hid hq
    have hvb : v ≤ 922337203685477580 := by omega
    have hts2 : out.length + 1 ≤ 30 := by have := (dec_facts u).2.2.1; omega
    have hneg : ¬ 9223372036854775807 < 1 + t'.size := by omega
    have HI2 : Hid (v = 0 → baL (Lib.itoa n) = if n < 0 then ⟨#[45]⟩ ++ t' else t') := fun h => by
      rw [HI.out, HE.out h, ← HT.out]
      split
      · apply ByteArray.ext; simp [baL]
      · rfl
    have hways : (∀ y : Int, y = 10 → i.tmod y = (c : Int)) ∨ ((∀ y : Int, y = 10 → i.tmod y = -(c : Int)) ∧ 1 ≤ c) := by
      cases b with
      | false => exact .inl (fun y hy => by rw [hy]; exact hmod.out)
      | true =>
        by_cases h : c = 0
        · exact .inl (fun y hy => by rw [hy, h]; rw [h] at hmod; exact hmod.out)
        · exact .inr ⟨fun y hy => by rw [hy]; exact hmod.out, Nat.pos_of_ne_zero h⟩
    have hdv : ∀ y : Int, y = 10 → i.tdiv y = q := fun y hy => by rw [hy]; exact hdiv.out
    clear hdiv
    clear hB hstr hds hi hq hv hd ht' hc hst hmod HD hol hdl ecast HI HE HN hn
    rcases hways with hmod | ⟨hmod, hc1⟩
    · have qB : decide ((c : Int) < 0) = false := by simp
      by_cases hv0 : v = 0
      · have hz2 : (q == 0) = true := by rw [hz]; simp [hv0]
        have HF := Lib.hid (HI2.out hv0)
        clear HI2 HG HT HQ hz hmeas
        by_cases hnn : n < 0
        · have HF2 : Hid (baL (Lib.itoa n) = ⟨#[45]⟩ ++ t') := by rw [HF.out, if_pos hnn]; rfl
          clear HF
          go_wp2
          go_ret
          exact ⟨by rw [HF2.out]; rfl, hbx⟩
        · have HF2 : Hid (baL (Lib.itoa n) = t') := by rw [HF.out, if_neg hnn]; rfl
          clear HF
          go_wp2
          go_ret
          exact ⟨by rw [HF2.out]; rfl, hbx⟩
      · have hz2 : (q == 0) = false := by rw [hz]; simp [hv0]
        obtain ⟨g1, g2⟩ := HG.out hv0
        have HG2 := Lib.hid g1
        have hme := hmeas hv0
        clear HI2 HG hz hmeas g1
        go_wp2
        go_roundw
        case rel => exact ⟨v, t', _, rfl, by rw [HQ.out], by omega, fun _ => by omega, by omega, ⟨HT.out.symm, HG2.out, g2⟩, hbx⟩
        case measure => simp [intOf]; omega
    · have qB : decide (-(c : Int) < 0) = true := by simp; omega
      by_cases hv0 : v = 0
      · have hz2 : (q == 0) = true := by rw [hz]; simp [hv0]
        have HF := Lib.hid (HI2.out hv0)
        clear HI2 HG HT HQ hz hmeas
        by_cases hnn : n < 0
        · have HF2 : Hid (baL (Lib.itoa n) = ⟨#[45]⟩ ++ t') := by rw [HF.out, if_pos hnn]; rfl
          clear HF
          go_wp2
          go_ret
          exact ⟨by rw [HF2.out]; rfl, hbx⟩
        · have HF2 : Hid (baL (Lib.itoa n) = t') := by rw [HF.out, if_neg hnn]; rfl
          clear HF
          go_wp2
          go_ret
          exact ⟨by rw [HF2.out]; rfl, hbx⟩
      · have hz2 : (q == 0) = false := by rw [hz]; simp [hv0]
        obtain ⟨g1, g2⟩ := HG.out hv0
        have HG2 := Lib.hid g1
        have hme := hmeas hv0
        clear HI2 HG hz hmeas g1
        go_wp2
        go_roundw
        case rel => exact ⟨v, t', _, rfl, by rw [HQ.out], by omega, fun _ => by omega, by omega, ⟨HT.out.symm, HG2.out, g2⟩, hbx⟩
        case measure => simp [intOf]; omega
end Go.Proofs.YtbnddpicpomakaaGreatDoor

/- The walks of hindsightref05.Quote and Unquote. -/
set_option linter.unusedSimpArgs false
set_option linter.unusedVariables false
set_option maxRecDepth 100000
namespace Go.Proofs.YtbnddpicpomakaaGreatDoor
set_option linter.unusedSimpArgs false
open Go.RowKit

def dblN : List Nat → List Nat
  | [] => []
  | c :: l => if c = 39 then 39 :: 39 :: dblN l else c :: dblN l
theorem dblN_app : ∀ a b : List Nat, dblN (a ++ b) = dblN a ++ dblN b
  | [], b => rfl
  | c :: a, b => by
    rw [List.cons_append, dblN, dblN, dblN_app a b]
    split <;> rfl
theorem dblN_take (l : List Nat) (k : Nat) (hk : k < l.length) : dblN (l.take (k + 1)) = dblN (l.take k) ++ (if l[k] = 39 then [39, 39] else [l[k]]) := by
  have e : dblN [l[k]] = if l[k] = 39 then [39, 39] else [l[k]] := by
    rw [dblN]
    split <;> rfl
  rw [List.take_add_one, List.getElem?_eq_getElem hk, dblN_app]
  exact congrArg _ e
theorem dblN_len : ∀ l : List Nat, (dblN l).length ≤ 2 * l.length
  | [] => Nat.le_refl _
  | c :: l => by
    have := dblN_len l
    rw [dblN]
    split <;> simp only [List.length_cons] <;> omega
theorem dbl_map : ∀ l : List UInt8, (dblL l).map UInt8.toNat = dblN (l.map UInt8.toNat)
  | [] => rfl
  | c :: l => by
    rw [dblL, List.map_cons, dblN]
    by_cases h : c = 39
    · subst h
      rw [if_pos rfl, if_pos (by rfl : UInt8.toNat 39 = 39), List.map_cons, List.map_cons, dbl_map l]; rfl
    · have h2 : c.toNat ≠ 39 := by
        intro h2
        apply h
        apply UInt8.toNat_inj.1
        rw [h2]; rfl
      rw [if_neg h, if_neg h2, List.map_cons, dbl_map l]

theorem strN_map (l : List UInt8) : strN (l.map UInt8.toNat) = baL l := by
  unfold strN baL
  have hid : (UInt8.ofNat ∘ UInt8.toNat) = id := by funext c; simp
  rw [List.map_map, hid, List.map_id]

theorem quoteS_N (s : ByteArray) : quoteS s = strN (39 :: (dblN (bytesU s) ++ [39])) := by
  unfold quoteS quoteL
  rw [← strN_map, List.map_cons, List.map_append, dbl_map]; rfl

theorem OwnB.newU (w : World) (base : Nat) (T : TypeId) (c : Nat) (n : Int) (g : Nat) (hn : n = (c : Int)) (hc : c < 256) (hb : base ≤ w.heap.size) (hg : g = w.heap.size) : OwnB (w.alloc (.cells #[.int .u8 n] T)) base T (.slice (some ⟨g, 0, none⟩) 1 1) [c] := by
  subst hn hg
  refine ⟨by simpa using hc, by simp, .inr ⟨w.heap.size, 1, #[.int .u8 (c : Int)], by simp, hb, heap_alloc_new _ _, by simp, by unfold maxLen; omega, by simp, by simp⟩⟩

set_option maxHeartbeats 2000000 in
theorem rQuote_any (s : ByteArray) (w : World) (hs : s.size ≤ 1000000) :
    Calls Tryz.prog 73 #[.string s] w fun e w' => e = .returned (.string (quoteS s)) ∧ Below w.heap.size w w' := by
  obtain ⟨i0, hi, hz0, hz1, hz2⟩ := info_parts Tryz.info5
  go_enter Tryz.func73, Tryz.ntmps73
  go_wp2
  go_loopw [3, 4] (fun v i wr => ∃ k : Nat, k ≤ s.size ∧ i = .int .i64 k ∧ OwnB wr w.heap.size 5 v (39 :: dblN ((bytesU s).take k)) ∧ Below w.heap.size w wr) (fun _ i _ => s.size - (intOf i).toNat)
  case atStart => exact ⟨0, by omega, rfl, OwnB.newU w w.heap.size 5 39 39 _ rfl (by omega) (Nat.le_refl _) rfl, (Below.refl _ w).alloc (Nat.le_refl _) _⟩
  case round =>
    obtain ⟨k, hk, rfl, hown, hb⟩ := hrel
    have hsz := hb.size
    have hle : (39 :: dblN ((bytesU s).take k)).length ≤ 2000001 := by
      have h1 := dblN_len ((bytesU s).take k)
      rw [List.length_take, bytesU_len] at h1
      rw [List.length_cons]; omega
    by_cases hlt : k < s.size
    · have hkl : k < (bytesU s).length := by rw [bytesU_len]; exact hlt
      have hx : (bytesU s)[k] = (s[k]'hlt).toNat := by simp [bytesU]; rfl
      have hm := dblN_take (bytesU s) k hkl
      rw [hx] at hm
      have HM := Lib.hid hm
      have hc256 := (s[k]'hlt).toNat_lt
      clear hx hm
      by_cases h39 : (s[k]'hlt).toNat = 39
      · have HM2 : Hid (39 :: dblN ((bytesU s).take (k + 1)) = ((39 :: dblN ((bytesU s).take k)) ++ [39]) ++ [39]) := by rw [HM.out, if_pos h39]; simp [Hid]
        have q39 : (((s[k]'hlt).toNat : Int) == 39) = true := by rw [h39]; rfl
        clear HM
        go_wp2_with (first
          | (at_builtin; refine wpList_app1 rfl _ _ 99 rfl w.heap.size 5 i0 Tryz.underlying99 hi hz0 hz1 hz2 _ _ wr hown rfl 39 (by omega) _ (by omega) rfl (by omega) hsz ?_; intro v1 w1 hown1 hb1' hsz1')
          | (at_builtin; refine wpList_app1 rfl _ _ 99 rfl w.heap.size 5 i0 Tryz.underlying99 hi hz0 hz1 hz2 _ _ w1 hown1 rfl 39 (by omega) _ rfl rfl (by rw [List.length_append]; simp only [List.length_cons, List.length_nil] at hle ⊢; omega) (hb.trans hb1').size ?_; intro v2 w2 hown2 hb2' hsz2'))
        go_roundw
        case rel => exact ⟨k + 1, by omega, by go_num, by rw [HM2.out]; exact hown2, (hb.trans hb1').trans hb2'⟩
        case measure => simp [intOf]; omega
      · have HM2 : Hid (39 :: dblN ((bytesU s).take (k + 1)) = (39 :: dblN ((bytesU s).take k)) ++ [(s[k]'hlt).toNat]) := by rw [HM.out, if_neg h39]; simp [Hid]
        have q39 : (((s[k]'hlt).toNat : Int) == 39) = false := by
          rw [Bool.eq_false_iff]; intro h; rw [beq_iff_eq] at h; omega
        clear HM
        go_wp2_with (at_builtin; refine wpList_app1 rfl _ _ 99 rfl w.heap.size 5 i0 Tryz.underlying99 hi hz0 hz1 hz2 _ _ wr hown rfl (s[k]'hlt).toNat (by omega) _ rfl rfl (by omega) hsz ?_; intro v1 w1 hown1 hb1' hsz1')
        go_roundw
        case rel => exact ⟨k + 1, by omega, by go_num, by rw [HM2.out]; exact hown1, hb.trans hb1'⟩
        case measure => simp [intOf]; omega
    · have hall : (bytesU s).take k = bytesU s := List.take_of_length_le (by rw [bytesU_len]; omega)
      rw [hall] at hown hle
      have HQ : Hid (strN (39 :: dblN (bytesU s) ++ [39]) = quoteS s) := (quoteS_N s).symm
      clear hall
      have HCV : Hid (∀ (v : Value) (w1 : World), OwnB w1 w.heap.size 5 v (39 :: dblN (bytesU s) ++ [39]) → (convert 99 9 v).run Tryz.prog w1 = .ok (.string (quoteS s)) w1) := fun v w1 h => by
        obtain ⟨a, cap, rfl, hcap, hB, _⟩ := h.slice
        rw [← HQ.out]
        exact hB.conv (P := Tryz.prog) 99 5 Tryz.underlying99 Tryz.underlying5 9 Tryz.underlying9 _ cap rfl
      clear HQ
      go_wp2_with (at_builtin; refine wpList_app1 rfl _ _ 99 rfl w.heap.size 5 i0 Tryz.underlying99 hi hz0 hz1 hz2 _ _ wr hown rfl 39 (by omega) _ rfl rfl (by omega) hsz ?_; intro v1 w1 hown1 hb1' hsz1'; have hcv1 := HCV.out v1 w1 hown1)
      go_ret
      exact ⟨rfl, hb.trans hb1'⟩

/-! Unquote. -/
theorem toListU_inj {a b : ByteArray} (h : a.toList = b.toList) : a = b := by
  rw [ByteArray.toList_eq, ByteArray.toList_eq] at h
  apply ByteArray.ext
  exact Array.toList_inj.1 h

def uL : List Nat → List Nat
  | [] => []
  | [_] => []
  | c :: d :: r => if c = 39 then c :: uL r else c :: uL (d :: r)

theorem uL_short {l : List Nat} (h : l.length ≤ 1) : uL l = [] := by
  match l, h with
  | [], _ => rfl
  | [_], _ => rfl
  | _ :: _ :: _, h => simp at h
theorem uL_len : ∀ (n : Nat) (l : List Nat), l.length ≤ n → (uL l).length ≤ l.length
  | _, [], _ => Nat.le_refl _
  | _, [_], _ => by simp [uL]
  | 0, _ :: _ :: _, h => by simp at h
  | n + 1, c :: d :: r, h => by
    rw [uL]
    simp only [List.length_cons] at h
    split
    · have := uL_len n r (by omega)
      simp only [List.length_cons]; omega
    · have := uL_len n (d :: r) (by simp only [List.length_cons]; omega)
      simp only [List.length_cons] at this ⊢; omega
theorem uL_back : ∀ x : List Nat, uL (dblN x ++ [39]) = x
  | [] => rfl
  | c :: x => by
    have ih := uL_back x
    rw [dblN]
    by_cases h : c = 39
    · subst h
      rw [if_pos rfl]
      show uL (39 :: 39 :: (dblN x ++ [39])) = _
      rw [uL, if_pos rfl, ih]
    · rw [if_neg h]
      show uL (c :: (dblN x ++ [39])) = _
      cases hd : dblN x ++ [39] with
      | nil => simp at hd
      | cons d r =>
        rw [uL, if_neg h, ← hd, ih]

theorem uL_step {l : List Nat} {k : Nat} (h : k + 1 < l.length) : uL (l.drop k) = if l[k] = 39 then l[k] :: uL (l.drop (k + 2)) else l[k] :: uL (l.drop (k + 1)) := by
  rw [List.drop_eq_getElem_cons (by omega : k < l.length), List.drop_eq_getElem_cons h, uL]

theorem unq_ref (s : ByteArray) : unquoteS s = if quoteS (strN (uL ((bytesU s).drop 1))) = s then (strN (uL ((bytesU s).drop 1)), 0) else (⟨#[]⟩, 3) := by
  have hback : ∀ x : List UInt8, s = baL (quoteL x) → strN (uL ((bytesU s).drop 1)) = baL x := by
    intro x hx
    have e : bytesU s = 39 :: (dblN (x.map UInt8.toNat) ++ [39]) := by
      rw [hx]
      show (quoteL x).map UInt8.toNat = _
      unfold quoteL
      rw [List.map_cons, List.map_append, dbl_map]; rfl
    rw [e]
    show strN (uL (dblN (x.map UInt8.toNat) ++ [39])) = _
    rw [uL_back, strN_map]
  have hsb : baL s.data.toList = s := by unfold baL; simp
  unfold unquoteS unquoteL
  by_cases h1 : quoteL (plainL s.data.toList) = s.data.toList
  · have hb := hback (plainL s.data.toList) (by rw [h1, hsb])
    rw [if_pos h1, hb, if_pos]
    unfold quoteS
    rw [baL_list, h1, hsb]
  · rw [if_neg h1, if_neg]
    · rfl
    · intro h2
      apply h1
      have h3 : s.data.toList = quoteL (strN (uL ((bytesU s).drop 1))).data.toList := by
        have := congrArg (fun t : ByteArray => t.data.toList) h2
        simp only [quoteS, baL_list] at this
        exact this.symm
      rw [h3, plain_quote]

set_option maxRecDepth 1000000 in
set_option maxHeartbeats 4000000 in
theorem rUnquote_any (s : ByteArray) (w : World) (hs : s.size ≤ 400000) :
    Calls Tryz.prog 64 #[.string s] w fun e w' => e = .returned (.tuple #[.string (unquoteS s).1, .int .i64 (unquoteS s).2]) ∧ Below w.heap.size w w' := by
  obtain ⟨i0, hi, hz0, hz1, hz2⟩ := info_parts Tryz.info5
  have HL := Lib.hid (bytesU_len s)
  have HU := Lib.hid (unq_ref s)
  have hul := uL_len _ ((bytesU s).drop 1) (Nat.le_refl _)
  rw [List.length_drop, HL.out] at hul
  go_enter Tryz.func64, Tryz.ntmps64
  go_wp2
  go_loopw [4, 5] (fun v i wr => ∃ (k : Nat) (q : List Nat), 1 ≤ k ∧ k ≤ s.size + 1 ∧ i = .int .i64 k ∧ OwnB wr w.heap.size 5 v q ∧ Hid (q ++ uL ((bytesU s).drop k) = uL ((bytesU s).drop 1)) ∧ Below w.heap.size w wr) (fun _ i _ => s.size - (intOf i).toNat)
  case atStart => exact ⟨1, [], by omega, by omega, rfl, OwnB.nil _ _ _, rfl, Below.refl _ _⟩
  case round =>
    obtain ⟨k, q, hk1, hk, rfl, hown, HQ, hb⟩ := hrel
    have hsz := hb.size
    have hql : q.length ≤ 400000 := by
      have h1 := congrArg List.length HQ.out
      rw [List.length_append] at h1
      omega
    by_cases hlt : k + 1 < s.size
    · have hlt' : k < s.size := by omega
      have hkl : k + 1 < (bytesU s).length := by rw [bytesU_len]; exact hlt
      have hx : (bytesU s)[k] = (s[k]'hlt').toNat := by simp [bytesU]; rfl
      have hm := uL_step hkl
      rw [hx] at hm
      have HM := Lib.hid hm
      have hc256 := (s[k]'hlt').toNat_lt
      have qc : decide (((k : Int) + 1) < (s.size : Int)) = true := by simp; omega
      clear hx hm hkl hul hlt
      by_cases h39 : (s[k]'hlt').toNat = 39
      · have HM2 : Hid ((q ++ [39]) ++ uL ((bytesU s).drop (k + 2)) = uL ((bytesU s).drop 1)) := by rw [← HQ.out, HM.out, if_pos h39, h39]; simp [Hid]
        have q39 : (((s[k]'hlt').toNat : Int) == 39) = true := by rw [h39]; rfl
        clear HM HQ
        go_wp2_with (at_builtin; refine wpList_app1 rfl _ _ 99 rfl w.heap.size 5 i0 Tryz.underlying99 hi hz0 hz1 hz2 _ _ wr hown rfl 39 (by omega) _ (by omega) rfl (by omega) hsz ?_; intro v1 w1 hown1 hb1' hsz1')
        go_roundw
        case rel => exact ⟨k + 2, _, by omega, by omega, by go_num, hown1, HM2, hb.trans hb1'⟩
        case measure => simp [intOf]; omega
      · have HM2 : Hid ((q ++ [(s[k]'hlt').toNat]) ++ uL ((bytesU s).drop (k + 1)) = uL ((bytesU s).drop 1)) := by rw [← HQ.out, HM.out, if_neg h39]; simp [Hid]
        have q39 : (((s[k]'hlt').toNat : Int) == 39) = false := by
          rw [Bool.eq_false_iff]; intro h; rw [beq_iff_eq] at h; omega
        clear HM HQ
        go_wp2_with (at_builtin; refine wpList_app1 rfl _ _ 99 rfl w.heap.size 5 i0 Tryz.underlying99 hi hz0 hz1 hz2 _ _ wr hown rfl (s[k]'hlt').toNat (by omega) _ rfl rfl (by omega) hsz ?_; intro v1 w1 hown1 hb1' hsz1')
        go_roundw
        case rel => exact ⟨k + 1, _, by omega, by omega, by go_num, hown1, HM2, hb.trans hb1'⟩
        case measure => simp [intOf]; omega
    · have hq : q = uL ((bytesU s).drop 1) := by
        rw [← HQ.out, uL_short (by rw [List.length_drop, HL.out]; omega), List.append_nil]
      clear HQ hul
      have HQr := Lib.hid (fun W => rQuote_any (strN q) W (by
        show (strN q).size ≤ 1000000
        unfold strN ByteArray.size
        simp; omega))
      rw [← hq] at HU
      clear hq
      obtain ⟨a, cap, rfl, hcap, hB, _⟩ := hown.slice
      have HCV : Hid (∀ W, Below wr.heap.size wr W → (convert 99 9 (.slice a q.length cap)).run Tryz.prog W = .ok (.string (strN q)) W) := fun W h => (hB.below h).conv (P := Tryz.prog) 99 5 Tryz.underlying99 Tryz.underlying5 9 Tryz.underlying9 _ cap rfl
      have hcv := HCV.out wr (Below.refl _ _)
      obtain ⟨t, ht⟩ : ∃ t, strN q = t := ⟨_, rfl⟩
      rw [ht] at HU HQr HCV hcv
      obtain ⟨u, hu⟩ : ∃ u, quoteS t = u := ⟨_, rfl⟩
      rw [hu] at HU HQr
      have qc : decide (((k : Int) + 1) < (s.size : Int)) = false := by simp; omega
      clear hB hown ht hu hlt
      go_wp2_with fail
      refine (HQr.out _).mono ?_
      rintro e w1 ⟨rfl, hb1⟩
      have hcv1 := HCV.out w1 hb1
      clear hcv HCV HQr
      by_cases hus : u = s
      · subst hus
        have HU2 : Hid (unquoteS u = (t, 0)) := by rw [HU.out, if_pos rfl]; rfl
        clear HU
        have qu2 : (u.toList == u.toList) = true := by simp
        go_wp2
        go_ret2
        exact ⟨by rw [HU2.out]; rfl, hb.trans (hb1.mono hsz)⟩
      · have HU2 : Hid (unquoteS s = (⟨#[]⟩, 3)) := by rw [HU.out, if_neg hus]; rfl
        clear HU
        have qu : (u.toList == s.toList) = false := by
          rw [Bool.eq_false_iff]
          intro h
          rw [beq_iff_eq] at h
          exact hus (toListU_inj h)
        go_wp2
        go_ret2
        exact ⟨by rw [HU2.out]; rfl, hb.trans (hb1.mono hsz)⟩
end Go.Proofs.YtbnddpicpomakaaGreatDoor
