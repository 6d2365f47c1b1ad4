/- Several texts of one proof, one behind the other. -/
import Derived.Test.YtjhdlbkcpdfpcaaDoorFPk12
import Derived.Test.YtjhdlbkcpdfpcaaDoorRows
import Derived.Lib.LaidU8
import Derived.PinnedBridge
import Derived.Stop.LaidErr
import Derived.RowKitTokens
import Derived.Stop.ErrReads
import Derived.Handed
set_option linter.unusedSimpArgs false
set_option linter.unusedVariables false

/- Unlike expressions have unlike texts: what a text looks like, and the theorem. -/
set_option linter.unusedSimpArgs false
set_option linter.unusedVariables false
set_option maxRecDepth 100000
namespace Go.Proofs.YtjhdlbkcpdfpcaaDoor
open Go.RowKit

abbrev E0 : ByteArray := ⟨#[]⟩
def LX (e : Ex) : List UInt8 := bL (textX e)
theorem size0 {s : ByteArray} (h : s.size = 0) : s = E0 := bL_nil (by
  have : (bL s).length = 0 := by simpa [bL] using h
  exact List.length_eq_zero_iff.1 this)

def okOp (kd : Int) (op : ByteArray) : Prop := (kd = 6 ∧ (inL aggL op = true ∨ inL countL op = true)) ∨ (kd = 7 ∧ (inL callL op = true ∨ inL lenL op = true))
/-- Which expressions there are. -/
inductive Sx : Ex → Prop
  | str (s) : Sx (.mk ⟨1, ⟨2, 0, s⟩, E0, E0, E0⟩ [])
  | blob (s) : Sx (.mk ⟨1, ⟨3, 0, s⟩, E0, E0, E0⟩ [])
  | null : Sx (.mk ⟨1, ⟨0, 0, E0⟩, E0, E0, E0⟩ [])
  | num (n : Nat) : Sx (.mk ⟨1, ⟨1, n, E0⟩, E0, E0, E0⟩ [])
  | col0 (nm) (hn : isX nm = true) : Sx (.mk ⟨2, vZ, E0, nm, E0⟩ [])
  | col1 (tb nm) (hn : isX nm = true) (ht : isX tb = true) : Sx (.mk ⟨2, vZ, tb, nm, E0⟩ [])
  | un (op x) (h : inL unL op = true) : Sx (.mk ⟨3, vZ, E0, E0, op⟩ [x])
  | bin (op x y) (h : inL binL op = true) : Sx (.mk ⟨4, vZ, E0, E0, op⟩ [x, y])
  | nul (op x) (h : inL nullL op = true) : Sx (.mk ⟨5, vZ, E0, E0, op⟩ [x])
  | app (kd op xs) (h : okOp kd op) : Sx (.mk ⟨kd, vZ, E0, E0, op⟩ xs)

theorem zeroB_eq {v : Vl} (h : v.zeroB = true) : v = vZ := by
  obtain ⟨k, n, s⟩ := v
  unfold Vl.zeroB at h
  simp only [Bool.and_eq_true, beq_iff_eq] at h
  obtain ⟨h1, h2, h3⟩ := h
  rw [show k = 0 by omega, h2, bL_empty h3]; rfl
theorem shape (l : Lb) (r : List Ex) (h : l.ok r.length = true) : Sx (.mk l r) := by
  obtain ⟨kd, v, tb, nm, op⟩ := l
  unfold Lb.ok at h
  simp only at h
  split at h
  · rename_i hk
    subst hk
    simp only [Bool.and_eq_true, decide_eq_true_iff, beq_iff_eq] at h
    obtain ⟨⟨⟨⟨⟨h1, h2⟩, h3⟩, h4⟩, h5⟩, h6⟩ := h
    rw [bL_empty h3, bL_empty h4, bL_empty h5, List.length_eq_zero_iff.1 (show r.length = 0 by omega)]
    obtain ⟨k, n, s⟩ := v
    unfold Vl.right at h1
    simp only at h1 h2
    split at h1
    · rename_i hk
      subst hk
      simp only [Bool.and_eq_true, decide_eq_true_iff] at h1
      rw [h1.1, size0 h1.2]
      exact .null
    · split at h1
      · rename_i hk
        subst hk
        rw [size0 (of_decide_eq_true h1)]
        obtain ⟨m, rfl⟩ := Int.eq_ofNat_of_zero_le h2
        exact .num m
      · split at h1
        · rename_i hk
          rw [of_decide_eq_true h1]
          rcases hk with rfl | rfl
          · exact .str s
          · exact .blob s
        · cases h1
  · split at h
    · rename_i hk
      subst hk
      simp only [Bool.and_eq_true, Bool.or_eq_true, beq_iff_eq] at h
      obtain ⟨⟨⟨⟨h1, h2⟩, h3⟩, h4⟩, h5⟩ := h
      rw [zeroB_eq h3, bL_empty h4, List.length_eq_zero_iff.1 (show r.length = 0 by omega)]
      rcases h2 with h2 | h2
      · rw [bL_empty h2]; exact .col0 nm h1
      · exact .col1 tb nm h1 h2
    · simp only [Bool.and_eq_true] at h
      obtain ⟨⟨⟨h1, h2⟩, h3⟩, h4⟩ := h
      rw [zeroB_eq h2, bL_empty h3, bL_empty h4]
      unfold takesB at h1
      split at h1
      · rename_i hk
        subst hk
        simp only [Bool.and_eq_true, decide_eq_true_iff] at h1
        obtain ⟨x, rfl⟩ := List.length_eq_one_iff.1 h1.1
        exact .un op x h1.2
      · split at h1
        · rename_i hk
          subst hk
          simp only [Bool.and_eq_true, decide_eq_true_iff] at h1
          obtain ⟨x, y, rfl⟩ : ∃ x y, r = [x, y] := by
            have h2 := h1.1
            rcases r with _ | ⟨x, _ | ⟨y, _ | ⟨z, t⟩⟩⟩
            · simp at h2
            · simp at h2
            · exact ⟨x, y, rfl⟩
            · simp at h2
          exact .bin op x y h1.2
        · split at h1
          · rename_i hk
            subst hk
            simp only [Bool.and_eq_true, decide_eq_true_iff] at h1
            obtain ⟨x, rfl⟩ := List.length_eq_one_iff.1 h1.1
            exact .nul op x h1.2
          · split at h1
            · rename_i hk
              simp only [Bool.or_eq_true, Bool.and_eq_true] at h1
              refine .app kd op r (.inl ⟨hk, ?_⟩)
              rcases h1 with h1 | h1
              · exact .inl h1.1
              · exact .inr h1.1
            · split at h1
              · rename_i hk
                simp only [Bool.or_eq_true, Bool.and_eq_true] at h1
                refine .app kd op r (.inr ⟨hk, ?_⟩)
                rcases h1 with h1 | h1
                · exact .inl h1.1
                · exact .inr h1.1
              · cases h1

theorem LX_eq (l : Lb) (r : List Ex) : LX (.mk l r) = bL (l.textOf (r.map textX)) := by
  unfold LX; rw [textX_eq]; rfl
theorem lit_eq (v : Vl) : LX (.mk ⟨1, v, E0, E0, E0⟩ []) = bL v.tk.text.1 := by
  rw [LX_eq, ← Vl.litS_eq]; rfl
/-- The texts of a call's arguments. -/
def inn : List Ex → List UInt8
  | [] => [42]
  | x :: r => LX x ++ Lib.joinTail [44, 32] (r.map LX)

inductive Gq : Ex → List UInt8 → List UInt8 → Prop
  | str (s) : Gq (.mk ⟨1, ⟨2, 0, s⟩, E0, E0, E0⟩ []) [] (bL s)
  | blob (s) : Gq (.mk ⟨1, ⟨3, 0, s⟩, E0, E0, E0⟩ []) [120] (bL (hexS s))
inductive Gw : Ex → List UInt8 → Prop
  | null : Gw (.mk ⟨1, ⟨0, 0, E0⟩, E0, E0, E0⟩ []) [110, 117, 108, 108]
  | num (n : Nat) : Gw (.mk ⟨1, ⟨1, n, E0⟩, E0, E0, E0⟩ []) (Lib.decDigits n)
  | col0 (nm) (hn : isX nm = true) : Gw (.mk ⟨2, vZ, E0, nm, E0⟩ []) (bL nm)
  | col1 (tb nm) (hn : isX nm = true) (ht : isX tb = true) : Gw (.mk ⟨2, vZ, tb, nm, E0⟩ []) (bL tb ++ 46 :: bL nm)
inductive Gp : Ex → List UInt8 → List UInt8 → Prop
  | un (op x) (h : inL unL op = true) : Gp (.mk ⟨3, vZ, E0, E0, op⟩ [x]) [] (bL op ++ 32 :: LX x)
  | bin (op x y) (h : inL binL op = true) : Gp (.mk ⟨4, vZ, E0, E0, op⟩ [x, y]) [] (LX x ++ 32 :: (bL op ++ 32 :: LX y))
  | nul (op x) (h : inL nullL op = true) : Gp (.mk ⟨5, vZ, E0, E0, op⟩ [x]) [] (LX x ++ 32 :: bL op)
  | app (kd op xs) (h : okOp kd op) : Gp (.mk ⟨kd, vZ, E0, E0, op⟩ xs) (bL op) (inn xs)

theorem joinS_bL (xs : List Ex) : bL (joinS (xs.map textX) ⟨#[44, 32]⟩) = Lib.join (xs.map LX) [44, 32] := by
  unfold joinS joinL
  rw [bL_baL, List.map_map]; rfl
theorem app_text (kd : Int) (op : ByteArray) (xs : List Ex) (h : kd = 6 ∨ kd = 7) : LX (.mk ⟨kd, vZ, E0, E0, op⟩ xs) = bL op ++ 40 :: (inn xs ++ [41]) := by
  rw [LX_eq]
  unfold Lb.textOf
  simp only
  rw [if_neg (by omega), if_neg (by omega), if_neg (by omega), if_neg (by omega), if_neg (by omega)]
  cases xs with
  | nil => rw [List.map_nil, if_pos (by rfl : ([] : List ByteArray).isEmpty = true), bL_app]; rfl
  | cons x r =>
    rw [if_neg (by simp), bL_app, bL_app, bL_app, joinS_bL, List.map_cons, Lib.join_cons, inn]
    simp [bL]
/-- Each expression is one of three kinds. -/
theorem forms {e : Ex} (h : Sx e) : (∃ a s, Gq e a s ∧ LX e = a ++ 39 :: (dblL s ++ [39])) ∨ (∃ a, Gw e a ∧ LX e = a) ∨ (∃ a i, Gp e a i ∧ LX e = a ++ 40 :: (i ++ [41])) := by
  cases h with
  | str s =>
    refine .inl ⟨_, _, .str s, ?_⟩
    rw [lit_eq]; exact bL_baL _
  | blob s =>
    refine .inl ⟨_, _, .blob s, ?_⟩
    rw [lit_eq]
    show bL ((⟨#[120]⟩ : ByteArray) ++ quoteS (hexS s)) = _
    rw [bL_app]
    show [120] ++ bL (baL _) = _
    rw [bL_baL]; rfl
  | null => exact .inr (.inl ⟨_, .null, by rw [lit_eq]; rfl⟩)
  | num n =>
    refine .inr (.inl ⟨_, .num n, ?_⟩)
    rw [lit_eq]
    show bL (baL (Lib.itoa n)) = _
    rw [bL_baL, Lib.itoa_nonneg]
  | col0 nm hn =>
    refine .inr (.inl ⟨_, .col0 nm hn, ?_⟩)
    rw [LX_eq]
    show bL (Lb.colS _) = _
    unfold Lb.colS
    rw [if_pos (by show E0.toList.isEmpty = true; rw [ByteArray.toList_eq]; rfl)]
  | col1 tb nm hn ht =>
    refine .inr (.inl ⟨_, .col1 tb nm hn ht, ?_⟩)
    rw [LX_eq]
    show bL (Lb.colS _) = _
    unfold Lb.colS
    rw [if_neg (fun he => (isX_bytes ht).1 (by rw [show tb = E0 from bL_empty he]; rfl)), bL_app, bL_app]
    simp [bL]
  | un op x h =>
    refine .inr (.inr ⟨_, _, .un op x h, ?_⟩)
    rw [LX_eq]
    show bL ((⟨#[40]⟩ : ByteArray) ++ op ++ ⟨#[32]⟩ ++ textX x ++ ⟨#[41]⟩) = _
    rw [bL_app, bL_app, bL_app, bL_app]
    simp [bL, LX]
  | bin op x y h =>
    refine .inr (.inr ⟨_, _, .bin op x y h, ?_⟩)
    rw [LX_eq]
    show bL ((⟨#[40]⟩ : ByteArray) ++ textX x ++ ⟨#[32]⟩ ++ op ++ ⟨#[32]⟩ ++ textX y ++ ⟨#[41]⟩) = _
    rw [bL_app, bL_app, bL_app, bL_app, bL_app, bL_app]
    simp [bL, LX]
  | nul op x h =>
    refine .inr (.inr ⟨_, _, .nul op x h, ?_⟩)
    rw [LX_eq]
    show bL ((⟨#[40]⟩ : ByteArray) ++ textX x ++ ⟨#[32]⟩ ++ op ++ ⟨#[41]⟩) = _
    rw [bL_app, bL_app, bL_app, bL_app]
    simp [bL, LX]
  | app kd op xs h => exact .inr (.inr ⟨_, _, .app kd op xs h, app_text kd op xs (h.elim (fun h => .inl h.1) (fun h => .inr h.1))⟩)

theorem inL_mem {L : List (List Nat)} {op : ByteArray} (h : inL L op = true) : ∃ l ∈ L, bL op = l.map UInt8.ofNat := by
  unfold inL at h
  obtain ⟨l, hl, he⟩ := List.any_eq_true.1 h
  refine ⟨l, hl, ?_⟩
  rw [beq_iff_eq, ByteArray.toList_eq] at he
  exact he
theorem op_wb {L : List (List Nat)} {op : ByteArray} (h : inL L op = true) (hL : ∀ l ∈ L, ∀ c ∈ l.map UInt8.ofNat, wb c = true) : ∀ c ∈ bL op, wb c = true := by
  obtain ⟨l, hl, he⟩ := inL_mem h
  rw [he]; exact hL l hl
theorem okOp_wb {kd : Int} {op : ByteArray} (h : okOp kd op) : ∀ c ∈ bL op, wb c = true := by
  rcases h with ⟨_, h | h⟩ | ⟨_, h | h⟩ <;> exact op_wb h (by decide)
theorem okOp_ne {kd : Int} {op : ByteArray} (h : okOp kd op) : ∃ c t, bL op = c :: t ∧ c ≠ 42 := by
  rcases h with ⟨_, h | h⟩ | ⟨_, h | h⟩ <;> obtain ⟨l, hl, he⟩ := inL_mem h <;> simp only [aggL, countL, callL, lenL, List.mem_cons, List.not_mem_nil, or_false] at hl
  · rcases hl with rfl | rfl | rfl | rfl <;> exact ⟨_, _, he, by decide⟩
  · subst hl; exact ⟨_, _, he, by decide⟩
  · rcases hl with rfl | rfl <;> exact ⟨_, _, he, by decide⟩
  · subst hl; exact ⟨_, _, he, by decide⟩
theorem ops_apart : ∀ l ∈ aggL ++ countL, ∀ m ∈ callL ++ lenL, l.map UInt8.ofNat ≠ m.map UInt8.ofNat := by decide
theorem okOp_kd {kd kd' : Int} {op : ByteArray} (h : okOp kd op) (h' : okOp kd' op) : kd = kd' := by
  rcases h with ⟨rfl, h⟩ | ⟨rfl, h⟩ <;> rcases h' with ⟨rfl, h'⟩ | ⟨rfl, h'⟩
  · rfl
  · exfalso
    rcases h with h | h <;> rcases h' with h' | h' <;> obtain ⟨l, hl, he⟩ := inL_mem h <;> obtain ⟨m, hm, he'⟩ := inL_mem h' <;> rw [he] at he' <;> exact ops_apart l (by simp [hl]) m (by simp [hm]) he'
  · exfalso
    rcases h with h | h <;> rcases h' with h' | h' <;> obtain ⟨l, hl, he⟩ := inL_mem h <;> obtain ⟨m, hm, he'⟩ := inL_mem h' <;> rw [he] at he' <;> exact ops_apart m (by simp [hm]) l (by simp [hl]) he'.symm
  · rfl

theorem Gq_inj {e e' : Ex} {a s a' s' : List UInt8} (h : Gq e a s) (h' : Gq e' a' s') (ha : a = a') (hs : s = s') : e = e' := by
  cases h <;> cases h'
  · rw [bL_inj hs]
  · cases ha
  · cases ha
  · rw [hexS_inj hs]
theorem Gq_wb {e : Ex} {a s : List UInt8} (h : Gq e a s) : ∀ c ∈ a, wb c = true := by
  cases h
  · intro c hc; cases hc
  · intro c hc; rw [List.mem_singleton.1 hc]; decide
theorem Gw_wb {e : Ex} {a : List UInt8} (h : Gw e a) : ∀ c ∈ a, wb c = true := by
  cases h with
  | null => decide
  | num n => intro c hc; have := dec_dig n c hc; exact wb_of (by omega)
  | col0 nm hn => intro c hc; exact nch_wb ((isX_bytes hn).2.1 c hc)
  | col1 tb nm hn ht =>
    intro c hc
    rcases List.mem_append.1 hc with hc | hc
    · exact nch_wb ((isX_bytes ht).2.1 c hc)
    · rcases List.mem_cons.1 hc with rfl | hc
      · decide
      · exact nch_wb ((isX_bytes hn).2.1 c hc)
theorem Gp_wb {e : Ex} {a i : List UInt8} (h : Gp e a i) : ∀ c ∈ a, wb c = true := by
  cases h
  · intro c hc; cases hc
  · intro c hc; cases hc
  · intro c hc; cases hc
  · rename_i h; exact okOp_wb h
theorem col_dot {nm : ByteArray} (hn : isX nm = true) {l : List UInt8} (h : bL nm = l) (hd : (46 : UInt8) ∈ l) : False := nch_ne ((isX_bytes hn).2.1 46 (by rw [h]; exact hd)) rfl
theorem num_name {n : Nat} {nm : ByteArray} (hn : isX nm = true) {l : List UInt8} (h : Lib.decDigits n = bL nm ++ l) : False := by
  obtain ⟨h1, _, h3, _⟩ := isX_bytes hn
  cases hl : bL nm with
  | nil => exact h1 hl
  | cons c t =>
    have h4 := h3 c (by rw [hl]; rfl)
    exact h4 (dec_dig n c (by rw [h, hl]; simp))
theorem null_name {nm : ByteArray} (hn : isX nm = true) (h : bL nm = [110, 117, 108, 108]) : False := by
  have h4 := (isX_bytes hn).2.2.2
  have : nm = ⟨#[110, 117, 108, 108]⟩ := bL_inj h
  rw [this] at h4
  exact absurd h4 (by decide +kernel)
theorem not_name {nm : ByteArray} (hn : isX nm = true) (h : bL nm = [110, 111, 116]) : False := by
  have h4 := (isX_bytes hn).2.2.2
  have : nm = ⟨#[110, 111, 116]⟩ := bL_inj h
  rw [this] at h4
  exact absurd h4 (by decide +kernel)
theorem Gw_inj {e e' : Ex} {a a' : List UInt8} (h : Gw e a) (h' : Gw e' a') (ha : a = a') : e = e' := by
  cases h with
  | null =>
    cases h' with
    | null => rfl
    | num n => have := dec_dig n 110 (by rw [← ha]; simp); exact absurd this (by decide)
    | col0 nm hn => exact (null_name hn ha.symm).elim
    | col1 tb nm hn ht =>
      have : (46 : UInt8) ∈ [110, 117, 108, 108] := by rw [ha]; simp
      exact absurd this (by decide)
  | num n =>
    cases h' with
    | null => have := dec_dig n 110 (by rw [ha]; simp); exact absurd this (by decide)
    | num m => have := congrArg valD ha; rw [valD_dec, valD_dec] at this; rw [this]
    | col0 nm hn => exact (num_name hn (l := []) (by rw [ha]; simp)).elim
    | col1 tb nm hn ht => exact (num_name ht ha).elim
  | col0 nm hn =>
    cases h' with
    | null => exact (null_name hn ha).elim
    | num n => exact (num_name hn (l := []) (by rw [← ha]; simp)).elim
    | col0 nm' hn' => rw [bL_inj ha]
    | col1 tb nm' hn' ht => exact (col_dot hn ha (by simp)).elim
  | col1 tb nm hn ht =>
    cases h' with
    | null =>
      have : (46 : UInt8) ∈ [110, 117, 108, 108] := by rw [← ha]; simp
      exact absurd this (by decide)
    | num n => exact (num_name ht ha.symm).elim
    | col0 nm' hn' => exact (col_dot hn' ha.symm (by simp)).elim
    | col1 tb' nm' hn' ht' =>
      obtain ⟨h1, h2⟩ := run_of (fun c => c != 46) _ _ _ _ (fun c hc => by simpa using nch_ne ((isX_bytes ht).2.1 c hc)) (fun c hc => by simpa using nch_ne ((isX_bytes ht').2.1 c hc)) (fun c hc => by simp at hc; rw [← hc]; rfl) (fun c hc => by simp at hc; rw [← hc]; rfl) ha
      injection h2 with _ h2
      rw [bL_inj h1, bL_inj h2]
/-- A word is neither '-' nor 'not'. -/
theorem Gw_un {e : Ex} {op : ByteArray} {a : List UInt8} (h : Gw e a) (ho : inL unL op = true) (ha : bL op = a) : False := by
  obtain ⟨l, hl, he⟩ := inL_mem ho
  rw [he] at ha
  simp only [unL, List.mem_cons, List.not_mem_nil, or_false] at hl
  cases h with
  | null => rcases hl with rfl | rfl <;> revert ha <;> decide
  | num n =>
    rcases hl with rfl | rfl
    · have := dec_dig n 45 (by rw [← ha]; simp); exact absurd this (by decide)
    · have := dec_dig n 110 (by rw [← ha]; simp); exact absurd this (by decide)
  | col0 nm hn =>
    rcases hl with rfl | rfl
    · have := (isX_bytes hn).2.1 45 (by rw [← ha]; simp); unfold nch at this; exact absurd this (by decide)
    · exact not_name hn ha.symm
  | col1 tb nm hn ht =>
    rcases hl with rfl | rfl
    · have : (46 : UInt8) ∈ [45].map UInt8.ofNat := by rw [ha]; simp
      exact absurd this (by decide)
    · have : (46 : UInt8) ∈ [110, 111, 116].map UInt8.ofNat := by rw [ha]; simp
      exact absurd this (by decide)
end Go.Proofs.YtjhdlbkcpdfpcaaDoor

/- Unlike expressions have unlike texts. -/
set_option linter.unusedSimpArgs false
set_option linter.unusedVariables false
set_option maxRecDepth 100000
namespace Go.Proofs.YtjhdlbkcpdfpcaaDoor
open Go.RowKit

theorem LX_head {e : Ex} (h : Sx e) : ∃ c t, LX e = c :: t ∧ c ≠ 42 := by
  rcases forms h with ⟨a, s, hq, hx⟩ | ⟨a, hw, hx⟩ | ⟨a, i, hp, hx⟩
  · cases hq with
    | str s => exact ⟨_, _, hx, by decide⟩
    | blob s => exact ⟨_, _, hx, by decide⟩
  · cases hw with
    | null => exact ⟨_, _, hx, by decide⟩
    | num n =>
      cases hl : Lib.decDigits n with
      | nil => exact (dec_ne n hl).elim
      | cons c t =>
        have := dec_dig n c (by rw [hl]; simp)
        exact ⟨c, t, by rw [hx, hl], by rintro rfl; exact absurd this (by decide)⟩
    | col0 nm hn =>
      cases hl : bL nm with
      | nil => exact ((isX_bytes hn).1 hl).elim
      | cons c t =>
        have := (isX_bytes hn).2.1 c (by rw [hl]; simp)
        exact ⟨c, t, by rw [hx, hl], by rintro rfl; unfold nch at this; exact absurd this (by decide)⟩
    | col1 tb nm hn ht =>
      cases hl : bL tb with
      | nil => exact ((isX_bytes ht).1 hl).elim
      | cons c t =>
        have := (isX_bytes ht).2.1 c (by rw [hl]; simp)
        exact ⟨c, _, by rw [hx, hl]; rfl, by rintro rfl; unfold nch at this; exact absurd this (by decide)⟩
  · cases hp with
    | un => exact ⟨_, _, hx, by decide⟩
    | bin => exact ⟨_, _, hx, by decide⟩
    | nul => exact ⟨_, _, hx, by decide⟩
    | app kd op xs hk =>
      obtain ⟨c, t, hc, hn⟩ := okOp_ne hk
      exact ⟨c, _, by rw [hx, hc]; rfl, hn⟩

/-- The text tells the expression, whatever may stand behind it. -/
def Tells (x : Ex) : Prop := x.allB Lb.ok = true → ∀ y : Ex, y.allB Lb.ok = true → ∀ r r', Dl r → Dl r' → LX x ++ r = LX y ++ r' → x = y ∧ r = r'
theorem sx_of {e : Ex} (h : e.allB Lb.ok = true) : Sx e := by
  rw [Rose.allB_eq, Bool.and_eq_true] at h
  rw [← e.eta]; exact shape _ _ h.1
theorem arg_of {l : Lb} {args : List Ex} (h : (Rose.mk l args).allB Lb.ok = true) : ∀ x ∈ args, x.allB Lb.ok = true := by
  rw [Rose.allB_eq, Bool.and_eq_true, List.all_eq_true] at h
  exact h.2

theorem tails_tell : ∀ (xs ys : List Ex), (∀ x ∈ xs, Tells x) → (∀ x ∈ xs, x.allB Lb.ok = true) → (∀ y ∈ ys, y.allB Lb.ok = true) → ∀ r r', Lib.joinTail [44, 32] (xs.map LX) ++ 41 :: r = Lib.joinTail [44, 32] (ys.map LX) ++ 41 :: r' → xs = ys ∧ r = r'
  | [], [], _, _, _, r, r', h => ⟨rfl, by simpa [Lib.joinTail] using h⟩
  | [], y :: ys, _, _, _, r, r', h => by simp [Lib.joinTail] at h
  | x :: xs, [], _, _, _, r, r', h => by simp [Lib.joinTail] at h
  | x :: xs, y :: ys, hT, hx, hy, r, r', h => by
    simp only [Lib.joinTail, List.map_cons, List.flatten_cons, List.cons_append, List.nil_append, List.append_assoc, List.cons.injEq, true_and] at h
    have hd : ∀ (zs : List Ex) q, Dl (Lib.joinTail [44, 32] (zs.map LX) ++ 41 :: q) := fun zs q => by
      cases zs with
      | nil => exact Dl.cl q
      | cons z zs => simp only [Lib.joinTail, List.map_cons, List.flatten_cons, List.cons_append, List.nil_append, List.append_assoc]; exact Dl.co _
    obtain ⟨h1, h2⟩ := hT x (by simp) (hx x (by simp)) y (hy y (by simp)) _ _ (hd xs r) (hd ys r') h
    obtain ⟨h3, h4⟩ := tails_tell xs ys (fun z hz => hT z (by simp [hz])) (fun z hz => hx z (by simp [hz])) (fun z hz => hy z (by simp [hz])) r r' h2
    exact ⟨by rw [h1, h3], h4⟩
theorem inn_tell (xs ys : List Ex) (hT : ∀ x ∈ xs, Tells x) (hx : ∀ x ∈ xs, x.allB Lb.ok = true) (hy : ∀ y ∈ ys, y.allB Lb.ok = true) (r r' : List UInt8) (h : inn xs ++ 41 :: r = inn ys ++ 41 :: r') : xs = ys ∧ r = r' := by
  have hd : ∀ (zs : List Ex) q, Dl (Lib.joinTail [44, 32] (zs.map LX) ++ 41 :: q) := fun zs q => by
    cases zs with
    | nil => exact Dl.cl q
    | cons z zs => simp only [Lib.joinTail, List.map_cons, List.flatten_cons, List.cons_append, List.nil_append, List.append_assoc]; exact Dl.co _
  cases xs with
  | nil =>
    cases ys with
    | nil => exact ⟨rfl, by simpa [inn] using h⟩
    | cons y ys =>
      obtain ⟨c, t, hc, hn⟩ := LX_head (sx_of (hy y (by simp)))
      rw [inn, inn, hc] at h
      simp only [List.cons_append, List.cons.injEq] at h
      exact absurd h.1.symm hn
  | cons x xs =>
    cases ys with
    | nil =>
      obtain ⟨c, t, hc, hn⟩ := LX_head (sx_of (hx x (by simp)))
      rw [inn, inn, hc] at h
      simp only [List.cons_append, List.cons.injEq] at h
      exact absurd h.1 hn
    | cons y ys =>
      rw [inn, inn, List.append_assoc, List.append_assoc] at h
      obtain ⟨h1, h2⟩ := hT x (by simp) (hx x (by simp)) y (hy y (by simp)) _ _ (hd xs r) (hd ys r') h
      obtain ⟨h3, h4⟩ := tails_tell xs ys (fun z hz => hT z (by simp [hz])) (fun z hz => hx z (by simp [hz])) (fun z hz => hy z (by simp [hz])) r r' h2
      exact ⟨by rw [h1, h3], h4⟩

theorem hd_no {c : UInt8} {t : List UInt8} (h : wb c = false) : ∀ d, (c :: t).head? = some d → wb d = false := fun d hd => by
  simp at hd; rw [← hd]; exact h
theorem unL_wb {op : ByteArray} (h : inL unL op = true) : ∀ c ∈ bL op, wb c = true := op_wb h (by decide)
theorem binL_wb {op : ByteArray} (h : inL binL op = true) : ∀ c ∈ bL op, wb c = true := op_wb h (by decide)
/-- '-' or 'not' and a blank begins no expression and a blank. -/
theorem un_no {x : Ex} {op : ByteArray} {t t' : List UInt8} (hx : Sx x) (ho : inL unL op = true) (h : bL op ++ 32 :: t = LX x ++ 32 :: t') : False := by
  rcases forms hx with ⟨a, s, hq, he⟩ | ⟨a, hw, he⟩ | ⟨a, i, hp, he⟩
  · rw [he, List.append_assoc, List.cons_append] at h
    have := (run_of wb _ _ _ _ (unL_wb ho) (Gq_wb hq) (hd_no (by decide)) (hd_no (by decide)) h).2
    injection this with h1 _
    exact absurd h1 (by decide)
  · rw [he] at h
    exact Gw_un hw ho (run_of wb _ _ _ _ (unL_wb ho) (Gw_wb hw) (hd_no (by decide)) (hd_no (by decide)) h).1
  · rw [he, List.append_assoc, List.cons_append] at h
    have := (run_of wb _ _ _ _ (unL_wb ho) (Gp_wb hp) (hd_no (by decide)) (hd_no (by decide)) h).2
    injection this with h1 _
    exact absurd h1 (by decide)
theorem bin_is : ∀ l ∈ binL, l.map UInt8.ofNat ≠ [105, 115] := by decide
/-- A sign between two is not the one behind one. -/
theorem bin_nul {op op' : ByteArray} {t t' : List UInt8} (ho : inL binL op = true) (ho' : inL nullL op' = true) (h : bL op ++ 32 :: t = bL op' ++ 41 :: t') : False := by
  obtain ⟨m, hm, he'⟩ := inL_mem ho'
  have h2 : ∃ t2, bL op' ++ 41 :: t' = [105, 115] ++ 32 :: t2 := by
    rw [he']
    simp only [nullL, List.mem_cons, List.not_mem_nil, or_false] at hm
    rcases hm with rfl | rfl <;> exact ⟨_, rfl⟩
  obtain ⟨t2, h2⟩ := h2
  rw [h2] at h
  have h3 := (run_of wb _ _ _ _ (binL_wb ho) (by decide) (hd_no (by decide)) (hd_no (by decide)) h).1
  obtain ⟨l, hl, he⟩ := inL_mem ho
  rw [he] at h3
  exact bin_is l hl h3
theorem nul_nul {op op' : ByteArray} {t t' : List UInt8} (ho : inL nullL op = true) (ho' : inL nullL op' = true) (h : bL op ++ 41 :: t = bL op' ++ 41 :: t') : op = op' ∧ t = t' := by
  obtain ⟨l, hl, he⟩ := inL_mem ho
  obtain ⟨m, hm, he'⟩ := inL_mem ho'
  rw [he, he'] at h
  simp only [nullL, List.mem_cons, List.not_mem_nil, or_false] at hl hm
  rcases hl with rfl | rfl <;> rcases hm with rfl | rfl
  · exact ⟨bL_inj (he.trans he'.symm), by simpa using h⟩
  · simp at h
  · simp at h
  · exact ⟨bL_inj (he.trans he'.symm), by simpa using h⟩
theorem Dl.ne {r : List UInt8} (h : Dl r) {c : UInt8} (hn : ¬ (c = 32 ∨ c = 41 ∨ c = 44)) {t : List UInt8} (he : c :: t = r) : False := by
  subst he
  exact hn (h c rfl)
theorem Dl.head {r : List UInt8} (h : Dl r) : r.head? ≠ some 39 := fun hc => by
  rcases h 39 hc with h | h | h <;> exact absurd h (by decide)

theorem tells : ∀ e : Ex, Tells e := by
  intro e
  induction e using Rose.ind with
  | h l args ih =>
  intro hx y hy r r' hr hr' h
  have hax := arg_of hx
  rcases forms (sx_of hx) with ⟨a, s, hq, he⟩ | ⟨a, hw, he⟩ | ⟨a, i, hp, he⟩ <;> rcases forms (sx_of hy) with ⟨a', s', hq', he'⟩ | ⟨a', hw', he'⟩ | ⟨a', i', hp', he'⟩ <;> rw [he, he'] at h <;> (try simp only [List.append_assoc, List.cons_append, List.nil_append] at h)
  · obtain ⟨h1, h2⟩ := run_of wb _ _ _ _ (Gq_wb hq) (Gq_wb hq') (hd_no (by decide)) (hd_no (by decide)) h
    injection h2 with _ h2
    obtain ⟨h3, h4⟩ := dbl_inj _ _ _ _ hr.head hr'.head h2
    exact ⟨Gq_inj hq hq' h1 h3, h4⟩
  · obtain ⟨h1, h2⟩ := run_of wb _ _ _ _ (Gq_wb hq) (Gw_wb hw') (hd_no (by decide)) hr'.wb h
    exact (hr'.ne (by decide) h2).elim
  · obtain ⟨h1, h2⟩ := run_of wb _ _ _ _ (Gq_wb hq) (Gp_wb hp') (hd_no (by decide)) (hd_no (by decide)) h
    injection h2 with h2 _
    exact absurd h2 (by decide)
  · obtain ⟨h1, h2⟩ := run_of wb _ _ _ _ (Gw_wb hw) (Gq_wb hq') hr.wb (hd_no (by decide)) h
    exact (hr.ne (by decide) h2.symm).elim
  · obtain ⟨h1, h2⟩ := run_of wb _ _ _ _ (Gw_wb hw) (Gw_wb hw') hr.wb hr'.wb h
    exact ⟨Gw_inj hw hw' h1, h2⟩
  · obtain ⟨h1, h2⟩ := run_of wb _ _ _ _ (Gw_wb hw) (Gp_wb hp') hr.wb (hd_no (by decide)) h
    exact (hr.ne (by decide) h2.symm).elim
  · obtain ⟨h1, h2⟩ := run_of wb _ _ _ _ (Gp_wb hp) (Gq_wb hq') (hd_no (by decide)) (hd_no (by decide)) h
    injection h2 with h2 _
    exact absurd h2 (by decide)
  · obtain ⟨h1, h2⟩ := run_of wb _ _ _ _ (Gp_wb hp) (Gw_wb hw') (hd_no (by decide)) hr'.wb h
    exact (hr'.ne (by decide) h2).elim
  · obtain ⟨h1, h2⟩ := run_of wb _ _ _ _ (Gp_wb hp) (Gp_wb hp') (hd_no (by decide)) (hd_no (by decide)) h
    injection h2 with _ h2
    clear h he he'
    cases hp with
    | un op x ho =>
      have ihx := ih x (by simp) (hax x (by simp))
      cases hp' with
      | un op' x' ho' =>
        have hay := arg_of hy
        simp only [List.append_assoc, List.cons_append, List.nil_append] at h2
        obtain ⟨h3, h4⟩ := run_of wb _ _ _ _ (unL_wb ho) (unL_wb ho') (hd_no (by decide)) (hd_no (by decide)) h2
        injection h4 with _ h4
        obtain ⟨h5, h6⟩ := ihx x' (hay x' (by simp)) _ _ (Dl.cl _) (Dl.cl _) h4
        injection h6 with _ h6
        exact ⟨by rw [bL_inj h3, h5], h6⟩
      | bin op' x' y' ho' =>
        simp only [List.append_assoc, List.cons_append, List.nil_append] at h2
        exact (un_no (sx_of (arg_of hy x' (by simp))) ho h2).elim
      | nul op' x' ho' =>
        simp only [List.append_assoc, List.cons_append, List.nil_append] at h2
        exact (un_no (sx_of (arg_of hy x' (by simp))) ho h2).elim
      | app kd op' xs hk => obtain ⟨c, t, hc, _⟩ := okOp_ne hk; rw [hc] at h1; cases h1
    | bin op x y1 ho =>
      have ihx := ih x (by simp) (hax x (by simp))
      have ihy := ih y1 (by simp) (hax y1 (by simp))
      cases hp' with
      | un op' x' ho' =>
        simp only [List.append_assoc, List.cons_append, List.nil_append] at h2
        exact (un_no (sx_of (hax x (by simp))) ho' h2.symm).elim
      | bin op' x' y' ho' =>
        have hay := arg_of hy
        simp only [List.append_assoc, List.cons_append, List.nil_append] at h2
        obtain ⟨h3, h4⟩ := ihx x' (hay x' (by simp)) _ _ (Dl.sp _) (Dl.sp _) h2
        injection h4 with _ h4
        obtain ⟨h5, h6⟩ := run_of wb _ _ _ _ (binL_wb ho) (binL_wb ho') (hd_no (by decide)) (hd_no (by decide)) h4
        injection h6 with _ h6
        obtain ⟨h7, h8⟩ := ihy y' (hay y' (by simp)) _ _ (Dl.cl _) (Dl.cl _) h6
        injection h8 with _ h8
        exact ⟨by rw [h3, bL_inj h5, h7], h8⟩
      | nul op' x' ho' =>
        have hay := arg_of hy
        simp only [List.append_assoc, List.cons_append, List.nil_append] at h2
        obtain ⟨h3, h4⟩ := ihx x' (hay x' (by simp)) _ _ (Dl.sp _) (Dl.sp _) h2
        injection h4 with _ h4
        exact (bin_nul ho ho' h4).elim
      | app kd op' xs hk => obtain ⟨c, t, hc, _⟩ := okOp_ne hk; rw [hc] at h1; cases h1
    | nul op x ho =>
      have ihx := ih x (by simp) (hax x (by simp))
      cases hp' with
      | un op' x' ho' =>
        simp only [List.append_assoc, List.cons_append, List.nil_append] at h2
        exact (un_no (sx_of (hax x (by simp))) ho' h2.symm).elim
      | bin op' x' y' ho' =>
        have hay := arg_of hy
        simp only [List.append_assoc, List.cons_append, List.nil_append] at h2
        obtain ⟨h3, h4⟩ := ihx x' (hay x' (by simp)) _ _ (Dl.sp _) (Dl.sp _) h2
        injection h4 with _ h4
        exact (bin_nul ho' ho h4.symm).elim
      | nul op' x' ho' =>
        have hay := arg_of hy
        simp only [List.append_assoc, List.cons_append, List.nil_append] at h2
        obtain ⟨h3, h4⟩ := ihx x' (hay x' (by simp)) _ _ (Dl.sp _) (Dl.sp _) h2
        injection h4 with _ h4
        obtain ⟨h5, h6⟩ := nul_nul ho ho' h4
        exact ⟨by rw [h3, h5], h6⟩
      | app kd op' xs hk => obtain ⟨c, t, hc, _⟩ := okOp_ne hk; rw [hc] at h1; cases h1
    | app kd op xs hk =>
      cases hp' with
      | un op' x' ho' => obtain ⟨c, t, hc, _⟩ := okOp_ne hk; rw [hc] at h1; cases h1
      | bin op' x' y' ho' => obtain ⟨c, t, hc, _⟩ := okOp_ne hk; rw [hc] at h1; cases h1
      | nul op' x' ho' => obtain ⟨c, t, hc, _⟩ := okOp_ne hk; rw [hc] at h1; cases h1
      | app kd' op' xs' hk' =>
        have ho := bL_inj h1
        subst ho
        have hkd := okOp_kd hk hk'
        subst hkd
        obtain ⟨h3, h4⟩ := inn_tell _ _ ih hax (arg_of hy) r r' h2
        exact ⟨by rw [h3], h4⟩

/-- P20.4: unlike expressions have unlike texts. -/
theorem apart_iff {e o : Ex} (he : e.allB Lb.ok = true) (ho : o.allB Lb.ok = true) : textX e = textX o ↔ e = o :=
  ⟨fun h => (tells e he o ho [] [] Dl.nil Dl.nil (by unfold LX; rw [h])).1, fun h => by rw [h]⟩
end Go.Proofs.YtjhdlbkcpdfpcaaDoor

/- The walk of the law SyntaxApart. -/
set_option linter.unusedSimpArgs false
set_option linter.unusedVariables false
set_option maxRecDepth 100000
namespace Go.Proofs.YtjhdlbkcpdfpcaaDoor
open Go.RowKit

/-- Both expressions lie there. -/
structure ApE (w W : World) (n : Nat) (x y : XM) : Prop where
  e : Slot8 W w.heap.size (.int .i64 x.t.lab.kd) (.int .u8 x.t.lab.v.k) (.int .i64 x.t.lab.v.n) (.string x.t.lab.v.s) (.string x.t.lab.tb) (.string x.t.lab.nm) (.string x.t.lab.op) (.slice x.a x.t.args.length x.cap)
  o : Slot8 W (w.heap.size + 1) (.int .i64 y.t.lab.kd) (.int .u8 y.t.lab.v.k) (.int .i64 y.t.lab.v.n) (.string y.t.lab.v.s) (.string y.t.lab.tb) (.string y.t.lab.nm) (.string y.t.lab.op) (.slice y.a y.t.args.length y.cap)
  lt : w.heap.size < W.heap.size ∧ w.heap.size + 1 < W.heap.size
  xat : XAt W.heap.size W n x
  yat : XAt W.heap.size W n y
  bel : Below w.heap.size w W
theorem ApE.later {w W W' : World} {n : Nat} {x y : XM} (h : ApE w W n x y) (hb : Below W.heap.size W W') : ApE w W' n x y :=
  ⟨h.e.later h.lt.1 hb, h.o.later h.lt.2 hb, ⟨Nat.lt_of_lt_of_le h.lt.1 hb.size, Nat.lt_of_lt_of_le h.lt.2 hb.size⟩, h.xat.later hb, h.yat.later hb, h.bel.trans (hb.mono h.bel.size)⟩
theorem ApE.new (w : World) {n : Nat} {x y : XM} (hx : XAt w.heap.size w n x) (hy : XAt w.heap.size w n y) :
    ApE w ((w.alloc (.cells #[.int .i64 x.t.lab.kd, .int .u8 x.t.lab.v.k, .int .i64 x.t.lab.v.n, .string x.t.lab.v.s, .string x.t.lab.tb, .string x.t.lab.nm, .string x.t.lab.op, .slice x.a x.t.args.length x.cap] 39)).alloc (.cells #[.int .i64 y.t.lab.kd, .int .u8 y.t.lab.v.k, .int .i64 y.t.lab.v.n, .string y.t.lab.v.s, .string y.t.lab.tb, .string y.t.lab.nm, .string y.t.lab.op, .slice y.a y.t.args.length y.cap] 39)) n x y := by
  have b1 : Below w.heap.size w (w.alloc (.cells #[.int .i64 x.t.lab.kd, .int .u8 x.t.lab.v.k, .int .i64 x.t.lab.v.n, .string x.t.lab.v.s, .string x.t.lab.tb, .string x.t.lab.nm, .string x.t.lab.op, .slice x.a x.t.args.length x.cap] 39)) := (Below.refl _ w).alloc (Nat.le_refl _) _
  have hs1 : (w.alloc (.cells #[.int .i64 x.t.lab.kd, .int .u8 x.t.lab.v.k, .int .i64 x.t.lab.v.n, .string x.t.lab.v.s, .string x.t.lab.tb, .string x.t.lab.nm, .string x.t.lab.op, .slice x.a x.t.args.length x.cap] 39)).heap.size = w.heap.size + 1 := by simp
  have b2 : Below (w.alloc (.cells #[.int .i64 x.t.lab.kd, .int .u8 x.t.lab.v.k, .int .i64 x.t.lab.v.n, .string x.t.lab.v.s, .string x.t.lab.tb, .string x.t.lab.nm, .string x.t.lab.op, .slice x.a x.t.args.length x.cap] 39)).heap.size (w.alloc (.cells #[.int .i64 x.t.lab.kd, .int .u8 x.t.lab.v.k, .int .i64 x.t.lab.v.n, .string x.t.lab.v.s, .string x.t.lab.tb, .string x.t.lab.nm, .string x.t.lab.op, .slice x.a x.t.args.length x.cap] 39)) ((w.alloc (.cells #[.int .i64 x.t.lab.kd, .int .u8 x.t.lab.v.k, .int .i64 x.t.lab.v.n, .string x.t.lab.v.s, .string x.t.lab.tb, .string x.t.lab.nm, .string x.t.lab.op, .slice x.a x.t.args.length x.cap] 39)).alloc (.cells #[.int .i64 y.t.lab.kd, .int .u8 y.t.lab.v.k, .int .i64 y.t.lab.v.n, .string y.t.lab.v.s, .string y.t.lab.tb, .string y.t.lab.nm, .string y.t.lab.op, .slice y.a y.t.args.length y.cap] 39)) := (Below.refl _ _).alloc (Nat.le_refl _) _
  have b3 := b1.trans (b2.mono b1.size)
  have hn := Slot8.new (w.alloc (.cells #[.int .i64 x.t.lab.kd, .int .u8 x.t.lab.v.k, .int .i64 x.t.lab.v.n, .string x.t.lab.v.s, .string x.t.lab.tb, .string x.t.lab.nm, .string x.t.lab.op, .slice x.a x.t.args.length x.cap] 39)) 39 (.int .i64 y.t.lab.kd) (.int .u8 y.t.lab.v.k) (.int .i64 y.t.lab.v.n) (.string y.t.lab.v.s) (.string y.t.lab.tb) (.string y.t.lab.nm) (.string y.t.lab.op) (.slice y.a y.t.args.length y.cap)
  rw [hs1] at hn
  exact ⟨(Slot8.new w 39 (.int .i64 x.t.lab.kd) (.int .u8 x.t.lab.v.k) (.int .i64 x.t.lab.v.n) (.string x.t.lab.v.s) (.string x.t.lab.tb) (.string x.t.lab.nm) (.string x.t.lab.op) (.slice x.a x.t.args.length x.cap)).later (by rw [hs1]; omega) b2, hn, by simp; omega, hx.later b3, hy.later b3, b3⟩

theorem small_of {e : Ex} (h : greatX 24 e = false) : e.allB (fun l k => !l.big k) = true := by
  rw [greatX_fits, Rose.fits_eq] at h
  simp only [Bool.not_eq_false', Bool.and_eq_true] at h
  exact h.1
/-- What the law compares. -/
theorem apart_same {e o : Ex} (he : rightX 20 e = true) (ho : rightX 20 o = true) : ((textX e).toList == (textX o).toList) = sameX 20 e o := by
  rw [rightX_eq, Bool.and_eq_true, decide_eq_true_iff] at he ho
  rw [Bool.eq_iff_iff, beq_iff_eq, sameX_iff]
  constructor
  · intro h; exact ⟨(apart_iff he.1 ho.1).1 (toList_inj h), he.2⟩
  · rintro ⟨rfl, _⟩; rfl

set_option maxHeartbeats 8000000 in
theorem apart_walk (x y : XM) (n : Nat) (w : World) (hx : XAt w.heap.size w n x) (hy : XAt w.heap.size w n y) (hT : Pre4 w) :
    Calls Tryd.prog 7 #[x.v, y.v] w fun e w' => e = .returned (.bool true) ∧ Below w.heap.size w w' := by
  rw [XM.v_eq, XM.v_eq]
  have HAl := Lib.hid (fun W (hb : Below w.heap.size w W) => alive20_any W (hT.below hb))
  have HE0 := Lib.hid (ApE.new w hx hy)
  obtain ⟨u0, hu0⟩ : ∃ u0, w.alloc (.cells #[.int .i64 x.t.lab.kd, .int .u8 x.t.lab.v.k, .int .i64 x.t.lab.v.n, .string x.t.lab.v.s, .string x.t.lab.tb, .string x.t.lab.nm, .string x.t.lab.op, .slice x.a x.t.args.length x.cap] 39) = u0 := ⟨_, rfl⟩
  have hs0 : u0.heap.size = w.heap.size + 1 := by rw [← hu0]; simp
  obtain ⟨w0, hw0⟩ : ∃ w0, u0.alloc (.cells #[.int .i64 y.t.lab.kd, .int .u8 y.t.lab.v.k, .int .i64 y.t.lab.v.n, .string y.t.lab.v.s, .string y.t.lab.tb, .string y.t.lab.nm, .string y.t.lab.op, .slice y.a y.t.args.length y.cap] 39) = w0 := ⟨_, rfl⟩
  rw [hu0, hw0] at HE0
  have HP := Lib.hid (fun W (hb : Below w.heap.size w W) => hT.below hb)
  have HCx : Hid (∀ (W : World), XAt W.heap.size W n x → Calls Tryd.prog 12 #[.agg #[.int .i64 x.t.lab.kd, .int .u8 x.t.lab.v.k, .int .i64 x.t.lab.v.n, .string x.t.lab.v.s, .string x.t.lab.tb, .string x.t.lab.nm, .string x.t.lab.op, .slice x.a x.t.args.length x.cap], .int .i64 0] W fun e w' => e = .returned (.int .i64 ((min (0 + x.t.count) 3000 : Nat) : Int)) ∧ Below W.heap.size W w') := fun W hW => by
    have := xCnt_any n x W 0 hW (by omega); rw [XM.v_eq] at this; exact this
  have HCy : Hid (∀ (W : World), XAt W.heap.size W n y → Calls Tryd.prog 12 #[.agg #[.int .i64 y.t.lab.kd, .int .u8 y.t.lab.v.k, .int .i64 y.t.lab.v.n, .string y.t.lab.v.s, .string y.t.lab.tb, .string y.t.lab.nm, .string y.t.lab.op, .slice y.a y.t.args.length y.cap], .int .i64 0] W fun e w' => e = .returned (.int .i64 ((min (0 + y.t.count) 3000 : Nat) : Int)) ∧ Below W.heap.size W w') := fun W hW => by
    have := xCnt_any n y W 0 hW (by omega); rw [XM.v_eq] at this; exact this
  have HGx : Hid (∀ (W : World), XAt W.heap.size W n x → Calls Tryd.prog 13 #[.agg #[.int .i64 x.t.lab.kd, .int .u8 x.t.lab.v.k, .int .i64 x.t.lab.v.n, .string x.t.lab.v.s, .string x.t.lab.tb, .string x.t.lab.nm, .string x.t.lab.op, .slice x.a x.t.args.length x.cap], .int .i64 24] W fun e w' => e = .returned (.bool (greatX 24 x.t)) ∧ Below W.heap.size W w') := fun W hW => by
    have := Great_any n x W 24 hW (by omega); rw [XM.v_eq] at this; exact this
  have HGy : Hid (∀ (W : World), XAt W.heap.size W n y → Calls Tryd.prog 13 #[.agg #[.int .i64 y.t.lab.kd, .int .u8 y.t.lab.v.k, .int .i64 y.t.lab.v.n, .string y.t.lab.v.s, .string y.t.lab.tb, .string y.t.lab.nm, .string y.t.lab.op, .slice y.a y.t.args.length y.cap], .int .i64 24] W fun e w' => e = .returned (.bool (greatX 24 y.t)) ∧ Below W.heap.size W w') := fun W hW => by
    have := Great_any n y W 24 hW (by omega); rw [XM.v_eq] at this; exact this
  have HSm : Hid (∀ (W : World), XAt W.heap.size W n x → XAt W.heap.size W n y → Calls Tryd.prog 24 #[.agg #[.int .i64 x.t.lab.kd, .int .u8 x.t.lab.v.k, .int .i64 x.t.lab.v.n, .string x.t.lab.v.s, .string x.t.lab.tb, .string x.t.lab.nm, .string x.t.lab.op, .slice x.a x.t.args.length x.cap], .agg #[.int .i64 y.t.lab.kd, .int .u8 y.t.lab.v.k, .int .i64 y.t.lab.v.n, .string y.t.lab.v.s, .string y.t.lab.tb, .string y.t.lab.nm, .string y.t.lab.op, .slice y.a y.t.args.length y.cap]] W fun e w' => e = .returned (.bool (sameX 20 x.t y.t)) ∧ Below W.heap.size W w') := fun W hX hY => by
    have := Same_any20 n x y W hX hY; rw [XM.v_eq, XM.v_eq] at this; exact this
  have HWx : Hid (∀ (W : World), Below w.heap.size w W → XAt W.heap.size W n x → greatX 24 x.t = false → x.t.count ≤ 100000 → Calls Tryd.prog 23 #[.agg #[.int .i64 x.t.lab.kd, .int .u8 x.t.lab.v.k, .int .i64 x.t.lab.v.n, .string x.t.lab.v.s, .string x.t.lab.tb, .string x.t.lab.nm, .string x.t.lab.op, .slice x.a x.t.args.length x.cap]] W fun e w' => e = .returned (.tuple #[.string (writeV x.t).1, .int .i64 (writeV x.t).2]) ∧ Below W.heap.size W w') := fun W hb hX hg hc => by
    have := sWrite_any20 n x W (HP.out W hb) hX (small_of hg) hc; rw [XM.v_eq] at this; exact this
  have HWy : Hid (∀ (W : World), Below w.heap.size w W → XAt W.heap.size W n y → greatX 24 y.t = false → y.t.count ≤ 100000 → Calls Tryd.prog 23 #[.agg #[.int .i64 y.t.lab.kd, .int .u8 y.t.lab.v.k, .int .i64 y.t.lab.v.n, .string y.t.lab.v.s, .string y.t.lab.tb, .string y.t.lab.nm, .string y.t.lab.op, .slice y.a y.t.args.length y.cap]] W fun e w' => e = .returned (.tuple #[.string (writeV y.t).1, .int .i64 (writeV y.t).2]) ∧ Below W.heap.size W w') := fun W hb hY hg hc => by
    have := sWrite_any20 n y W (HP.out W hb) hY (small_of hg) hc; rw [XM.v_eq] at this; exact this
  have hap : rightX 20 x.t = true → rightX 20 y.t = true → ((textX x.t).toList == (textX y.t).toList) = sameX 20 x.t y.t := fun h1 h2 => apart_same h1 h2
  unfold writeV at HWx HWy
  obtain ⟨c, hc⟩ : ∃ c, min (0 + x.t.count) 3000 = c := ⟨_, rfl⟩
  obtain ⟨d, hd⟩ : ∃ d, min (0 + y.t.count) 3000 = d := ⟨_, rfl⟩
  rw [hc] at HCx
  rw [hd] at HCy
  have hcx : c ≤ 500 → x.t.count ≤ 100000 := fun h => by omega
  have hdy : d ≤ 500 → y.t.count ≤ 100000 := fun h => by omega
  generalize greatX 24 x.t = g at *
  generalize greatX 24 y.t = k at *
  generalize sameX 20 x.t y.t = sm at *
  generalize rightX 20 x.t = rx at *
  generalize rightX 20 y.t = ry at *
  generalize textX x.t = tx at *
  generalize textX y.t = ty at *
  have HHx := Lib.hid (fun W hb hX (hg : g = false) (h5 : c ≤ 500) => HWx.out W hb hX hg (hcx h5))
  have HHy := Lib.hid (fun W hb hY (hg : k = false) (h5 : d ≤ 500) => HWy.out W hb hY hg (hdy h5))
  have HAp := Lib.hid hap
  clear hx hy hT hc hd hcx hdy HWx HWy hap
  obtain ⟨x0, x1, x2, x3, x4, x5, x6, x7⟩ := HE0.out.e
  obtain ⟨y0, y1, y2, y3, y4, y5, y6, y7⟩ := HE0.out.o
  by_cases hcb : 500 < c
  · have q1 : decide ((500 : Int) < (c : Int)) = true := by simp; omega
    go_enter Tryd.func7, Tryd.ntmps7
    go_wp2_with fail
    refine (HCx.out _ HE0.out.xat).mono ?_
    rintro e w1 ⟨rfl, hb1⟩
    have HE1 := Lib.hid (HE0.out.later hb1)
    clear x0 x1 x2 x3 x4 x5 x6 x7 y0 y1 y2 y3 y4 y5 y6 y7
    obtain ⟨x0, x1, x2, x3, x4, x5, x6, x7⟩ := HE1.out.e
    obtain ⟨y0, y1, y2, y3, y4, y5, y6, y7⟩ := HE1.out.o
    clear hb1
    go_wp2_with fail
    refine (HAl.out _ HE1.out.bel).mono ?_
    rintro e w2 ⟨rfl, hb2⟩
    have HE2 := Lib.hid (HE1.out.later hb2)
    clear x0 x1 x2 x3 x4 x5 x6 x7 y0 y1 y2 y3 y4 y5 y6 y7
    clear hb2
    go_wp2
    go_ret
    exact ⟨rfl, HE2.out.bel⟩
  have q1 : decide ((500 : Int) < (c : Int)) = false := by simp; omega
  by_cases hdb : 500 < d
  · have q2 : decide ((500 : Int) < (d : Int)) = true := by simp; omega
    go_enter Tryd.func7, Tryd.ntmps7
    go_wp2_with fail
    refine (HCx.out _ HE0.out.xat).mono ?_
    rintro e w1 ⟨rfl, hb1⟩
    have HE1 := Lib.hid (HE0.out.later hb1)
    clear x0 x1 x2 x3 x4 x5 x6 x7 y0 y1 y2 y3 y4 y5 y6 y7
    obtain ⟨x0, x1, x2, x3, x4, x5, x6, x7⟩ := HE1.out.e
    obtain ⟨y0, y1, y2, y3, y4, y5, y6, y7⟩ := HE1.out.o
    clear hb1
    go_wp2_with fail
    refine (HCy.out _ HE1.out.yat).mono ?_
    rintro e w2 ⟨rfl, hb2⟩
    have HE2 := Lib.hid (HE1.out.later hb2)
    clear x0 x1 x2 x3 x4 x5 x6 x7 y0 y1 y2 y3 y4 y5 y6 y7
    obtain ⟨x0, x1, x2, x3, x4, x5, x6, x7⟩ := HE2.out.e
    obtain ⟨y0, y1, y2, y3, y4, y5, y6, y7⟩ := HE2.out.o
    clear hb2
    go_wp2_with fail
    refine (HAl.out _ HE2.out.bel).mono ?_
    rintro e w3 ⟨rfl, hb3⟩
    have HE3 := Lib.hid (HE2.out.later hb3)
    clear x0 x1 x2 x3 x4 x5 x6 x7 y0 y1 y2 y3 y4 y5 y6 y7
    clear hb3
    go_wp2
    go_ret
    exact ⟨rfl, HE3.out.bel⟩
  have q2 : decide ((500 : Int) < (d : Int)) = false := by simp; omega
  have hc5 : c ≤ 500 := by omega
  have hd5 : d ≤ 500 := by omega
  cases g with
  | true =>
    go_enter Tryd.func7, Tryd.ntmps7
    go_wp2_with fail
    refine (HCx.out _ HE0.out.xat).mono ?_
    rintro e w1 ⟨rfl, hb1⟩
    have HE1 := Lib.hid (HE0.out.later hb1)
    clear x0 x1 x2 x3 x4 x5 x6 x7 y0 y1 y2 y3 y4 y5 y6 y7
    obtain ⟨x0, x1, x2, x3, x4, x5, x6, x7⟩ := HE1.out.e
    obtain ⟨y0, y1, y2, y3, y4, y5, y6, y7⟩ := HE1.out.o
    clear hb1
    go_wp2_with fail
    refine (HCy.out _ HE1.out.yat).mono ?_
    rintro e w2 ⟨rfl, hb2⟩
    have HE2 := Lib.hid (HE1.out.later hb2)
    clear x0 x1 x2 x3 x4 x5 x6 x7 y0 y1 y2 y3 y4 y5 y6 y7
    obtain ⟨x0, x1, x2, x3, x4, x5, x6, x7⟩ := HE2.out.e
    obtain ⟨y0, y1, y2, y3, y4, y5, y6, y7⟩ := HE2.out.o
    clear hb2
    go_wp2_with fail
    refine (HGx.out _ HE2.out.xat).mono ?_
    rintro e w3 ⟨rfl, hb3⟩
    have HE3 := Lib.hid (HE2.out.later hb3)
    clear x0 x1 x2 x3 x4 x5 x6 x7 y0 y1 y2 y3 y4 y5 y6 y7
    obtain ⟨x0, x1, x2, x3, x4, x5, x6, x7⟩ := HE3.out.e
    obtain ⟨y0, y1, y2, y3, y4, y5, y6, y7⟩ := HE3.out.o
    clear hb3
    go_wp2_with fail
    refine (HAl.out _ HE3.out.bel).mono ?_
    rintro e w4 ⟨rfl, hb4⟩
    have HE4 := Lib.hid (HE3.out.later hb4)
    clear x0 x1 x2 x3 x4 x5 x6 x7 y0 y1 y2 y3 y4 y5 y6 y7
    clear hb4
    go_wp2
    go_ret
    exact ⟨rfl, HE4.out.bel⟩
  | false =>
  cases k with
  | true =>
    go_enter Tryd.func7, Tryd.ntmps7
    go_wp2_with fail
    refine (HCx.out _ HE0.out.xat).mono ?_
    rintro e w1 ⟨rfl, hb1⟩
    have HE1 := Lib.hid (HE0.out.later hb1)
    clear x0 x1 x2 x3 x4 x5 x6 x7 y0 y1 y2 y3 y4 y5 y6 y7
    obtain ⟨x0, x1, x2, x3, x4, x5, x6, x7⟩ := HE1.out.e
    obtain ⟨y0, y1, y2, y3, y4, y5, y6, y7⟩ := HE1.out.o
    clear hb1
    go_wp2_with fail
    refine (HCy.out _ HE1.out.yat).mono ?_
    rintro e w2 ⟨rfl, hb2⟩
    have HE2 := Lib.hid (HE1.out.later hb2)
    clear x0 x1 x2 x3 x4 x5 x6 x7 y0 y1 y2 y3 y4 y5 y6 y7
    obtain ⟨x0, x1, x2, x3, x4, x5, x6, x7⟩ := HE2.out.e
    obtain ⟨y0, y1, y2, y3, y4, y5, y6, y7⟩ := HE2.out.o
    clear hb2
    go_wp2_with fail
    refine (HGx.out _ HE2.out.xat).mono ?_
    rintro e w3 ⟨rfl, hb3⟩
    have HE3 := Lib.hid (HE2.out.later hb3)
    clear x0 x1 x2 x3 x4 x5 x6 x7 y0 y1 y2 y3 y4 y5 y6 y7
    obtain ⟨x0, x1, x2, x3, x4, x5, x6, x7⟩ := HE3.out.e
    obtain ⟨y0, y1, y2, y3, y4, y5, y6, y7⟩ := HE3.out.o
    clear hb3
    go_wp2_with fail
    refine (HGy.out _ HE3.out.yat).mono ?_
    rintro e w4 ⟨rfl, hb4⟩
    have HE4 := Lib.hid (HE3.out.later hb4)
    clear x0 x1 x2 x3 x4 x5 x6 x7 y0 y1 y2 y3 y4 y5 y6 y7
    obtain ⟨x0, x1, x2, x3, x4, x5, x6, x7⟩ := HE4.out.e
    obtain ⟨y0, y1, y2, y3, y4, y5, y6, y7⟩ := HE4.out.o
    clear hb4
    go_wp2_with fail
    refine (HAl.out _ HE4.out.bel).mono ?_
    rintro e w5 ⟨rfl, hb5⟩
    have HE5 := Lib.hid (HE4.out.later hb5)
    clear x0 x1 x2 x3 x4 x5 x6 x7 y0 y1 y2 y3 y4 y5 y6 y7
    clear hb5
    go_wp2
    go_ret
    exact ⟨rfl, HE5.out.bel⟩
  | false =>
  cases rx with
  | false =>
    rw [if_neg (by simp)] at HHx
    generalize (if ry = true then (ty, (0 : Int)) else (⟨#[]⟩, 3)) = wy at *
    obtain ⟨wy1, wy2⟩ := wy
    go_enter Tryd.func7, Tryd.ntmps7
    go_wp2_with fail
    refine (HCx.out _ HE0.out.xat).mono ?_
    rintro e w1 ⟨rfl, hb1⟩
    have HE1 := Lib.hid (HE0.out.later hb1)
    clear x0 x1 x2 x3 x4 x5 x6 x7 y0 y1 y2 y3 y4 y5 y6 y7
    obtain ⟨x0, x1, x2, x3, x4, x5, x6, x7⟩ := HE1.out.e
    obtain ⟨y0, y1, y2, y3, y4, y5, y6, y7⟩ := HE1.out.o
    clear hb1
    go_wp2_with fail
    refine (HCy.out _ HE1.out.yat).mono ?_
    rintro e w2 ⟨rfl, hb2⟩
    have HE2 := Lib.hid (HE1.out.later hb2)
    clear x0 x1 x2 x3 x4 x5 x6 x7 y0 y1 y2 y3 y4 y5 y6 y7
    obtain ⟨x0, x1, x2, x3, x4, x5, x6, x7⟩ := HE2.out.e
    obtain ⟨y0, y1, y2, y3, y4, y5, y6, y7⟩ := HE2.out.o
    clear hb2
    go_wp2_with fail
    refine (HGx.out _ HE2.out.xat).mono ?_
    rintro e w3 ⟨rfl, hb3⟩
    have HE3 := Lib.hid (HE2.out.later hb3)
    clear x0 x1 x2 x3 x4 x5 x6 x7 y0 y1 y2 y3 y4 y5 y6 y7
    obtain ⟨x0, x1, x2, x3, x4, x5, x6, x7⟩ := HE3.out.e
    obtain ⟨y0, y1, y2, y3, y4, y5, y6, y7⟩ := HE3.out.o
    clear hb3
    go_wp2_with fail
    refine (HGy.out _ HE3.out.yat).mono ?_
    rintro e w4 ⟨rfl, hb4⟩
    have HE4 := Lib.hid (HE3.out.later hb4)
    clear x0 x1 x2 x3 x4 x5 x6 x7 y0 y1 y2 y3 y4 y5 y6 y7
    obtain ⟨x0, x1, x2, x3, x4, x5, x6, x7⟩ := HE4.out.e
    obtain ⟨y0, y1, y2, y3, y4, y5, y6, y7⟩ := HE4.out.o
    clear hb4
    go_wp2_with fail
    refine (HHx.out _ HE4.out.bel HE4.out.xat (by simp) hc5).mono ?_
    rintro e w5 ⟨rfl, hb5⟩
    have HE5 := Lib.hid (HE4.out.later hb5)
    clear x0 x1 x2 x3 x4 x5 x6 x7 y0 y1 y2 y3 y4 y5 y6 y7
    obtain ⟨x0, x1, x2, x3, x4, x5, x6, x7⟩ := HE5.out.e
    obtain ⟨y0, y1, y2, y3, y4, y5, y6, y7⟩ := HE5.out.o
    clear hb5
    go_wp2_with fail
    refine (HHy.out _ HE5.out.bel HE5.out.yat (by simp) hd5).mono ?_
    rintro e w6 ⟨rfl, hb6⟩
    have HE6 := Lib.hid (HE5.out.later hb6)
    clear x0 x1 x2 x3 x4 x5 x6 x7 y0 y1 y2 y3 y4 y5 y6 y7
    obtain ⟨x0, x1, x2, x3, x4, x5, x6, x7⟩ := HE6.out.e
    obtain ⟨y0, y1, y2, y3, y4, y5, y6, y7⟩ := HE6.out.o
    clear hb6
    go_wp2_with fail
    refine (HAl.out _ HE6.out.bel).mono ?_
    rintro e w7 ⟨rfl, hb7⟩
    have HE7 := Lib.hid (HE6.out.later hb7)
    clear x0 x1 x2 x3 x4 x5 x6 x7 y0 y1 y2 y3 y4 y5 y6 y7
    clear hb7
    go_wp2
    go_ret
    exact ⟨rfl, HE7.out.bel⟩
  | true =>
  rw [if_pos rfl] at HHx
  cases ry with
  | false =>
    rw [if_neg (by simp)] at HHy
    go_enter Tryd.func7, Tryd.ntmps7
    go_wp2_with fail
    refine (HCx.out _ HE0.out.xat).mono ?_
    rintro e w1 ⟨rfl, hb1⟩
    have HE1 := Lib.hid (HE0.out.later hb1)
    clear x0 x1 x2 x3 x4 x5 x6 x7 y0 y1 y2 y3 y4 y5 y6 y7
    obtain ⟨x0, x1, x2, x3, x4, x5, x6, x7⟩ := HE1.out.e
    obtain ⟨y0, y1, y2, y3, y4, y5, y6, y7⟩ := HE1.out.o
    clear hb1
    go_wp2_with fail
    refine (HCy.out _ HE1.out.yat).mono ?_
    rintro e w2 ⟨rfl, hb2⟩
    have HE2 := Lib.hid (HE1.out.later hb2)
    clear x0 x1 x2 x3 x4 x5 x6 x7 y0 y1 y2 y3 y4 y5 y6 y7
    obtain ⟨x0, x1, x2, x3, x4, x5, x6, x7⟩ := HE2.out.e
    obtain ⟨y0, y1, y2, y3, y4, y5, y6, y7⟩ := HE2.out.o
    clear hb2
    go_wp2_with fail
    refine (HGx.out _ HE2.out.xat).mono ?_
    rintro e w3 ⟨rfl, hb3⟩
    have HE3 := Lib.hid (HE2.out.later hb3)
    clear x0 x1 x2 x3 x4 x5 x6 x7 y0 y1 y2 y3 y4 y5 y6 y7
    obtain ⟨x0, x1, x2, x3, x4, x5, x6, x7⟩ := HE3.out.e
    obtain ⟨y0, y1, y2, y3, y4, y5, y6, y7⟩ := HE3.out.o
    clear hb3
    go_wp2_with fail
    refine (HGy.out _ HE3.out.yat).mono ?_
    rintro e w4 ⟨rfl, hb4⟩
    have HE4 := Lib.hid (HE3.out.later hb4)
    clear x0 x1 x2 x3 x4 x5 x6 x7 y0 y1 y2 y3 y4 y5 y6 y7
    obtain ⟨x0, x1, x2, x3, x4, x5, x6, x7⟩ := HE4.out.e
    obtain ⟨y0, y1, y2, y3, y4, y5, y6, y7⟩ := HE4.out.o
    clear hb4
    go_wp2_with fail
    refine (HHx.out _ HE4.out.bel HE4.out.xat (by simp) hc5).mono ?_
    rintro e w5 ⟨rfl, hb5⟩
    have HE5 := Lib.hid (HE4.out.later hb5)
    clear x0 x1 x2 x3 x4 x5 x6 x7 y0 y1 y2 y3 y4 y5 y6 y7
    obtain ⟨x0, x1, x2, x3, x4, x5, x6, x7⟩ := HE5.out.e
    obtain ⟨y0, y1, y2, y3, y4, y5, y6, y7⟩ := HE5.out.o
    clear hb5
    go_wp2_with fail
    refine (HHy.out _ HE5.out.bel HE5.out.yat (by simp) hd5).mono ?_
    rintro e w6 ⟨rfl, hb6⟩
    have HE6 := Lib.hid (HE5.out.later hb6)
    clear x0 x1 x2 x3 x4 x5 x6 x7 y0 y1 y2 y3 y4 y5 y6 y7
    obtain ⟨x0, x1, x2, x3, x4, x5, x6, x7⟩ := HE6.out.e
    obtain ⟨y0, y1, y2, y3, y4, y5, y6, y7⟩ := HE6.out.o
    clear hb6
    go_wp2_with fail
    refine (HAl.out _ HE6.out.bel).mono ?_
    rintro e w7 ⟨rfl, hb7⟩
    have HE7 := Lib.hid (HE6.out.later hb7)
    clear x0 x1 x2 x3 x4 x5 x6 x7 y0 y1 y2 y3 y4 y5 y6 y7
    clear hb7
    go_wp2
    go_ret
    exact ⟨rfl, HE7.out.bel⟩
  | true =>
    rw [if_pos rfl] at HHy
    have hq := HAp.out rfl rfl
    go_enter Tryd.func7, Tryd.ntmps7
    go_wp2_with fail
    refine (HCx.out _ HE0.out.xat).mono ?_
    rintro e w1 ⟨rfl, hb1⟩
    have HE1 := Lib.hid (HE0.out.later hb1)
    clear x0 x1 x2 x3 x4 x5 x6 x7 y0 y1 y2 y3 y4 y5 y6 y7
    obtain ⟨x0, x1, x2, x3, x4, x5, x6, x7⟩ := HE1.out.e
    obtain ⟨y0, y1, y2, y3, y4, y5, y6, y7⟩ := HE1.out.o
    clear hb1
    go_wp2_with fail
    refine (HCy.out _ HE1.out.yat).mono ?_
    rintro e w2 ⟨rfl, hb2⟩
    have HE2 := Lib.hid (HE1.out.later hb2)
    clear x0 x1 x2 x3 x4 x5 x6 x7 y0 y1 y2 y3 y4 y5 y6 y7
    obtain ⟨x0, x1, x2, x3, x4, x5, x6, x7⟩ := HE2.out.e
    obtain ⟨y0, y1, y2, y3, y4, y5, y6, y7⟩ := HE2.out.o
    clear hb2
    go_wp2_with fail
    refine (HGx.out _ HE2.out.xat).mono ?_
    rintro e w3 ⟨rfl, hb3⟩
    have HE3 := Lib.hid (HE2.out.later hb3)
    clear x0 x1 x2 x3 x4 x5 x6 x7 y0 y1 y2 y3 y4 y5 y6 y7
    obtain ⟨x0, x1, x2, x3, x4, x5, x6, x7⟩ := HE3.out.e
    obtain ⟨y0, y1, y2, y3, y4, y5, y6, y7⟩ := HE3.out.o
    clear hb3
    go_wp2_with fail
    refine (HGy.out _ HE3.out.yat).mono ?_
    rintro e w4 ⟨rfl, hb4⟩
    have HE4 := Lib.hid (HE3.out.later hb4)
    clear x0 x1 x2 x3 x4 x5 x6 x7 y0 y1 y2 y3 y4 y5 y6 y7
    obtain ⟨x0, x1, x2, x3, x4, x5, x6, x7⟩ := HE4.out.e
    obtain ⟨y0, y1, y2, y3, y4, y5, y6, y7⟩ := HE4.out.o
    clear hb4
    go_wp2_with fail
    refine (HHx.out _ HE4.out.bel HE4.out.xat (by simp) hc5).mono ?_
    rintro e w5 ⟨rfl, hb5⟩
    have HE5 := Lib.hid (HE4.out.later hb5)
    clear x0 x1 x2 x3 x4 x5 x6 x7 y0 y1 y2 y3 y4 y5 y6 y7
    obtain ⟨x0, x1, x2, x3, x4, x5, x6, x7⟩ := HE5.out.e
    obtain ⟨y0, y1, y2, y3, y4, y5, y6, y7⟩ := HE5.out.o
    clear hb5
    go_wp2_with fail
    refine (HHy.out _ HE5.out.bel HE5.out.yat (by simp) hd5).mono ?_
    rintro e w6 ⟨rfl, hb6⟩
    have HE6 := Lib.hid (HE5.out.later hb6)
    clear x0 x1 x2 x3 x4 x5 x6 x7 y0 y1 y2 y3 y4 y5 y6 y7
    obtain ⟨x0, x1, x2, x3, x4, x5, x6, x7⟩ := HE6.out.e
    obtain ⟨y0, y1, y2, y3, y4, y5, y6, y7⟩ := HE6.out.o
    clear hb6
    go_wp2_with fail
    refine (HAl.out _ HE6.out.bel).mono ?_
    rintro e w7 ⟨rfl, hb7⟩
    have HE7 := Lib.hid (HE6.out.later hb7)
    clear x0 x1 x2 x3 x4 x5 x6 x7 y0 y1 y2 y3 y4 y5 y6 y7
    obtain ⟨x0, x1, x2, x3, x4, x5, x6, x7⟩ := HE7.out.e
    obtain ⟨y0, y1, y2, y3, y4, y5, y6, y7⟩ := HE7.out.o
    clear hb7
    go_wp2_with fail
    refine (HSm.out _ HE7.out.xat HE7.out.yat).mono ?_
    rintro e w8 ⟨rfl, hb8⟩
    have HE8 := Lib.hid (HE7.out.later hb8)
    clear x0 x1 x2 x3 x4 x5 x6 x7 y0 y1 y2 y3 y4 y5 y6 y7
    clear hb8
    go_wp2
    go_ret
    exact ⟨ret_b (by simp), HE8.out.bel⟩
end Go.Proofs.YtjhdlbkcpdfpcaaDoor

/- An expression that comes in as an argument. -/
set_option linter.unusedSimpArgs false
set_option linter.unusedVariables false
set_option maxRecDepth 100000
namespace Go.Proofs.YtjhdlbkcpdfpcaaDoor
open Go.RowKit Go.ChangeShapes Go.WideShapes Go.Deep Go.Joins

theorem weights_all_mem {H : Type} {P : Program} {e : TypeId} : ∀ {l : List (DataW H)} {d : DataW H}, d ∈ l → ∀ n ∈ d.weights P e, n ∈ DataW.weightsAll P e l
  | [], _, h, _, _ => by cases h
  | y :: r, d, h, n, hn => by
    simp only [DataW.weightsAll, List.mem_append]
    rcases List.mem_cons.1 h with rfl | h
    · exact .inl hn
    · exact .inr (weights_all_mem h n hn)

theorem ListR.of {α β : Type} (R : α → β → Prop) : ∀ (l : List α), (∀ x ∈ l, ∃ y, R x y) → ∃ m : List β, m.length = l.length ∧ ∀ (i : Nat) (x : α), l[i]? = some x → ∃ y, m[i]? = some y ∧ R x y
  | [], _ => ⟨[], rfl, fun i x h => by simp at h⟩
  | a :: r, h => by
    obtain ⟨y, hy⟩ := h a List.mem_cons_self
    obtain ⟨m, hm, hR⟩ := ListR.of R r (fun x hx => h x (List.mem_cons_of_mem _ hx))
    refine ⟨y :: m, by simp [hm], fun i x hi => ?_⟩
    cases i with
    | zero => simp at hi; subst hi; exact ⟨y, rfl, hy⟩
    | succ i => obtain ⟨z, h1, h2⟩ := hR i x (by simpa using hi); exact ⟨z, by simpa using h1, h2⟩

/-- What is asked of the sizes. -/
def Sized {H : Type} (T : TypeId) (d : DataW H) : Prop := ∀ n ∈ d.weights Tryd.prog T, n ≤ reachBytes

set_option maxRecDepth 100000 in
theorem trod_expr {T S : TypeId} {f0 f1 f2 f3 f4 f5 : Field} (hT : Tryd.prog.underlying T = some (.struct #[f0, f1, f2, f3, f4, f5])) (hS : Tryd.prog.underlying S = some (.slice T)) (hC : Tryd.prog.cellsOf T = 8) (c4 : Tryd.prog.cellsOf S = 1)
    (e0 : f0.type = 3 ∧ f0.offset = 0) (e1 : f1.type = 36 ∧ f1.offset = 1) (e2 : f2.type = 9 ∧ f2.offset = 4) (e3 : f3.type = 9 ∧ f3.offset = 5) (e4 : f4.type = 9 ∧ f4.offset = 6) (e5 : f5.type = S ∧ f5.offset = 7)
    {H : Type} {enc : TypeId × Value → H} {w : World} : ∀ (fuel : Nat) (cs : List Value) (x : DataW H × List MemPlace), DataW.trod enc Tryd.prog w 0 (fun _ => true) true fuel T cs = some x → Sized T x.1 →
    ∃ r : XM, cs = cellsX r ∧ XAt w.heap.size w fuel r := by
  intro fuel
  induction fuel using Nat.strongRecOn with
  | ind fuel ih =>
    intro cs x h hsz
    obtain ⟨xs, n, rfl, rfl, hl, hlen, hf⟩ := DataW.trod_struct hT h
    rw [hC] at hl
    match cs, hl with
    | [v0, v1, v2, v3, v4, v5, v6, v7], _ =>
      match xs, hlen with
      | [y0, y1, y2, y3, y4, y5], _ =>
        have c1 : Tryd.prog.cellsOf 3 = 1 := by kernel_rfl
        have c2 : Tryd.prog.cellsOf 36 = 3 := by kernel_rfl
        have c3 : Tryd.prog.cellsOf 9 = 1 := by kernel_rfl
        have g0 : DataW.trod enc Tryd.prog w 0 (fun _ => true) true n 3 [v0] = some y0 := by have := hf 0 f0 rfl; rw [e0.1, e0.2, c1] at this; exact this
        have g1 : DataW.trod enc Tryd.prog w 0 (fun _ => true) true n 36 [v1, v2, v3] = some y1 := by have := hf 1 f1 rfl; rw [e1.1, e1.2, c2] at this; exact this
        have g2 : DataW.trod enc Tryd.prog w 0 (fun _ => true) true n 9 [v4] = some y2 := by have := hf 2 f2 rfl; rw [e2.1, e2.2, c3] at this; exact this
        have g3 : DataW.trod enc Tryd.prog w 0 (fun _ => true) true n 9 [v5] = some y3 := by have := hf 3 f3 rfl; rw [e3.1, e3.2, c3] at this; exact this
        have g4 : DataW.trod enc Tryd.prog w 0 (fun _ => true) true n 9 [v6] = some y4 := by have := hf 4 f4 rfl; rw [e4.1, e4.2, c3] at this; exact this
        have g5 : DataW.trod enc Tryd.prog w 0 (fun _ => true) true n S [v7] = some y5 := by have := hf 5 f5 rfl; rw [e5.1, e5.2, c4] at this; exact this
        obtain ⟨z0, q0, p0, w0⟩ := DataW.trod_int Tryd.underlying3 g0
        obtain ⟨u0, u1, u2, n1, rfl, _, k0, k1, k2⟩ := trod_struct3 Tryd.underlying36 g1
        have m0 : DataW.trod enc Tryd.prog w 0 (fun _ => true) true n1 5 [v1] = some u0 := k0
        have m1 : DataW.trod enc Tryd.prog w 0 (fun _ => true) true n1 2 [v2] = some u1 := k1
        have m2 : DataW.trod enc Tryd.prog w 0 (fun _ => true) true n1 9 [v3] = some u2 := k2
        obtain ⟨b0, q1, p1, w1⟩ := DataW.trod_int Tryd.underlying5 m0
        obtain ⟨b1, q2, p2, w2⟩ := DataW.trod_int Tryd.underlying2 m1
        obtain ⟨s3, q3, p3, w3⟩ := DataW.trod_string Tryd.underlying9 m2
        obtain ⟨s4, q4, p4, w4⟩ := DataW.trod_string Tryd.underlying9 g2
        obtain ⟨s5, q5, p5, w5⟩ := DataW.trod_string Tryd.underlying9 g3
        obtain ⟨s6, q6, p6, w6⟩ := DataW.trod_string Tryd.underlying9 g4
        simp only [List.cons.injEq, and_true] at q0 q1 q2 q3 q4 q5 q6
        subst q0 q1 q2 q3 q4 q5 q6
        obtain ⟨kk, rfl, hkk⟩ := nat_u8 w1
        have hW : ∀ m, (m ∈ (u2.1).weights Tryd.prog 9 ∨ m ∈ y2.1.weights Tryd.prog 9 ∨ m ∈ y3.1.weights Tryd.prog 9 ∨ m ∈ y4.1.weights Tryd.prog 9 ∨ m ∈ y5.1.weights Tryd.prog S) → m ≤ reachBytes := by
          intro m hm
          refine hsz m ?_
          simp only [DataW.weights, hT, List.map_cons, List.map_nil, DataW.weightsEach, e0.1, e1.1, e2.1, e3.1, e4.1, e5.1, List.mem_append, Tryd.underlying36]
          simp
          rcases hm with h | h | h | h | h <;> simp [h]
        have B3 : s3.size ≤ 140737488351232 := by have := hW s3.data.toList.length (by rw [p3]; simp [DataW.weights]); unfold reachBytes at this; simpa using this
        have B4 : s4.size ≤ 140737488351232 := by have := hW s4.data.toList.length (by rw [p4]; simp [DataW.weights]); unfold reachBytes at this; simpa using this
        have B5 : s5.size ≤ 140737488351232 := by have := hW s5.data.toList.length (by rw [p5]; simp [DataW.weights]); unfold reachBytes at this; simpa using this
        have B6 : s6.size ≤ 140737488351232 := by have := hW s6.data.toList.length (by rw [p6]; simp [DataW.weights]); unfold reachBytes at this; simpa using this
        have HL : Lb.fair ⟨z0, ⟨kk, b1, s3⟩, s4, s5, s6⟩ := ⟨bd_i64 w0, hkk, bd_i64 w2, B3, B4, B5, B6⟩
        rcases DataW.trod_slice hS g5 with ⟨hcs, _⟩ | ⟨a, len, cap, elems, rest, n2, hn, hcs, hy5, hb, hlc, hcm, hel, hel2, -, -⟩
        · simp only [List.cons.injEq, and_true] at hcs
          subst hcs
          exact ⟨⟨.mk ⟨z0, ⟨kk, b1, s3⟩, s4, s5, s6⟩ [], none, 0⟩, rfl, HL, Nat.le_refl _, by simp, [], rfl, .inl rfl, fun y hy => by cases hy⟩
        · simp only [List.cons.injEq, and_true] at hcs
          subst hcs hn
          have hkid : ∀ i : Fin len, ∃ r : XM, XAt w.heap.size w n2 r ∧ ∀ (j : Nat) (v : Value), (cellsX r)[j]? = some v → w.cell? ((a.add (i.1 * 8)).add j) = some v := by
            intro i
            have hi := hel2 i.1 i.2
            rw [hC] at hi
            have hil : i.1 < elems.length := by rw [hel]; exact i.2
            rw [List.getElem?_eq_getElem hil] at hi
            obtain ⟨cs', hc', ht'⟩ := Option.bind_eq_some_iff.1 hi
            obtain ⟨_, hlen, hat⟩ := World.cells?_some hc'
            obtain ⟨r, rfl, hr⟩ := ih n2 (by omega) cs' _ ht' (fun m hm => hW m (.inr (.inr (.inr (.inr (by
              rw [hy5]
              simp only [DataW.weights, hS, List.mem_cons, List.mem_append]
              exact .inr (.inl (weights_all_mem (List.mem_map.2 ⟨_, List.getElem_mem hil, rfl⟩) m hm))))))))
            exact ⟨r, hr, fun j v hj => by rw [hat j (by have h9 := (List.getElem?_eq_some_iff.1 hj).1; rw [cellsX_len] at h9; exact h9)]; exact hj⟩
          obtain ⟨L, h1, h2, h3⟩ := row_of cellsX 8 (by omega) cellsX_len (fun r => XAt w.heap.size w n2 r) w a len hkid
          unfold maxLen at hcm
          refine ⟨⟨.mk ⟨z0, ⟨kk, b1, s3⟩, s4, s5, s6⟩ (L.map (·.t)), some a, cap⟩, ?_, HL, ?_, by simp only; omega, L, rfl, h2, fun y hy => RoseAt.up (h3 y hy)⟩
          · subst h1; simp [cellsX, cellsR, Lb.cells, Rose.lab, Rose.args]
          · simp [Rose.args]; omega

set_option maxRecDepth 100000 in
theorem open_expr {H : Type} {enc : TypeId × Value → H} {w : World} {r : Reach} {b0 : Nat} {v : Value} {d : DataW H} {p : List MemPlace} (hv : Value.okWide Tryd.prog w r b0 39 v) (h : DataW.Trod enc Tryd.prog w 0 (fun _ => true) true 39 v d p)
    (hs : Sized 39 d) : ∃ (x : XM) (n : Nat), v = x.v ∧ XAt w.heap.size w n x := by
  obtain ⟨cs, rfl, _⟩ := okWide_struct Tryd.underlying39 hv
  obtain ⟨fuel, hf⟩ := h
  obtain ⟨x, hx, hA⟩ := trod_expr Tryd.underlying39 Tryd.underlying37 (by kernel_rfl) (by kernel_rfl) ⟨rfl, rfl⟩ ⟨rfl, rfl⟩ ⟨rfl, rfl⟩ ⟨rfl, rfl⟩ ⟨rfl, rfl⟩ ⟨rfl, rfl⟩ fuel cs.toList (d, p) hf hs
  refine ⟨x, fuel, ?_, hA⟩
  unfold XM.v
  rw [← hx]
end Go.Proofs.YtjhdlbkcpdfpcaaDoor

/- Go's tables of UTF-8, out of what the card lists. -/
set_option linter.unusedSimpArgs false
set_option linter.unusedVariables false
set_option maxRecDepth 100000
namespace Go.Proofs.YtjhdlbkcpdfpcaaDoor
open Go Go.Lib Go.Shelf

theorem tabs_of {P : Program} {ρ : Ren} (L : Lays.n196 P ρ) {nm3 nm4 : String} (n3 : P.globalNamed nm3 = some (ρ.g 3)) (n4 : P.globalNamed nm4 = some (ρ.g 4)) (y3 : (P.globals[ρ.g 3]?).map (·.type) = some (ρ.t 119)) (y4 : (P.globals[ρ.g 4]?).map (·.type) = some (ρ.t 139))
    (c5 : P.cellsOf (ρ.t 5) = 1) (c119 : P.cellsOf (ρ.t 119) = 256) (c138 : P.cellsOf (ρ.t 138) = 2) {w : World} (h3 : VarReads P w nm3 firstData) (h4 : VarReads P w nm4 acceptData) : Lib.Utf8Tabs (ρ.g 3) (ρ.g 4) w := by
  refine ⟨fun c hc => ?_, fun i hi => ?_⟩
  · obtain ⟨g, t, cs, fuel, p, hg, hty, hvar, hd⟩ := h3
    obtain rfl := Option.some.inj (n3.symm.trans hg)
    obtain rfl := Option.some.inj (y3.symm.trans hty)
    have hcs := cells_of_tab L.t119 L.t5 c5 c119 hd
    have := World.var?_cell hg hvar c
    rw [this, ← Array.getElem?_toList, hcs]
    simp [firstTab, hc]
  · obtain ⟨g, t, cs, fuel, p, hg, hty, hvar, hd⟩ := h4
    obtain rfl := Option.some.inj (n4.symm.trans hg)
    obtain rfl := Option.some.inj (y4.symm.trans hty)
    obtain ⟨fuel', d, q, hdi, he⟩ := array_elem L.t139 hd i hi
    simp only [List.getElem?_map, List.getElem?_range hi, Option.map_some, Option.some.injEq] at hdi
    subst hdi
    rw [c138] at he
    have hcs := ints_of_struct L.t138 (fun j f hj => by
      match j, hj with
      | 0, hj => simp at hj; subst hj; exact ⟨L.t5, rfl, c5⟩
      | 1, hj => simp at hj; subst hj; exact ⟨L.t5, rfl, c5⟩
      | j + 2, hj => simp at hj) (by rw [c138]; rfl) he
    have e0 := congrArg (·[0]?) hcs
    have e1 := congrArg (·[1]?) hcs
    simp only [List.getElem?_take, List.getElem?_drop] at e0 e1
    constructor
    · rw [World.var?_cell hg hvar (2 * i), ← Array.getElem?_toList]
      simpa [Nat.mul_comm] using e0
    · rw [World.var?_cell hg hvar (2 * i + 1), ← Array.getElem?_toList]
      simpa [Nat.mul_comm] using e1

theorem first_eq : Rows.laid_unicode_utf8_first = firstData := Pinned.utf8First_eq
theorem accept_eq : (Rows.laid_unicode_utf8_acceptRanges : DataW Unit) = acceptData := by kernel_rfl

/-- The two tables, where the listed variables read as the card has them. -/
theorem tabs_laid {l : List (String × DataW Unit)} {w : World} (h : laidMet Tryd.prog l w) {nm3 nm4 : String} (m3 : (nm3, Rows.laid_unicode_utf8_first) ∈ l) (m4 : (nm4, (Rows.laid_unicode_utf8_acceptRanges : DataW Unit)) ∈ l)
    (n3 : Tryd.prog.globalNamed nm3 = some (Tryd.laysValid_ren.g 3)) (n4 : Tryd.prog.globalNamed nm4 = some (Tryd.laysValid_ren.g 4)) : Tabs w :=
  tabs_of Tryd.laysValid n3 n4 (by kernel_rfl) (by kernel_rfl) (by kernel_rfl) (by kernel_rfl) (by kernel_rfl) (first_eq ▸ Lib.laidMet.reads h m3) (accept_eq ▸ Lib.laidMet.reads h m4)
end Go.Proofs.YtjhdlbkcpdfpcaaDoor

/- What the package's variables hold, out of what the card lists; and the wrap that hands the world's shape too. -/
set_option linter.unusedSimpArgs false
set_option linter.unusedVariables false
set_option maxRecDepth 100000
namespace Go.Proofs.YtjhdlbkcpdfpcaaDoor
set_option linter.unusedSimpArgs false
open Go Go.Lib Go.Shelf Go.RowKit Go.ChangeShapes

theorem star5 : "*" ++ "errors.errorString" = "*errors.errorString" := by decide
theorem row5 (u : TypeId) (h : Tryd.prog.typeName? 3 u = some "*errors.errorString") : u = 150 :=
  typeName_ptr_named (nm := "errors.errorString") (by rw [star5]; kernel_rfl) (by kernel_rfl) (by decide) u (by rw [star5]; exact h)

theorem pow_eq : Rows.laid_internal_strconv_uint64pow10 = tabData (H := Unit) .u64 Lib.pow10Tab := by kernel_rfl

theorem pow_reads {P : Program} {w : World} {nm : String} {t e : TypeId} {g : Nat} (hg : P.globalNamed nm = some g) (hty : (P.globals[g]?).map (·.type) = some t) (ht : P.underlying t = some (.array 20 e)) (he : P.underlying e = some (.int .u64)) (hce : P.cellsOf e = 1) (hct : P.cellsOf t = 20)
    (h : VarReads P w nm (tabData .u64 Lib.pow10Tab)) : Lib.TabIs P w nm .u64 Lib.pow10Tab := by
  obtain ⟨g', t', cs, fuel, p, hg', ht', hvar, hd⟩ := h
  obtain rfl := Option.some.inj (hg.symm.trans hg')
  obtain rfl := Option.some.inj (hty.symm.trans ht')
  unfold TabIs
  rw [hvar, ← cells_of_tab ht he hce hct hd]

theorem pre4_laid {l : List (String × DataW Unit)} {w : World} (h : laidMet Tryd.prog l w) (hsh : w.ShapedOpen Tryd.prog) {nm3 nm4 : String} (m2 : (powName, Rows.laid_internal_strconv_uint64pow10) ∈ l) (m3 : (nm3, Rows.laid_unicode_utf8_first) ∈ l) (m4 : (nm4, (Rows.laid_unicode_utf8_acceptRanges : DataW Unit)) ∈ l)
    (n3 : Tryd.prog.globalNamed nm3 = some (Tryd.laysValid_ren.g 3)) (n4 : Tryd.prog.globalNamed nm4 = some (Tryd.laysValid_ren.g 4)) : Pre4 w where
  tabs := tabs_laid h m3 m4 n3 n4
  maxlen := Tryd.laysRepl.s1_3 w hsh
  pow := pow_reads (g := (Tryd.prog.globalNamed powName).getD 0) (t := 140) (e := 113) (by kernel_rfl) (by kernel_rfl) Tryd.underlying140 Tryd.underlying113 (by kernel_rfl) (by kernel_rfl) (pow_eq ▸ Lib.laidMet.reads h m2)

theorem pre5_laid {x0 x1 x5 : String × DataW Unit} {nm3 nm4 nm5 : String} {r : List (String × DataW Unit)} {w : World} (h : laidMet Tryd.prog (x0 :: x1 :: (powName, Rows.laid_internal_strconv_uint64pow10) :: (nm4, (Rows.laid_unicode_utf8_acceptRanges : DataW Unit)) :: (nm5, Rows.laid_strconv_ErrRange) :: x5 :: (nm3, Rows.laid_unicode_utf8_first) :: r) w) (hsh : w.ShapedOpen Tryd.prog)
    (n3 : Tryd.prog.globalNamed nm3 = some (Tryd.laysValid_ren.g 3)) (n4 : Tryd.prog.globalNamed nm4 = some (Tryd.laysValid_ren.g 4)) (n5 : Tryd.prog.globalNamed nm5 = some (Tryd.laysParse_ren.g 16)) : Pre5 w where
  toPre4 := pre4_laid h hsh (List.Mem.tail _ (List.Mem.tail _ (List.Mem.head _))) (List.Mem.tail _ (List.Mem.tail _ (List.Mem.tail _ (List.Mem.tail _ (List.Mem.tail _ (List.Mem.tail _ (List.Mem.head _))))))) (List.Mem.tail _ (List.Mem.tail _ (List.Mem.tail _ (List.Mem.head _)))) n3 n4
  rng := by
    obtain ⟨a, s, hv, _⟩ := laid_sentinel h.tail.tail.tail.tail (g := Tryd.laysParse_ren.g 16) (ti := 85) (tp := 150) (te := 152) (ts := 9) n5 (by kernel_rfl) Tryd.underlying85 row5 Tryd.underlying150 Tryd.underlying152 rfl rfl Tryd.underlying9 (by kernel_rfl) (by kernel_rfl)
    exact ⟨_, by simpa using World.var?_cell n5 hv 0, .inr ⟨_, _, rfl⟩⟩

section
variable {H : Type} {enc : TypeId × Value → H}

/-- As the wrap of a row with a premise of its own; it hands the contract the world's shape too. -/
theorem handed_change_shaped {a : Assume} {C : Checked} {os : Os} {f : FuncId} {fn : Func} {s : ChangeSpec} {conds : List PathCond} {apart fresh handsOn again : Bool} {X : World → Array Value → Prop}
    (hX : ∀ (w w' : World) (args : Array Value), w.heap = w'.heap → X w args → X w' args)
    (own : ownKnob C.prog.godebug = none) (started : os.Started) (noInit : C.prog.inits.idxOf? f = none) (hfn : C.prog.funcs[f]? = some fn)
    (witness : ∃ (w : World) (tape : Tape) (i : Input), w.os = os ∧ (w.forCall tape i).Shaped C.prog ∧ i.vars = [] ∧ Input.okWide C.prog (w.forCall tape i) .any w.heap.size f i ∧
      ((s.pre enc C.prog fn conds apart (w.forCall tape i).memory i.args ∧ X (w.forCall tape i).memory i.args) ∧ sizedMet enc C.prog fn (OpenSpec.ofChange s) apart (w.forCall tape i).memory i.args) ∧ a.holds C.prog (lone (Frame.enter C.prog f i.args .normal) [] (w.forCall tape i)))
    (contract : ∀ (W : World) (base : Nat) (args : Array Value) (ds gs : List (DataW H)) (before : List MemPlace),
      (∀ (j : Nat) t v, fn.params[j]? = some t → args[j]? = some v → Value.okWide C.prog W .any base t v) →
      DataW.Whole enc C.prog fn.params.toList s.vars apart W args.toList ds gs before →
      conds.all (PathCond.test C.prog ⟨fn.params.toList, ds, s.plain.varTypes C.prog, gs⟩) = true →
      (DataW.weightsEach C.prog (fn.params.toList ++ s.plain.varTypes C.prog) (ds ++ gs)).all (· ≤ reachBytes) = true → X W args → W.ShapedOpen C.prog →
      a.holds C.prog (lone (Frame.enter C.prog f args .normal) [] W) →
      Calls C.prog f args W fun e W' => ∃ v, e = .returned v ∧ s.post enc C.prog fn apart fresh handsOn again W args v W') :
    ReturnsInHanded a C os f .any (fun w args => (s.pre enc C.prog fn conds apart w args ∧ X w args) ∧ sizedMet enc C.prog fn (OpenSpec.ofChange s) apart w args) (s.post enc C.prog fn apart fresh handsOn again) := by
  refine returnsInHanded_of_calls own started noInit witness ?_
  intro w tape i _ hsh _ hok hpre hholds
  obtain ⟨_, _, _, fn', hfn', _, _, _, _, hval⟩ := hok
  have e : fn' = fn := Option.some.inj (hfn'.symm.trans hfn)
  subst e
  obtain ⟨⟨⟨ds, gs, before, hw, hc⟩, hx⟩, hz⟩ := hpre
  have hw' := DataW.Whole.of_heap (w' := w.forCall tape i) (by rfl) hw
  refine (contract (w.forCall tape i) w.heap.size i.args ds gs before hval hw' hc (hz.weights hw) (hX _ _ _ (by rfl) hx) hsh hholds).mono fun e W' ⟨v, he, hp⟩ => ?_
  subst he
  exact ChangeSpec.post_blind hp
end
end Go.Proofs.YtjhdlbkcpdfpcaaDoor
