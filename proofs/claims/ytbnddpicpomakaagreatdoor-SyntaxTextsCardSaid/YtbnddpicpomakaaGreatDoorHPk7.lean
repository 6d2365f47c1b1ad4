/- Several texts of one proof, one behind the other. -/
import Derived.Test.YtbnddpicpomakaaGreatDoorHPk6
import Derived.Lib.Replace
import Derived.Lib.Strings
import Derived.Test.YtbnddpicpomakaaGreatDoorRows
import Derived.Shelf.Utf8.RuneCount
import Derived.Shelf.Strings.Replace
import Derived.Shelf.Strings.SplitShaped
import Derived.Shelf.Strings.Prefix
import Derived.Shelf.Strconv.Itoa4
import Derived.Shelf.Strconv.ErrVarParseInt
import Derived.Lib.LaidTab
import Derived.Shelf.Strings.OnBuilder
import Derived.Lib.ItoaLen
set_option linter.unusedSimpArgs false
set_option linter.unusedVariables false

/- Quoted texts: plain mathematics. -/
set_option linter.unusedSimpArgs false
set_option linter.unusedVariables false
set_option maxRecDepth 100000
namespace Go.Proofs.YtbnddpicpomakaaGreatDoor
set_option linter.unusedSimpArgs false
open Go

def dblL : List UInt8 → List UInt8
  | [] => []
  | c :: l => if c = 39 then 39 :: 39 :: dblL l else c :: dblL l

theorem dblL_app : ∀ a b : List UInt8, dblL (a ++ b) = dblL a ++ dblL b
  | [], b => rfl
  | c :: a, b => by
    rw [List.cons_append, dblL, dblL, dblL_app a b]
    split <;> rfl

theorem dblL_plain : ∀ {a : List UInt8}, (∀ c ∈ a, c ≠ 39) → dblL a = a
  | [], _ => rfl
  | c :: a, h => by rw [dblL, if_neg (h c (by simp)), dblL_plain fun x hx => h x (by simp [hx])]

theorem dblL_len : ∀ a : List UInt8, a.length ≤ (dblL a).length ∧ (dblL a).length ≤ 2 * a.length
  | [] => by simp [dblL]
  | c :: a => by
    have := dblL_len a
    rw [dblL]
    split <;> simp <;> omega

/-- Every text is free of quotes, or is one that is, a quote, and a rest. -/
theorem split_quote : ∀ l : List UInt8, (∀ c ∈ l, c ≠ 39) ∨ ∃ a b, l = a ++ 39 :: b ∧ ∀ c ∈ a, c ≠ 39
  | [] => .inl (by simp)
  | c :: l => by
    by_cases h : c = 39
    · subst h; exact .inr ⟨[], l, rfl, by simp⟩
    · rcases split_quote l with h2 | ⟨a, b, h3, h4⟩
      · exact .inl fun x hx => (List.mem_cons.1 hx).elim (fun e => e ▸ h) (h2 x)
      · exact .inr ⟨c :: a, b, by rw [h3]; rfl, fun x hx => (List.mem_cons.1 hx).elim (fun e => e ▸ h) (h4 x)⟩

theorem index_none_of (p : List UInt8) : ∀ {l : List UInt8}, p = 39 :: p.tail → (∀ c ∈ l, c ≠ 39) → Lib.index l p = -1
  | [], hp, _ => by rw [hp]; rfl
  | c :: l, hp, h => by
    have h0 := h c (by simp)
    have hn : p.isPrefixOf (c :: l) = false := by
      rw [hp, List.isPrefixOf]
      have : ((39 : UInt8) == c) = false := by simpa using fun e => h0 e.symm
      rw [this]; rfl
    rw [Lib.index, hn, index_none_of p hp fun x hx => h x (by simp [hx])]
    rfl

theorem index_some_of (p : List UInt8) : ∀ {a b : List UInt8}, p = 39 :: p.tail → (∀ c ∈ a, c ≠ 39) → p.isPrefixOf b = true → Lib.index (a ++ b) p = (a.length : Int)
  | [], b, hp, _, hb => by
    cases b with
    | nil => rw [hp] at hb; simp [List.isPrefixOf] at hb
    | cons x b => rw [List.nil_append, Lib.index, hb]; rfl
  | c :: a, b, hp, h, hb => by
    have h0 := h c (by simp)
    have hn : p.isPrefixOf (c :: (a ++ b)) = false := by
      rw [hp, List.isPrefixOf]
      have : ((39 : UInt8) == c) = false := by simpa using fun e => h0 e.symm
      rw [this]; rfl
    have ih := index_some_of p (a := a) (b := b) hp (fun x hx => h x (by simp [hx])) hb
    rw [List.cons_append, Lib.index, hn, ih, List.length_cons]
    rw [if_neg (by simp)]
    have : ((a.length : Int) == -1) = false := by simp
    rw [this]
    simp

theorem replaceK_none {o n l : List UInt8} (h : Lib.index l o = -1) : ∀ k, Lib.replaceK o n k l = l
  | 0 => rfl
  | k + 1 => by rw [Lib.replaceK, h]; rfl

/-- Each quote doubled. -/
theorem replaceK_dbl : ∀ (k : Nat) (l : List UInt8), Lib.count l [39] ≤ k → Lib.replaceK [39] [39, 39] k l = dblL l
  | k, l, hk => by
    rcases split_quote l with h | ⟨a, b, rfl, h⟩
    · rw [replaceK_none (index_none_of [39] rfl h), dblL_plain h]
    · have hi : Lib.index (a ++ 39 :: b) [39] = (a.length : Int) := index_some_of [39] rfl h (by simp [List.isPrefixOf])
      have hc := Lib.count_hit (by simp) hi
      cases k with
      | zero => omega
      | succ k =>
        have hd : (a ++ 39 :: b).drop (a.length + [(39 : UInt8)].length) = b := by
          rw [← List.drop_drop, List.drop_left]; rfl
        rw [hd] at hc
        rw [Lib.replaceK_hit _ _ _ _ _ hi, hd, List.take_left, replaceK_dbl k b (by omega), dblL_app, dblL_plain h]
        simp [dblL]

theorem replaceAll_dbl (l : List UInt8) : Lib.replaceAll l [39] [39, 39] = dblL l := by
  unfold Lib.replaceAll Lib.replace Lib.replaceNum
  rw [if_neg (by decide), if_pos (.inl (by omega))]
  exact replaceK_dbl _ l (Nat.le_refl _)

/-- .. and back. -/
theorem replaceK_undbl : ∀ (k : Nat) (l : List UInt8), Lib.count (dblL l) [39, 39] ≤ k → Lib.replaceK [39, 39] [39] k (dblL l) = l
  | k, l, hk => by
    rcases split_quote l with h | ⟨a, b, rfl, h⟩
    · rw [dblL_plain h, replaceK_none (index_none_of [39, 39] rfl h)]
    · have e : dblL (a ++ 39 :: b) = a ++ 39 :: 39 :: dblL b := by rw [dblL_app, dblL_plain h]; simp [dblL]
      rw [e] at hk ⊢
      have hi : Lib.index (a ++ 39 :: 39 :: dblL b) [39, 39] = (a.length : Int) := index_some_of [39, 39] rfl h (by simp [List.isPrefixOf])
      have hc := Lib.count_hit (by simp) hi
      cases k with
      | zero => omega
      | succ k =>
        have hd : (a ++ 39 :: 39 :: dblL b).drop (a.length + [(39 : UInt8), 39].length) = dblL b := by
          rw [← List.drop_drop, List.drop_left]; rfl
        rw [hd] at hc
        rw [Lib.replaceK_hit _ _ _ _ _ hi, hd, List.take_left, replaceK_undbl k b (by omega)]
        simp

theorem replaceAll_undbl (l : List UInt8) : Lib.replaceAll (dblL l) [39, 39] [39] = l := by
  unfold Lib.replaceAll Lib.replace Lib.replaceNum
  rw [if_neg (by decide), if_pos (.inl (by omega))]
  exact replaceK_undbl _ l (Nat.le_refl _)

def quoteL (l : List UInt8) : List UInt8 := 39 :: (dblL l ++ [39])
def bodyL (l : List UInt8) : List UInt8 := Lib.trimSuffix (Lib.trimPrefix l [39]) [39]
def plainL (l : List UInt8) : List UInt8 := Lib.replaceAll (bodyL l) [39, 39] [39]
def unquoteL (l : List UInt8) : List UInt8 × Int := if quoteL (plainL l) = l then (plainL l, 0) else ([], 3)

theorem body_quote (l : List UInt8) : bodyL (quoteL l) = dblL l := by
  have h1 : Lib.trimPrefix (quoteL l) [39] = dblL l ++ [39] := by
    unfold Lib.trimPrefix Lib.hasPrefix quoteL
    rw [if_pos (by simp [List.isPrefixOf])]
    rfl
  have hs : [(39 : UInt8)].isSuffixOf (dblL l ++ [39]) = true := by
    rw [List.isSuffixOf_iff_suffix]
    exact ⟨dblL l, rfl⟩
  unfold bodyL
  rw [h1]
  unfold Lib.trimSuffix Lib.hasSuffix
  rw [if_pos hs]
  simp

theorem plain_quote (l : List UInt8) : plainL (quoteL l) = l := by
  unfold plainL; rw [body_quote, replaceAll_undbl]

theorem unquote_quote (l : List UInt8) : unquoteL (quoteL l) = (l, 0) := by
  unfold unquoteL; rw [plain_quote, if_pos rfl]

theorem body_len (l : List UInt8) : (bodyL l).length ≤ l.length := by
  unfold bodyL Lib.trimSuffix Lib.trimPrefix
  split <;> split <;> simp [List.length_take, List.length_drop] <;> omega
end Go.Proofs.YtbnddpicpomakaaGreatDoor

/- The walks of runes.Count, Quote, Unquote, isDigits, Number and Digits. -/
set_option linter.unusedSimpArgs false
set_option linter.unusedVariables false
set_option maxRecDepth 100000
namespace Go.Proofs.YtbnddpicpomakaaGreatDoor
set_option linter.unusedSimpArgs false
open Go.RowKit

/-- The name of the table of powers. -/
def powName : String := "internal/strconv.uint64pow10"

/-- What the package's variables hold. -/
structure Pre4 (w : World) : Prop where
  tabs : Tabs w
  maxlen : ∃ m, w.cell? ⟨Tryz.laysRepl_ren.g 1, 0, none⟩ = some (.int .i64 m)
  pow : Lib.TabIs Tryz.prog w powName .u64 Lib.pow10Tab
/-- .. and the error of numbers out of range. -/
structure Pre5 (w : World) : Prop extends Pre4 w where
  rng : ∃ ev, w.cell? ⟨Tryz.laysParse_ren.g 16, 0, none⟩ = some ev ∧ (ev = .nilIface ∨ ∃ te pe, ev = .iface te pe)
instance (w : World) : Coe (Pre5 w) (Pre4 w) := ⟨fun h => h.toPre4⟩

theorem cell_kept5 {w w' : World} {a : Addr} {v : Value} (h : w.cell? a = some v) (hb : Below w.heap.size w w') : w'.cell? a = some v :=
  (hb.cell (World.block_lt_of_cell? _ _ h)).trans h

theorem var_kept5 {P : Program} {w w' : World} {n : String} {cs : Array Value} (h : w.var? P n = some cs) (hb : Below w.heap.size w w') : w'.var? P n = some cs := by
  unfold World.var? at h ⊢
  cases hg : P.globalNamed n with
  | none => rw [hg] at h; simp at h
  | some g =>
    rw [hg] at h
    simp only [Option.bind_some] at h ⊢
    have hlt : g < w.heap.size := by
      by_cases hlt : g < w.heap.size
      · exact hlt
      · rw [Array.getElem?_eq_none (by omega)] at h; simp at h
    rw [hb.block g hlt]
    exact h

theorem Pre4.below {w w' : World} (h : Pre4 w) (hb : Below w.heap.size w w') : Pre4 w' :=
  ⟨h.tabs.below hb, let ⟨m, hm⟩ := h.maxlen; ⟨m, cell_kept5 hm hb⟩, var_kept5 h.pow hb⟩
theorem Pre5.below {w w' : World} (h : Pre5 w) (hb : Below w.heap.size w w') : Pre5 w' :=
  ⟨h.toPre4.below hb, let ⟨ev, h1, h2⟩ := h.rng; ⟨ev, cell_kept5 h1 hb, h2⟩⟩

/-! Count. -/
theorem count_dec (s : ByteArray) : ∀ (r : List Nat) (pos fuel : Nat), decS ((bytesU s).drop pos) = some r → s.size ≤ pos + fuel → Lib.runeCountFrom s fuel pos = r.length
  | [], pos, fuel, h, _ => by
    have hp : ¬ pos < s.size := by
      intro hp
      have h2 := ((decS_iff (fun c hc => bytesU_lt s c (List.mem_of_mem_drop hc)) []).1 h).2
      have := congrArg List.length h2
      rw [List.length_drop, bytesU_len] at this
      simp [encS] at this
      omega
    rw [Lib.runeCountFrom_end s fuel pos hp]; rfl
  | v :: r, pos, fuel, h, hf => by
    have hne : (bytesU s).drop pos ≠ [] := by
      intro h0; rw [h0, decS_nil] at h; simp at h
    obtain ⟨v', n, r', h1, h2, h3, h4, h5, h6, h7, h8⟩ := decS_step (fun c hc => bytesU_lt s c (List.mem_of_mem_drop hc)) h hne
    simp only [List.cons.injEq] at h2
    obtain ⟨rfl, rfl⟩ := h2
    rw [List.length_drop, bytesU_len] at h6
    obtain ⟨f, rfl⟩ : ∃ f, fuel = f + 1 := ⟨fuel - 1, by omega⟩
    unfold Lib.runeCountFrom
    rw [if_pos (by omega), decode_hd, h4]
    rw [List.drop_drop] at h3
    rw [count_dec s r (pos + n) f h3 (by omega), List.length_cons]; omega

def countV (s : ByteArray) : Int × Int := match decS (bytesU s) with
  | none => (0, 3)
  | some p => ((p.length : Int), 0)

/-! Quote and Unquote. -/
def baL (l : List UInt8) : ByteArray := ⟨l.toArray⟩
theorem baL_list (l : List UInt8) : (baL l).data.toList = l := by simp [baL]
theorem baL_size (l : List UInt8) : (baL l).size = l.length := by simp [baL, ByteArray.size]
theorem baL_data (s : ByteArray) : baL s.data.toList = s := by
  apply ByteArray.ext; simp [baL]

def quoteS (s : ByteArray) : ByteArray := baL (quoteL s.data.toList)
def unquoteS (s : ByteArray) : ByteArray × Int := (baL (unquoteL s.data.toList).1, (unquoteL s.data.toList).2)

theorem extraRepl : Builder.Extra Tryz.prog Tryz.laysRepl_ren := {
  sizeBuilder := by kernel_rfl
  liesBuilder := by kernel_rfl
  t5 := Tryz.underlying5
  a5 := Tryz.isAgg5
  z5 := Tryz.sizeOf5
  v5 := Tryz.zeroValue5
  infoByte := by kernel_rfl
  cellsByte := by kernel_rfl
  sizeByte := by kernel_rfl
  neB5 := by decide }

theorem repl_any (s old new : ByteArray) (w : World) (hT : Pre4 w) (hs : s.size ≤ 1000000) (h1 : 1 ≤ old.size) (h2 : new.size ≤ 2) :
    Calls Tryz.prog 103 #[.string s, .string old, .string new] w fun e w' => e = .returned (.string (baL (Lib.replaceAll s.data.toList old.data.toList new.data.toList))) ∧ Below w.heap.size w w' := by
  obtain ⟨m, hm⟩ := hT.maxlen
  have hc := Lib.countB_le old h1 s.size s (Nat.le_refl _)
  refine Any.strings_ReplaceAll { Tryz.laysRepl with } extraRepl s old new m w (by omega) hm h1 ?_
  have : Lib.countB s old * new.size ≤ s.size * 2 := Nat.mul_le_mul hc h2
  omega

theorem quote_cat (s : ByteArray) : (⟨#[39]⟩ : ByteArray) ++ baL (dblL s.data.toList) ++ ⟨#[39]⟩ = quoteS s := by
  apply ByteArray.ext
  simp [quoteS, baL, quoteL]

theorem dbl_size (s : ByteArray) : (baL (dblL s.data.toList)).size ≤ 2 * s.size := by
  rw [baL_size]
  have := (dblL_len s.data.toList).2
  simpa using this

set_option maxHeartbeats 1000000 in
theorem Quote_any (s : ByteArray) (w : World) (hT : Pre4 w) (hs : s.size ≤ 1000000) :
    Calls Tryz.prog 67 #[.string s] w fun e w' => e = .returned (.string (quoteS s)) ∧ Below w.heap.size w w' := by
  have h := repl_any s ⟨#[39]⟩ ⟨#[39, 39]⟩ w hT hs (by decide) (by decide)
  have e : Lib.replaceAll s.data.toList (⟨#[39]⟩ : ByteArray).data.toList (⟨#[39, 39]⟩ : ByteArray).data.toList = dblL s.data.toList := replaceAll_dbl _
  rw [e] at h
  have hq := quote_cat s
  have hz := dbl_size s
  obtain ⟨d, hd⟩ : ∃ d, baL (dblL s.data.toList) = d := ⟨_, rfl⟩
  rw [hd] at h hq hz
  have HQ := Lib.hid hq
  have HC := Lib.hid h
  have s1 : ¬ 9223372036854775807 < 1 + d.size := by omega
  have s2 : ¬ 9223372036854775807 < 1 + d.size + 1 := by omega
  clear h e hq hd hT
  go_enter Tryz.func67, Tryz.ntmps67
  go_wp2_with fail
  refine HC.out.mono ?_
  rintro e w1 ⟨rfl, b1⟩
  go_wp2
  go_ret
  exact ⟨by rw [← HQ.out]; rfl, b1⟩

theorem neq_lists {a b : ByteArray} (h : ¬ a = b) : (a.toList != b.toList) = true := by
  rw [bne_iff_ne]
  intro e
  apply h
  rw [ByteArray.toList_eq, ByteArray.toList_eq] at e
  exact ByteArray.ext (Array.toList_inj.1 e)

theorem plain_len (l : List UInt8) (h : quoteL (plainL l) = l) : (plainL l).length ≤ l.length := by
  have := congrArg List.length h
  unfold quoteL at this
  have h2 := (dblL_len (plainL l)).1
  simp at this
  omega

theorem index_bd (l p : List UInt8) : Lib.index l p ≤ (l.length : Int) := by
  induction l with
  | nil => rw [Lib.index]; split <;> simp
  | cons b l ih =>
    rw [Lib.index]
    split
    · simp; omega
    · split
      · simp; omega
      · simp; omega

theorem replaceK_len (o n : List UInt8) (h : n.length ≤ o.length) : ∀ (k : Nat) (l : List UInt8), (Lib.replaceK o n k l).length ≤ l.length + n.length * k
  | 0, l => by simp [Lib.replaceK]
  | k + 1, l => by
    rw [Lib.replaceK]
    split
    · omega
    · have := replaceK_len o n h k (l.drop ((Lib.index l o).toNat + o.length))
      rw [List.length_append, List.length_append, List.length_take]
      rw [List.length_drop] at this
      rw [Nat.mul_succ]
      omega

theorem plain_bd (l : List UInt8) : (plainL l).length ≤ 2 * l.length + 1 := by
  unfold plainL Lib.replaceAll Lib.replace Lib.replaceNum
  have hb := body_len l
  rw [if_neg (by decide), if_pos (.inl (by omega))]
  have h1 := replaceK_len [39, 39] [39] (by simp) (Lib.count (bodyL l) [39, 39]) (bodyL l)
  have h2 := Lib.count_le (bodyL l) [39, 39]
  simp at h1
  omega

set_option maxHeartbeats 2000000 in
theorem Unquote_any (s : ByteArray) (w : World) (hT : Pre4 w) (hs : s.size ≤ 400000) :
    Calls Tryz.prog 98 #[.string s] w fun e w' => e = .returned (.tuple #[.string (unquoteS s).1, .int .i64 (unquoteS s).2]) ∧ Below w.heap.size w w' := by
  have HP : ∀ W, Calls Tryz.prog 117 #[.string s, .string ⟨#[39]⟩] W fun e w' => e = .returned (.string (baL (Lib.trimPrefix s.data.toList [39]))) ∧ w' = W := fun W => Any.strings_TrimPrefix Tryz.laysTrimP s ⟨#[39]⟩ W
  have hpl : (Lib.trimPrefix s.data.toList [39]).length ≤ s.size := by
    unfold Lib.trimPrefix
    have : s.data.toList.length = s.size := by simp
    split
    · rw [List.length_drop]; omega
    · omega
  have HS : ∀ W, Calls Tryz.prog 116 #[.string (baL (Lib.trimPrefix s.data.toList [39])), .string ⟨#[39]⟩] W fun e w' => e = .returned (.string (baL (bodyL s.data.toList))) ∧ w' = W := fun W => by
    have := Any.strings_TrimSuffix Tryz.laysTrimS (baL (Lib.trimPrefix s.data.toList [39])) ⟨#[39]⟩ W (by rw [baL_size]; omega)
    rw [baL_list] at this
    exact this
  have hbl : (baL (bodyL s.data.toList)).size ≤ 1000000 := by
    rw [baL_size]
    have := body_len s.data.toList
    have e : s.data.toList.length = s.size := by simp
    omega
  have HR : ∀ W, Below w.heap.size w W → Calls Tryz.prog 103 #[.string (baL (bodyL s.data.toList)), .string ⟨#[39, 39]⟩, .string ⟨#[39]⟩] W fun e w' => e = .returned (.string (baL (plainL s.data.toList))) ∧ Below W.heap.size W w' := fun W hb => by
    have := repl_any (baL (bodyL s.data.toList)) ⟨#[39, 39]⟩ ⟨#[39]⟩ W (hT.below hb) hbl (by decide) (by decide)
    rw [baL_list] at this
    exact this
  have hpz : (baL (plainL s.data.toList)).size ≤ 1000000 := by
    rw [baL_size]
    have := plain_bd s.data.toList
    have e : s.data.toList.length = s.size := by simp
    omega
  have HQ : ∀ W, Below w.heap.size w W → Calls Tryz.prog 67 #[.string (baL (plainL s.data.toList))] W fun e w' => e = .returned (.string (quoteS (baL (plainL s.data.toList)))) ∧ Below W.heap.size W w' := fun W hb => Quote_any _ W (hT.below hb) hpz
  have hU : (quoteS (baL (plainL s.data.toList)) = s ∧ unquoteS s = (baL (plainL s.data.toList), 0)) ∨ (¬ quoteS (baL (plainL s.data.toList)) = s ∧ unquoteS s = (⟨#[]⟩, 3)) := by
    unfold unquoteS unquoteL quoteS
    rw [baL_list]
    by_cases h : quoteL (plainL s.data.toList) = s.data.toList
    · left
      rw [if_pos h, h]
      exact ⟨baL_data s, rfl⟩
    · right
      rw [if_neg h]
      refine ⟨fun e => h ?_, rfl⟩
      have h3 := congrArg (fun t : ByteArray => t.data.toList) e
      rw [baL_list] at h3
      exact h3
  have H1 := Lib.hid HP
  have H2 := Lib.hid HS
  have H3 := Lib.hid HR
  have H4 := Lib.hid HQ
  obtain ⟨t, ht⟩ : ∃ t, baL (Lib.trimPrefix s.data.toList [39]) = t := ⟨_, rfl⟩
  obtain ⟨b, hb⟩ : ∃ b, baL (bodyL s.data.toList) = b := ⟨_, rfl⟩
  obtain ⟨p, hp⟩ : ∃ p, baL (plainL s.data.toList) = p := ⟨_, rfl⟩
  rw [ht] at H1 H2
  rw [hb] at H2 H3
  rw [hp] at H3 H4 hU
  obtain ⟨q, hq⟩ : ∃ q, quoteS p = q := ⟨_, rfl⟩
  rw [hq] at H4 hU
  clear HP HS HR HQ hpl hbl hpz ht hb hp hq hT
  rcases hU with ⟨rfl, hU⟩ | ⟨hne, hU⟩
  · have HU := Lib.hid hU
    clear hU
    go_enter Tryz.func98, Tryz.ntmps98
    go_wp2_with fail
    refine (H1.out _).mono ?_
    rintro e w1 ⟨rfl, rfl⟩
    go_wp2_with fail
    refine (H2.out _).mono ?_
    rintro e w2 ⟨rfl, rfl⟩
    go_wp2_with fail
    refine (H3.out _ (Below.refl _ _)).mono ?_
    rintro e w3 ⟨rfl, b3⟩
    go_wp2_with fail
    refine (H4.out _ b3).mono ?_
    rintro e w4 ⟨rfl, b4⟩
    go_wp2
    go_ret2
    exact ⟨by rw [HU.out]; rfl, b3.trans (b4.mono b3.size)⟩
  · have HU := Lib.hid hU
    have qn2 : (q.toList == s.toList) = false := by have := neq_lists hne; simpa using this
    clear hU hne
    go_enter Tryz.func98, Tryz.ntmps98
    go_wp2_with fail
    refine (H1.out _).mono ?_
    rintro e w1 ⟨rfl, rfl⟩
    go_wp2_with fail
    refine (H2.out _).mono ?_
    rintro e w2 ⟨rfl, rfl⟩
    go_wp2_with fail
    refine (H3.out _ (Below.refl _ _)).mono ?_
    rintro e w3 ⟨rfl, b3⟩
    go_wp2_with fail
    refine (H4.out _ b3).mono ?_
    rintro e w4 ⟨rfl, b4⟩
    go_wp2
    go_ret2
    exact ⟨by rw [HU.out]; rfl, b3.trans (b4.mono b3.size)⟩

/-! Digits. -/
theorem Digits_any (n : Int) (w : World) (hT : Pre4 w) (h0 : -9223372036854775808 ≤ n) (h1 : n ≤ 9223372036854775807) :
    Calls Tryz.prog 66 #[.int .i64 n] w fun e w' => e = .returned (.string (baL (Lib.itoa n))) ∧ Below w.heap.size w w' := by
  have hF : Calls Tryz.prog 102 #[.int .i64 n, .int .i64 10] w fun e w' => e = .returned (.string (baL (Lib.itoa n))) ∧ ∃ k os, w' = Sort.grow (w.drewN k) os := Any.strconv_FormatInt_10 Tryz.laysFmt n h0 h1 w hT.pow
  obtain ⟨d, hd⟩ : ∃ d, baL (Lib.itoa n) = d := ⟨_, rfl⟩
  rw [hd] at hF ⊢
  have HF := Lib.hid hF
  clear hF hd hT
  go_enter Tryz.func66, Tryz.ntmps66
  go_wp2_with fail
  refine HF.out.mono ?_
  rintro e w1 ⟨rfl, k, os, rfl⟩
  have hb : Below w.heap.size w (Sort.grow (w.drewN k) os) := ⟨rfl, rfl, rfl, by first | (simp [Sort.grow]; done) | (simp [Sort.grow]; omega), fun i hi => by
    show ((w.drewN k).heap ++ os)[i]? = _
    rw [Array.getElem?_append_left (by show i < w.heap.size; omega)]
    rfl⟩
  obtain ⟨W, hW⟩ : ∃ W, Sort.grow (w.drewN k) os = W := ⟨_, rfl⟩
  rw [hW] at hb ⊢
  clear hW
  go_wp2
  go_ret
  exact ⟨rfl, hb⟩
end Go.Proofs.YtbnddpicpomakaaGreatDoor

/- The walks of token.text and token.Write. -/
set_option linter.unusedSimpArgs false
set_option linter.unusedVariables false
set_option maxRecDepth 100000
namespace Go.Proofs.YtbnddpicpomakaaGreatDoor
open Go.RowKit

/-- A token. -/
structure Tk where
  kd : Int
  at_ : Int
  tx : ByteArray
  n : Int
  deriving DecidableEq
def Tk.cells (t : Tk) : List Value := [.int .i64 t.kd, .int .i64 t.at_, .string t.tx, .int .i64 t.n]
structure Tk.fair (t : Tk) : Prop where
  kd : -9223372036854775808 ≤ t.kd ∧ t.kd ≤ 9223372036854775807
  at_ : -9223372036854775808 ≤ t.at_ ∧ t.at_ ≤ 9223372036854775807
  tx : t.tx.size ≤ 140737488351232
  n : -9223372036854775808 ≤ t.n ∧ t.n ≤ 9223372036854775807
def cellsTk (l : List Tk) : List Value := cellsOf Tk.cells l
theorem cellsTk_len (l : List Tk) : (cellsTk l).length = l.length * 4 := cellsOf_len _ 4 (fun _ => rfl) l
theorem tkAt {N : Nat} {w : World} {a : Option Addr} {l : List Tk} (h : Arr N w a (cellsTk l)) {k : Nat} (hk : k < l.length) : ∃ b o, a = some ⟨b, o, none⟩ ∧ b < N ∧
    w.cell? ⟨b, o + k * 4, none⟩ = some (.int .i64 l[k].kd) ∧ w.cell? ⟨b, o + k * 4 + 1, none⟩ = some (.int .i64 l[k].at_) ∧ w.cell? ⟨b, o + k * 4 + 2, none⟩ = some (.string l[k].tx) ∧ w.cell? ⟨b, o + k * 4 + 3, none⟩ = some (.int .i64 l[k].n) := by
  obtain ⟨b, o, ha, hb, hc⟩ := h.at_ (by intro h0; have := cellsTk_len l; rw [h0] at this; simp at this; omega)
  have g := fun (j : Nat) (v : Value) (hv : (Tk.cells l[k])[j]? = some v) => hc _ _ (cellsOf_get Tk.cells 4 (fun _ => rfl) l k j l[k] v (List.getElem?_eq_getElem hk) hv)
  exact ⟨b, o, ha, hb, by simpa using g 0 _ rfl, by simpa [Nat.add_assoc] using g 1 _ rfl, by simpa [Nat.add_assoc] using g 2 _ rfl, by simpa [Nat.add_assoc] using g 3 _ rfl⟩

/-- The text of a token, if it has one. -/
def Tk.text (t : Tk) : ByteArray × Bool :=
  if t.kd = 1 ∨ t.kd = 5 then (t.tx, true) else if t.kd = 2 then (baL (Lib.itoa t.n), true) else if t.kd = 3 then (quoteS t.tx, true) else if t.kd = 4 then (⟨#[120]⟩ ++ quoteS (hexS t.tx), true) else (⟨#[]⟩, false)

structure Slot4 (W : World) (B : Nat) (v0 v1 v2 v3 : Value) : Prop where
  c0 : W.cell? ⟨B, 0, none⟩ = some v0
  c1 : W.cell? ⟨B, 1, none⟩ = some v1
  c2 : W.cell? ⟨B, 2, none⟩ = some v2
  c3 : W.cell? ⟨B, 3, none⟩ = some v3
theorem Slot4.new (w : World) (T : TypeId) (v0 v1 v2 v3 : Value) : Slot4 (w.alloc (.cells #[v0, v1, v2, v3] T)) w.heap.size v0 v1 v2 v3 := ⟨by simp, by simp, by simp, by simp⟩
theorem Slot4.later {W W' : World} {B N : Nat} {v0 v1 v2 v3 : Value} (h : Slot4 W B v0 v1 v2 v3) (hB : B < N) (hb : Below N W W') : Slot4 W' B v0 v1 v2 v3 :=
  ⟨(hb.cell (p := ⟨B, 0, none⟩) hB).trans h.c0, (hb.cell (p := ⟨B, 1, none⟩) hB).trans h.c1, (hb.cell (p := ⟨B, 2, none⟩) hB).trans h.c2, (hb.cell (p := ⟨B, 3, none⟩) hB).trans h.c3⟩

theorem hexS_size (s : ByteArray) : (hexS s).size = 2 * s.size := by
  unfold hexS; rw [strN_size, hexN_len, bytesU_len]; omega
theorem quoteS_size (s : ByteArray) : (quoteS s).size ≤ 2 * s.size + 2 := by
  rw [← quote_cat]
  have := dbl_size s
  simp only [ByteArray.size_append]
  have h1 : (⟨#[39]⟩ : ByteArray).size = 1 := rfl
  omega

set_option maxHeartbeats 2000000 in
theorem tkText_any (t : Tk) (w : World) (hT : Pre4 w) (hF : t.fair) (hs : t.tx.size ≤ 400000) :
    Calls Tryz.prog 35 #[.agg #[.int .i64 t.kd, .int .i64 t.at_, .string t.tx, .int .i64 t.n]] w fun e w' => e = .returned (.tuple #[.string t.text.1, .bool t.text.2]) ∧ Below w.heap.size w w' := by
  obtain ⟨kd, at_, tx, n⟩ := t
  simp only at hs ⊢
  have hn := hF.n
  simp only at hn
  have HX := Lib.hid (Slot4.new w 36 (.int .i64 kd) (.int .i64 at_) (.string tx) (.int .i64 n))
  have HB0 : Hid (∀ o, Below w.heap.size w (w.alloc o)) := fun o => (Below.refl _ w).alloc (Nat.le_refl _) _
  have HP := Lib.hid (fun W (hb : Below w.heap.size w W) => hT.below hb)
  clear hF hT
  have hcase : kd = 1 ∨ kd = 5 ∨ kd = 2 ∨ kd = 3 ∨ kd = 4 ∨ (kd ≠ 1 ∧ kd ≠ 5 ∧ kd ≠ 2 ∧ kd ≠ 3 ∧ kd ≠ 4) := by omega
  obtain ⟨x0, x1, x2, x3⟩ := HX.out
  rcases hcase with rfl | rfl | rfl | rfl | rfl | ⟨h1, h5, h2, h3, h4⟩
  · go_enter Tryz.func35, Tryz.ntmps35
    go_wp2
    go_ret2
    exact ⟨rfl, HB0.out _⟩
  · go_enter Tryz.func35, Tryz.ntmps35
    go_wp2
    go_ret2
    exact ⟨rfl, HB0.out _⟩
  · have HD := Lib.hid (fun W (hb : Below w.heap.size w W) => Digits_any n W (HP.out W hb) hn.1 hn.2)
    have HR : Hid (Tk.text ⟨2, at_, tx, n⟩ = (baL (Lib.itoa n), true)) := rfl
    rw [HR.out]
    generalize baL (Lib.itoa n) = d at *
    go_enter Tryz.func35, Tryz.ntmps35
    go_wp2_with fail
    refine (HD.out _ (HB0.out _)).mono ?_
    rintro e w1 ⟨rfl, hb1⟩
    have HB1 := Lib.hid ((HB0.out _).trans (hb1.mono (by simp)))
    clear hb1 x0 x1 x2 x3
    go_wp2
    go_ret2
    exact ⟨rfl, HB1.out⟩
  · have HD := Lib.hid (fun W (hb : Below w.heap.size w W) => Quote_any tx W (HP.out W hb) (by omega))
    have HR : Hid (Tk.text ⟨3, at_, tx, n⟩ = (quoteS tx, true)) := rfl
    rw [HR.out]
    generalize quoteS tx = d at *
    go_enter Tryz.func35, Tryz.ntmps35
    go_wp2_with fail
    refine (HD.out _ (HB0.out _)).mono ?_
    rintro e w1 ⟨rfl, hb1⟩
    have HB1 := Lib.hid ((HB0.out _).trans (hb1.mono (by simp)))
    clear hb1 x0 x1 x2 x3
    go_wp2
    go_ret2
    exact ⟨rfl, HB1.out⟩
  · have HH := Lib.hid (fun W => digitsOf_any tx W (by omega))
    have hz := hexS_size tx
    have HR : Hid (Tk.text ⟨4, at_, tx, n⟩ = (⟨#[120]⟩ ++ quoteS (hexS tx), true)) := rfl
    rw [HR.out]
    generalize hexS tx = h at *
    have HD := Lib.hid (fun W (hb : Below w.heap.size w W) => Quote_any h W (HP.out W hb) (by omega))
    have hq := quoteS_size h
    generalize quoteS h = d at *
    have s1 : ¬ 9223372036854775807 < 1 + d.size := by omega
    go_enter Tryz.func35, Tryz.ntmps35
    go_wp2_with fail
    refine (HH.out _).mono ?_
    rintro e w1 ⟨rfl, hb1⟩
    have HB1 := Lib.hid ((HB0.out _).trans (hb1.mono (by simp)))
    clear hb1 x0 x1 x2 x3 hz
    go_wp2_with fail
    refine (HD.out _ HB1.out).mono ?_
    rintro e w2 ⟨rfl, hb2⟩
    have HB2 := Lib.hid (HB1.out.trans (hb2.mono HB1.out.size))
    clear hb2
    go_wp2
    go_ret2
    exact ⟨rfl, HB2.out⟩
  · have q1 : (kd == 1) = false := by simpa using h1
    have q5 : (kd == 5) = false := by simpa using h5
    have q2 : (kd == 2) = false := by simpa using h2
    have q3 : (kd == 3) = false := by simpa using h3
    have q4 : (kd == 4) = false := by simpa using h4
    have HR : Hid (Tk.text ⟨kd, at_, tx, n⟩ = (⟨#[]⟩, false)) := by unfold Tk.text; simp [h1, h5, h2, h3, h4, Hid]
    rw [HR.out]
    clear h1 h5 h2 h3 h4
    go_enter Tryz.func35, Tryz.ntmps35
    go_wp2
    go_ret2
    exact ⟨rfl, HB0.out _⟩
end Go.Proofs.YtbnddpicpomakaaGreatDoor

/- The walk of token.Write. -/
set_option linter.unusedSimpArgs false
set_option linter.unusedVariables false
set_option maxRecDepth 100000
namespace Go.Proofs.YtbnddpicpomakaaGreatDoor
open Go.RowKit

theorem extraJoin : Builder.Extra Tryz.prog Tryz.laysJoin_ren := {
  sizeBuilder := by kernel_rfl
  liesBuilder := by kernel_rfl
  t5 := Tryz.underlying5
  a5 := Tryz.isAgg5
  z5 := Tryz.sizeOf5
  v5 := Tryz.zeroValue5
  infoByte := by kernel_rfl
  cellsByte := by kernel_rfl
  sizeByte := by kernel_rfl
  neB5 := by decide }

/-- Strings with another one between them. -/
def joinL (xs : List ByteArray) (sep : ByteArray) : List UInt8 := Lib.join (xs.map (·.data.toList)) sep.data.toList
def joinS (xs : List ByteArray) (sep : ByteArray) : ByteArray := baL (joinL xs sep)

theorem Join_any (xs : List ByteArray) (sep : ByteArray) (a : Option Addr) (c : Nat) (w : World) (hA : Arr w.heap.size w a (cellsS xs)) (hc : xs.length ≤ c) (hn : xs.length ≤ 100000000) (hl : (joinL xs sep).length ≤ 140737488355328) :
    Calls Tryz.prog 36 #[.slice a xs.length c, .string sep] w fun e w' => e = .returned (.string (joinS xs sep)) ∧ Below w.heap.size w w' := by
  by_cases h0 : xs = []
  · subst h0
    refine (Any.strings_Join_none { Tryz.laysJoin with } extraJoin a c sep w).mono ?_
    rintro e w' ⟨rfl, rfl⟩
    exact ⟨rfl, Below.refl _ _⟩
  · have hk : 0 < xs.length := by cases xs with | nil => exact absurd rfl h0 | cons x r => simp
    obtain ⟨b, o, rfl, hb, -⟩ := strAt hA hk
    refine (Any.strings_Join { Tryz.laysJoin with } extraJoin b o c xs sep w ?_ hb (by omega) hc hl).mono fun e w' h => h
    intro j x hj
    have hjl : j < xs.length := (List.getElem?_eq_some_iff.1 hj).1
    obtain ⟨b', o', he, -, hcell⟩ := strAt hA hjl
    injection he with he
    injection he with e1 e2
    subst e1 e2
    rw [List.getElem?_eq_getElem hjl] at hj
    injection hj with hj
    subst hj
    exact hcell

/-- The texts of tokens. -/
def textsTk (l : List Tk) : List ByteArray := l.filterMap fun t => if t.text.2 then some t.text.1 else none
theorem textsTk_take {l : List Tk} {k : Nat} (h : k < l.length) : textsTk (l.take (k + 1)) = textsTk (l.take k) ++ (if l[k].text.2 then [l[k].text.1] else []) := by
  unfold textsTk; rw [List.take_succ_eq_append_getElem h, List.filterMap_append]
  congr 1
  simp only [List.filterMap_cons, List.filterMap_nil]
  split <;> split at * <;> simp_all
theorem textsTk_len (l : List Tk) : (textsTk l).length ≤ l.length := List.length_filterMap_le _ _
theorem cellsS_snoc (l : List ByteArray) (s : ByteArray) : cellsS (l ++ [s]) = cellsS l ++ [.string s] := cellsOf_snoc _ _ _
theorem info_strT : (Tryz.prog.info? 9).map (fun i => (i.zero, i.size, i.bytes)) = some (some (.string ⟨#[]⟩), 1, 16) := by kernel_rfl
def spS : ByteArray := ⟨#[32]⟩

set_option maxHeartbeats 2000000 in
theorem tkWrite_any (l : List Tk) (a : Option Addr) (len cap : Nat) (w : World) (hT : Pre4 w) (hA : Arr w.heap.size w a (cellsTk l)) (hlen : len = l.length) (hmax : len ≤ 1000000) (hF : ∀ t ∈ l, t.fair ∧ t.tx.size ≤ 400000) (hj : (joinL (textsTk l) spS).length ≤ 140737488355328) :
    Calls Tryz.prog 11 #[.slice a len cap] w fun e w' => e = .returned (.string (joinS (textsTk l) spS)) ∧ Below w.heap.size w w' := by
  obtain ⟨iS, hiS, hzS, hsS, hbS⟩ := info_parts info_strT
  have HA := Lib.hid hA
  have HL := Lib.hid hlen
  have HF := Lib.hid hF
  have HJ := Lib.hid hj
  obtain ⟨R, hR⟩ : ∃ R, joinS (textsTk l) spS = R := ⟨_, rfl⟩
  rw [hR]
  have HR := Lib.hid hR
  clear hR
  have HP := Lib.hid (fun W (hb : Below w.heap.size w W) => hT.below hb)
  have HV0 : Hid (w.ownsRow w.heap.size 9 1 (.slice none 0 0) 0 (cellsS (textsTk (l.take 0)))) := World.ownsRow_nil _ _ _ _
  clear hA hlen hF hT hj
  go_enter Tryz.func11, Tryz.ntmps11
  go_wp2
  go_loopw [3, 10] (fun v i wr => ∃ (k n : Nat) (cv : Value), cv = v ∧ k ≤ len ∧ n ≤ k ∧ i = .int .i64 (k : Int) ∧ Hid (n = (textsTk (l.take k)).length) ∧ Hid (wr.ownsRow w.heap.size 9 1 cv n (cellsS (textsTk (l.take k)))) ∧ Hid (Below w.heap.size w wr)) (fun _ i _ => len - (intOf i).toNat)
  case atStart => exact ⟨0, 0, _, rfl, by omega, by omega, rfl, rfl, HV0, Below.refl _ _⟩
  case round =>
    clear HV0
    obtain ⟨k, n, cv, rfl, hk, hnk, rfl, HN, HV, HB⟩ := hrel
    by_cases hlt : k < len
    · have hkl : k < l.length := by have := HL.out; omega
      obtain ⟨b, o, rfl, hbN, c0, c1, c2, c3⟩ := tkAt (HA.out.below HB.out) hkl
      have hTk := textsTk_take hkl
      have hft := HF.out l[k] (List.getElem_mem hkl)
      obtain ⟨t, ht⟩ : ∃ t, l[k] = t := ⟨_, rfl⟩
      rw [ht] at c0 c1 c2 c3 hTk hft
      have HTk := Lib.hid hTk
      have HX : Hid (∀ W, Below w.heap.size w W → Calls Tryz.prog 35 #[.agg #[.int .i64 t.kd, .int .i64 t.at_, .string t.tx, .int .i64 t.n]] W fun e w' => e = .returned (.tuple #[.string t.text.1, .bool t.text.2]) ∧ Below W.heap.size W w') := fun W hb => tkText_any t W (HP.out W hb) hft.1 hft.2
      obtain ⟨⟨x, q⟩, hxq⟩ : ∃ X, t.text = X := ⟨_, rfl⟩
      rw [hxq] at HX HTk
      simp only at HX HTk
      have HBs := Lib.hid HB.out.size
      have HY := Lib.hid (HX.out (wr.alloc (.cells #[.int .i64 t.kd, .int .i64 t.at_, .string t.tx, .int .i64 t.n] 36)) (HB.out.trans ((Below.refl w.heap.size wr).alloc HBs.out _)))
      clear ht hft hTk hxq hkl HX hbN
      go_wp2_with fail
      refine HY.out.mono ?_
      rintro e w2 ⟨rfl, hb2⟩
      have HB1 : Hid (Below wr.heap.size wr w2) := ((Below.refl _ wr).alloc (Nat.le_refl _) _).trans (hb2.mono (by simp))
      have HB2 := Lib.hid (HB.out.trans (HB1.out.mono HBs.out))
      have HBs2 := Lib.hid HB2.out.size
      have HV2 := Lib.hid (own_below HV.out (Nat.le_refl _) HB1.out)
      clear hb2 HY c0 c1 c2 c3 HV HB HB1 HBs
      cases q with
      | false =>
        go_wp2
        go_roundw
        case rel => exact ⟨k + 1, n, cv, rfl, by omega, by omega, by go_num, by rw [HTk.out]; simpa [Hid] using HN.out, by rw [HTk.out]; simpa [Hid] using HV2.out, HB2.out⟩
        case measure => simp [intOf]; omega
      | true =>
        have HTk2 : Hid (textsTk (l.take (k + 1)) = textsTk (l.take k) ++ [x]) := by rw [HTk.out]; rfl
        clear HTk
        go_wp2_with (first | (at_builtin; refine wpList_appC rfl _ _ 72 rfl w.heap.size 9 iS (.string ⟨#[]⟩) 1 16 Tryz.underlying72 hiS hzS rfl hsS (by omega) hbS (by omega) cv n _ [.string x] w2 HV2.out rfl _ rfl rfl (by simp [Value.oneCell']) rfl (by omega) HBs2.out ?_; intro v5 w5 hown5 hc5 hsz5; have HO5 := Lib.hid hown5; have HC5 := Lib.hid hc5; clear hown5 hc5 hsz5))
        have HB5 : Hid (Below w.heap.size w w5) := HB2.out.trans (((Below.refl w.heap.size w2).alloc HBs2.out _).trans (HC5.out.below (by have := HBs2.out; simp; omega) (fun g hg => (HV2.out.lt g (by simpa using hg)).1)))
        go_roundw
        case rel => exact ⟨k + 1, n + 1, v5, rfl, by omega, by omega, by go_num, by rw [HTk2.out, List.length_append, ← HN.out]; rfl, by rw [HTk2.out, cellsS_snoc]; exact HO5.out, HB5.out⟩
        case measure => simp [intOf]; omega
    · have hke : k = l.length := by have := HL.out; omega
      have HO := HV.out
      have hN := HN.out
      rw [hke, List.take_length] at HO hN
      obtain ⟨ac, cc, hcv, hcc, hcm, hA2⟩ := own_slice HO
      have htl := textsTk_len l
      have hll := HL.out
      have HY := Lib.hid (Join_any (textsTk l) spS ac cc wr hA2 (by omega) (by omega) HJ.out)
      rw [← hN] at HY
      rw [HR.out] at HY
      unfold spS at HY
      subst hcv
      clear HO hA2 hcc hcm hN htl hll hke HV HN HA HF HJ
      go_wp2_with fail
      refine HY.out.mono ?_
      rintro e w2 ⟨rfl, hb2⟩
      have HB2 := Lib.hid (HB.out.trans (hb2.mono HB.out.size))
      clear hb2 HY
      go_wp2
      go_ret
      exact ⟨rfl, HB2.out⟩
end Go.Proofs.YtbnddpicpomakaaGreatDoor

/- The walks of right, its closure, slices.IndexFunc and ContainsFunc at it, and of Right. -/
set_option linter.unusedSimpArgs false
set_option linter.unusedVariables false
set_option maxRecDepth 100000
namespace Go.Proofs.YtbnddpicpomakaaGreatDoor
open Go.RowKit

/-- What is known of right, with so many levels, of trees of so many. -/
def RightIs (n l : Nat) : Prop := ∀ (y : XM) (W : World), XAt W.heap.size W n y → Calls Tryz.prog 45 #[y.v, .int .i64 (l : Int)] W fun e w' => e = .returned (.bool (rightX l y.t)) ∧ Below W.heap.size W w'

theorem right_clo (n l : Nat) (hl : l ≤ 1000) (IH : RightIs n l) (y : XM) (g : Nat) (W : World) (hy : XAt W.heap.size W n y) (hg : W.cell? ⟨g, 0, none⟩ = some (.int .i64 ((l + 1 : Nat) : Int))) :
    Calls Tryz.prog 85 #[.agg #[.int .i64 y.t.lab.kd, .int .u8 y.t.lab.v.k, .int .i64 y.t.lab.v.n, .string y.t.lab.v.s, .string y.t.lab.tb, .string y.t.lab.nm, .string y.t.lab.op, .slice y.a y.t.args.length y.cap], .pointer (some ⟨g, 0, none⟩)] W fun e w' => e = .returned (.bool (!rightX l y.t)) ∧ Below W.heap.size W w' := by
  have HD := Lib.hid (fun V (hb : Below W.heap.size W V) => IH y V (hy.later hb))
  have HX := Lib.hid (Slot8.new W 45 (.int .i64 y.t.lab.kd) (.int .u8 y.t.lab.v.k) (.int .i64 y.t.lab.v.n) (.string y.t.lab.v.s) (.string y.t.lab.tb) (.string y.t.lab.nm) (.string y.t.lab.op) (.slice y.a y.t.args.length y.cap))
  have HB0 : Hid (∀ o, Below W.heap.size W (W.alloc o)) := fun o => (Below.refl _ W).alloc (Nat.le_refl _) _
  have hq1 : IntKind.i64.wrap (((l + 1 : Nat) : Int) - 1) = (l : Int) := by rw [show ((l + 1 : Nat) : Int) - 1 = (l : Int) by omega]; exact IntWalk.i64_in _ (by omega)
  have hglt := World.block_lt_of_cell? _ _ hg
  rw [XM.v_eq] at HD
  generalize rightX l y.t = d at *
  generalize hQ : ((l + 1 : Nat) : Int) = Q at *
  clear hy IH
  obtain ⟨x0, x1, x2, x3, x4, x5, x6, x7⟩ := HX.out
  go_enter Tryz.func85, Tryz.ntmps85
  go_wp2_with fail
  refine (HD.out _ (HB0.out _)).mono ?_
  rintro e w1 ⟨rfl, hb1⟩
  have HB1 := Lib.hid ((HB0.out _).trans (hb1.mono (Nat.le_of_lt (box8 _ _))))
  clear hb1 x0 x1 x2 x3 x4 x5 x6 x7
  go_wp2
  go_ret
  exact ⟨rfl, HB1.out⟩

set_option maxHeartbeats 1000000 in
theorem right_idx (n l : Nat) (hl : l ≤ 1000) (IH : RightIs n l) (t : Ex) (a : Option Addr) (cap : Nat) (g : Nat) (w : World) (h : XAt w.heap.size w (n + 1) ⟨t, a, cap⟩) (hg : w.cell? ⟨g, 0, none⟩ = some (.int .i64 ((l + 1 : Nat) : Int))) :
    Calls Tryz.prog 110 #[.slice a t.args.length cap, .func (.func 85) #[] #[.pointer (some ⟨g, 0, none⟩)]] w fun e w' => ∃ r : Int, e = .returned (.int .i64 r) ∧ decide (0 ≤ r) = (!t.args.all (rightX l)) ∧ Below w.heap.size w w' := by
  have HA := Lib.hid h
  have hlen := h.fair.2.1
  have hcap := h.fair.2.2
  simp only at hlen hcap
  have HCl := Lib.hid (fun y V (hb : Below w.heap.size w V) hy => right_clo n l hl IH y g V hy ((hb.cell (p := ⟨g, 0, none⟩) (World.block_lt_of_cell? _ _ hg)).trans hg))
  obtain ⟨m, hm⟩ : ∃ m, t.args.length = m := ⟨_, rfl⟩
  rw [hm] at hlen ⊢
  have HM := Lib.hid hm
  clear h hm hg IH
  go_enter Tryz.func110, Tryz.ntmps110
  go_wp2
  go_loopw [8] (fun i wr => ∃ k : Nat, k ≤ m ∧ i = .int .i64 k ∧ Hid ((t.args.take k).all (rightX l) = true) ∧ Hid (Below w.heap.size w wr)) (fun i _ => m - (intOf i).toNat)
  case atStart => exact ⟨0, by omega, rfl, by simp [Hid], Below.refl _ _⟩
  case round =>
    obtain ⟨k, hk, rfl, HI, HBr⟩ := hrel
    by_cases hlt : k < m
    · have hkl : k < t.args.length := by rw [HM.out]; exact hlt
      obtain ⟨y, hy, hAy, b, o, hab, hbN, hKid⟩ := (HA.out.later HBr.out).kid8 (k := k) hkl
      simp only at hab hy
      subst hab
      obtain ⟨y0, y1, y2, y3, y4, y5, y6, y7⟩ := hKid
      have HTk : Hid ((t.args.take (k + 1)).all (rightX l) = rightX l y.t) := by
        rw [List.take_succ_eq_append_getElem hkl, List.all_append, HI.out, ← hy]; simp [Hid]
      have HTf : Hid (rightX l y.t = false → t.args.all (rightX l) = false) := fun hf => by
        rw [List.all_eq_false]; exact ⟨_, List.getElem_mem hkl, by rw [← hy, hf]; simp⟩
      have HY := Lib.hid (HCl.out y wr HBr.out hAy)
      generalize rightX l y.t = d at *
      clear hy hAy HA hkl HI HCl
      go_wp2_with fail
      refine HY.out.mono ?_
      rintro e w2 ⟨rfl, hb2⟩
      have HB2 := Lib.hid (HBr.out.trans (hb2.mono HBr.out.size))
      clear hb2 HY y0 y1 y2 y3 y4 y5 y6 y7
      cases d with
      | true =>
        go_wp2
        go_roundw
        case rel => exact ⟨k + 1, by omega, by go_num, HTk.out, HB2.out⟩
        case measure => simp [intOf]; omega
      | false =>
        go_wp2
        go_ret
        exact ⟨k, rfl, by rw [HTf.out (by trivial)]; simp, HB2.out⟩
    · have HT : Hid (t.args.all (rightX l) = true) := by
        have := HI.out
        rwa [show k = m by omega, ← HM.out, List.take_length] at this
      go_wp2
      go_ret
      exact ⟨-1, rfl, by rw [HT.out]; rfl, HBr.out⟩

theorem right_con (n l : Nat) (hl : l ≤ 1000) (IH : RightIs n l) (t : Ex) (a : Option Addr) (cap : Nat) (g : Nat) (w : World) (h : XAt w.heap.size w (n + 1) ⟨t, a, cap⟩) (hg : w.cell? ⟨g, 0, none⟩ = some (.int .i64 ((l + 1 : Nat) : Int))) :
    Calls Tryz.prog 84 #[.slice a t.args.length cap, .func (.func 85) #[] #[.pointer (some ⟨g, 0, none⟩)]] w fun e w' => e = .returned (.bool (!t.args.all (rightX l))) ∧ Below w.heap.size w w' := by
  have HC := Lib.hid (right_idx n l hl IH t a cap g w h hg)
  clear h hg
  generalize t.args.all (rightX l) = d at *
  go_enter Tryz.func84, Tryz.ntmps84
  go_wp2_with fail
  refine HC.out.mono ?_
  rintro e w1 ⟨r, rfl, hr, hb⟩
  have HR := Lib.hid hr
  clear hr HC
  go_wp2
  go_ret
  exact ⟨ret_b HR.out, hb⟩

set_option maxHeartbeats 2000000 in
theorem right_is : ∀ (n l : Nat), l ≤ 1000 → RightIs n l
  | 0, _, _ => fun _ _ h => h.elim
  | n + 1, 0, _ => fun x w h => by
    rw [XM.v_eq]
    have HB0 : Hid (∀ o o', Below w.heap.size w ((w.alloc o).alloc o')) := fun o o' => ((Below.refl _ w).alloc (Nat.le_refl _) _).alloc (by simp) _
    clear h
    go_enter Tryz.func45, Tryz.ntmps45
    go_wp2
    go_ret
    exact ⟨rfl, HB0.out _ _⟩
  | n + 1, l + 1, hl => fun ⟨t, a, cap⟩ w h => by
    rw [XM.v_eq]
    have IHl := right_is n l (by omega)
    have hF := h.fair.1
    simp only at hF ⊢
    have HV := Lib.hid (fun W => valid_any ⟨t, a, cap⟩ W hF)
    rw [XM.v_eq] at HV
    simp only at HV
    have hrx : rightX (l + 1) t = (t.lab.ok t.args.length && t.args.all (rightX l)) := rfl
    have HCn := Lib.hid (fun g W (hb : Below w.heap.size w W) hg => right_con n l (by omega) IHl t a cap g W (h.later hb) hg)
    rw [hrx]
    generalize t.lab.ok t.args.length = v at *
    generalize t.args.all (rightX l) = d at *
    obtain ⟨w0, hw0⟩ : ∃ w0, w.alloc (.cells #[.int .i64 t.lab.kd, .int .u8 t.lab.v.k, .int .i64 t.lab.v.n, .string t.lab.v.s, .string t.lab.tb, .string t.lab.nm, .string t.lab.op, .slice a t.args.length cap] 45) = w0 := ⟨_, rfl⟩
    have HS := Lib.hid (Slot8.new w 45 (.int .i64 t.lab.kd) (.int .u8 t.lab.v.k) (.int .i64 t.lab.v.n) (.string t.lab.v.s) (.string t.lab.tb) (.string t.lab.nm) (.string t.lab.op) (.slice a t.args.length cap))
    have HB0 : Hid (Below w.heap.size w w0) := by rw [← hw0]; exact (Below.refl _ w).alloc (Nat.le_refl _) _
    have hs0 : w0.heap.size = w.heap.size + 1 := by rw [← hw0]; simp
    rw [hw0] at HS
    have q0 : ((((l + 1 : Nat) : Int)) == 0) = false := by simp; omega
    generalize hQ : ((l + 1 : Nat) : Int) = Q at *
    obtain ⟨w1, hw1⟩ : ∃ w1, w0.alloc (.cells #[.int .i64 Q] 3) = w1 := ⟨_, rfl⟩
    have HB1 : Hid (Below w0.heap.size w0 w1) := by rw [← hw1]; exact (Below.refl _ w0).alloc (Nat.le_refl _) _
    have hs1 : w1.heap.size = w.heap.size + 2 := by rw [← hw1]; simp [hs0]
    have hc1 : w1.cell? ⟨w.heap.size + 1, 0, none⟩ = some (.int .i64 Q) := by rw [← hw1, ← hs0]; simp
    have HS1 := Lib.hid (HS.out.later (by omega) HB1.out)
    have HW1 := Lib.hid (HB0.out.trans (HB1.out.mono HB0.out.size))
    have HC1 := Lib.hid hc1
    have HZ := Lib.hid hs1
    obtain ⟨x0, x1, x2, x3, x4, x5, x6, x7⟩ := HS1.out
    clear h hF IHl hs1 hrx HS HB0 HB1
    cases v with
    | false =>
      go_enter Tryz.func45, Tryz.ntmps45
      go_wp2_with fail
      refine (HV.out _).mono ?_
      rintro e w2 ⟨rfl, hb2⟩
      have HB2 := Lib.hid (HW1.out.trans (hb2.mono (by have := HZ.out; omega)))
      clear hb2 x0 x1 x2 x3 x4 x5 x6 x7 hc1
      go_wp2
      go_ret
      exact ⟨rfl, HB2.out⟩
    | true =>
      go_enter Tryz.func45, Tryz.ntmps45
      go_wp2_with fail
      refine (HV.out _).mono ?_
      rintro e w2 ⟨rfl, hb2⟩
      have HB2 := Lib.hid (HW1.out.trans (hb2.mono (by have := HZ.out; omega)))
      have hc2 := (hb2.cell (p := ⟨w.heap.size + 1, 0, none⟩) (by have := HZ.out; show w.heap.size + 1 < w1.heap.size; omega)).trans HC1.out
      have HY := Lib.hid (HCn.out (w.heap.size + 1) w2 HB2.out hc2)
      clear x0 x1 x2 x3 x4 x5 x6 x7 hc1
      obtain ⟨x0, x1, x2, x3, x4, x5, x6, x7⟩ := HS1.out.later (by have := HZ.out; omega) hb2
      clear hb2 HCn HV
      go_wp2_with fail
      refine HY.out.mono ?_
      rintro e w3 ⟨rfl, hb3⟩
      have HB3 := Lib.hid (HB2.out.trans (hb3.mono HB2.out.size))
      clear hb3 x0 x1 x2 x3 x4 x5 x6 x7 hc2
      go_wp2
      go_ret
      exact ⟨ret_b (by simp), HB3.out⟩

theorem Right_any20 (n : Nat) (x : XM) (w : World) (h : XAt w.heap.size w n x) :
    Calls Tryz.prog 23 #[x.v] w fun e w' => e = .returned (.bool (rightX 20 x.t)) ∧ Below w.heap.size w w' := by
  have HD := Lib.hid (fun W (hb : Below w.heap.size w W) => right_is n 20 (by omega) x W (h.later hb))
  have HX := Lib.hid (Slot8.new w 45 (.int .i64 x.t.lab.kd) (.int .u8 x.t.lab.v.k) (.int .i64 x.t.lab.v.n) (.string x.t.lab.v.s) (.string x.t.lab.tb) (.string x.t.lab.nm) (.string x.t.lab.op) (.slice x.a x.t.args.length x.cap))
  have HB0 : Hid (∀ o, Below w.heap.size w (w.alloc o)) := fun o => (Below.refl _ w).alloc (Nat.le_refl _) _
  rw [XM.v_eq] at HD ⊢
  generalize rightX 20 x.t = d at *
  clear h
  obtain ⟨x0, x1, x2, x3, x4, x5, x6, x7⟩ := HX.out
  go_enter Tryz.func23, Tryz.ntmps23
  go_wp2_with fail
  refine (HD.out _ (HB0.out _)).mono ?_
  rintro e w1 ⟨rfl, hb1⟩
  have HB1 := Lib.hid ((HB0.out _).trans (hb1.mono (Nat.le_of_lt (box8 _ _))))
  clear hb1 x0 x1 x2 x3 x4 x5 x6 x7
  go_wp2
  go_ret
  exact ⟨rfl, HB1.out⟩
end Go.Proofs.YtbnddpicpomakaaGreatDoor

/- The texts of expressions; the walks of literal and column. -/
set_option linter.unusedSimpArgs false
set_option linter.unusedVariables false
set_option maxRecDepth 100000
namespace Go.Proofs.YtbnddpicpomakaaGreatDoor
open Go.RowKit

/-- The token of a literal. -/
def Vl.tk (v : Vl) : Tk := if v.k = 1 then ⟨2, 0, ⟨#[]⟩, v.n⟩ else if v.k = 2 then ⟨3, 0, v.s, 0⟩ else if v.k = 3 then ⟨4, 0, v.s, 0⟩ else ⟨1, 0, ⟨#[110, 117, 108, 108]⟩, 0⟩
def Vl.litS (v : Vl) : ByteArray := joinS (textsTk [v.tk]) spS
def Lb.colS (l : Lb) : ByteArray := if l.tb.toList.isEmpty then l.nm else l.tb ++ ⟨#[46]⟩ ++ l.nm
/-- The text of a label, of which the arguments have these texts. -/
def Lb.textOf (l : Lb) (ts : List ByteArray) : ByteArray :=
  if l.kd = 1 then l.v.litS
  else if l.kd = 2 then l.colS
  else if l.kd = 3 then (⟨#[40]⟩ : ByteArray) ++ l.op ++ ⟨#[32]⟩ ++ ts.getD 0 ⟨#[]⟩ ++ ⟨#[41]⟩
  else if l.kd = 4 then (⟨#[40]⟩ : ByteArray) ++ ts.getD 0 ⟨#[]⟩ ++ ⟨#[32]⟩ ++ l.op ++ ⟨#[32]⟩ ++ ts.getD 1 ⟨#[]⟩ ++ ⟨#[41]⟩
  else if l.kd = 5 then (⟨#[40]⟩ : ByteArray) ++ ts.getD 0 ⟨#[]⟩ ++ ⟨#[32]⟩ ++ l.op ++ ⟨#[41]⟩
  else if ts.isEmpty then l.op ++ ⟨#[40, 42, 41]⟩
  else l.op ++ ⟨#[40]⟩ ++ joinS ts ⟨#[44, 32]⟩ ++ ⟨#[41]⟩
def textX : Ex → ByteArray
  | .mk l args => l.textOf (args.attach.map fun x => textX x.1)
termination_by e => SizeOf.sizeOf e
decreasing_by exact Rose.size_arg x.2
theorem textX_eq (e : Ex) : textX e = e.lab.textOf (e.args.map textX) := by
  obtain ⟨l, args⟩ := e
  rw [textX, Rose.args, Rose.lab]
  congr 1
  rw [List.attach_map_val (f := textX)]

theorem lit_one (t : Tk) (h : t.text.2 = true) : joinS (textsTk [t]) spS = t.text.1 := by
  have : textsTk [t] = [t.text.1] := by unfold textsTk; simp [h]
  rw [this]
  unfold joinS joinL
  rw [List.map_cons, List.map_nil, Lib.join_one, baL_data]
theorem Vl.litS_eq (v : Vl) : v.litS = v.tk.text.1 := by
  unfold Vl.litS
  rw [lit_one]
  unfold Vl.tk
  split
  · rfl
  · split
    · rfl
    · split
      · rfl
      · rfl

theorem itoa_len (n : Int) (h0 : -9223372036854775808 ≤ n) (h1 : n ≤ 9223372036854775807) : (Lib.itoa n).length ≤ 30 := by
  have := Lib.itoa_length_le n h0 h1
  omega

theorem litS_size (v : Vl) (hs : v.s.size ≤ 200) (h0 : -9223372036854775808 ≤ v.n) (h1 : v.n ≤ 9223372036854775807) : v.litS.size ≤ 900 := by
  rw [Vl.litS_eq]
  unfold Vl.tk
  split
  · show (baL (Lib.itoa v.n)).size ≤ 900
    rw [baL_size]; have := itoa_len v.n h0 h1; omega
  · split
    · show (quoteS v.s).size ≤ 900
      have := quoteS_size v.s; omega
    · split
      · show ((⟨#[120]⟩ : ByteArray) ++ quoteS (hexS v.s)).size ≤ 900
        rw [ByteArray.size_append]
        have := quoteS_size (hexS v.s)
        have := hexS_size v.s
        have : (⟨#[120]⟩ : ByteArray).size = 1 := rfl
        omega
      · show (⟨#[110, 117, 108, 108]⟩ : ByteArray).size ≤ 900
        decide


theorem tk_fair (t : Tk) (hk : -9223372036854775808 ≤ t.kd ∧ t.kd ≤ 9223372036854775807) (ha : t.at_ = 0) (hs : t.tx.size ≤ 400) (hn : -9223372036854775808 ≤ t.n ∧ t.n ≤ 9223372036854775807) : ∀ u ∈ [t], u.fair ∧ u.tx.size ≤ 400000 := by
  intro u hu
  rw [List.mem_singleton.1 hu]
  exact ⟨⟨hk, by omega, by omega, hn⟩, by omega⟩

/-- Write of one token that has just been laid. -/
theorem tkWrite_one (t : Tk) (w : World) (b : Nat) (hT : Pre4 w) (hF : ∀ u ∈ [t], u.fair ∧ u.tx.size ≤ 400000) (hb : b < w.heap.size)
    (c0 : w.cell? ⟨b, 0, none⟩ = some (.int .i64 t.kd)) (c1 : w.cell? ⟨b, 1, none⟩ = some (.int .i64 t.at_)) (c2 : w.cell? ⟨b, 2, none⟩ = some (.string t.tx)) (c3 : w.cell? ⟨b, 3, none⟩ = some (.int .i64 t.n)) (hj : (joinS (textsTk [t]) spS).size ≤ 1000000) :
    Calls Tryz.prog 11 #[.slice (some ⟨b, 0, none⟩) 1 1] w fun e w' => e = .returned (.string (joinS (textsTk [t]) spS)) ∧ Below w.heap.size w w' := by
  refine tkWrite_any [t] _ 1 1 w hT (.inr ⟨b, 0, rfl, hb, fun i v hi => ?_⟩) rfl (by omega) hF (by unfold joinS at hj; rw [baL_size] at hj; omega)
  have hi' : t.cells[i]? = some v := by simpa [cellsTk, cellsOf] using hi
  rw [Nat.zero_add]
  match i, hi' with
  | 0, h => rw [c0]; exact h
  | 1, h => rw [c1]; exact h
  | 2, h => rw [c2]; exact h
  | 3, h => rw [c3]; exact h
  | n + 4, h => simp [Tk.cells] at h

set_option maxHeartbeats 2000000 in
theorem literal_any (v : Vl) (w : World) (hT : Pre4 w) (hk : v.k < 256) (hn : -9223372036854775808 ≤ v.n ∧ v.n ≤ 9223372036854775807) (hs : v.s.size ≤ 200) :
    Calls Tryz.prog 80 #[.agg #[.int .u8 v.k, .int .i64 v.n, .string v.s]] w fun e w' => e = .returned (.string v.litS) ∧ Below w.heap.size w w' := by
  have hsz := litS_size v hs hn.1 hn.2
  obtain ⟨k, n, s⟩ := v
  simp only at hk hn hs ⊢
  have HW : Hid (∀ (t : Tk) (o1 o2 : Obj) , t.at_ = 0 → (-9223372036854775808 ≤ t.kd ∧ t.kd ≤ 9223372036854775807) → t.tx.size ≤ 400 → (-9223372036854775808 ≤ t.n ∧ t.n ≤ 9223372036854775807) → (joinS (textsTk [t]) spS).size ≤ 1000000 →
      Calls Tryz.prog 11 #[.slice (some ⟨w.heap.size + 1 + 1, 0, none⟩) 1 1] (((w.alloc o1).alloc o2).alloc (.cells #[.int .i64 t.kd, .int .i64 t.at_, .string t.tx, .int .i64 t.n] 36)) fun e w' => e = .returned (.string (joinS (textsTk [t]) spS)) ∧ Below w.heap.size w w') := by
    intro t o1 o2 ha hkd htx htn hj
    have hB : Below w.heap.size w (((w.alloc o1).alloc o2).alloc (.cells #[.int .i64 t.kd, .int .i64 t.at_, .string t.tx, .int .i64 t.n] 36)) := (((Below.refl _ w).alloc (Nat.le_refl _) _).alloc (by simp) _).alloc (by simp; omega) _
    have h4 := Slot4.new ((w.alloc o1).alloc o2) 36 (.int .i64 t.kd) (.int .i64 t.at_) (.string t.tx) (.int .i64 t.n)
    rw [show ((w.alloc o1).alloc o2).heap.size = w.heap.size + 1 + 1 by simp] at h4
    refine (tkWrite_one t _ _ (hT.below hB) (tk_fair t hkd ha htx htn) (by simp) h4.c0 h4.c1 h4.c2 h4.c3 hj).mono ?_
    · rintro e w' ⟨he, hb⟩
      exact ⟨he, hB.trans (hb.mono hB.size)⟩
  clear hT
  unfold Vl.litS Vl.tk at hsz
  have HR : Hid (Vl.litS ⟨k, n, s⟩ = joinS (textsTk [if k = 1 then ⟨2, 0, ⟨#[]⟩, n⟩ else if k = 2 then ⟨3, 0, s, 0⟩ else if k = 3 then ⟨4, 0, s, 0⟩ else ⟨1, 0, ⟨#[110, 117, 108, 108]⟩, 0⟩]) spS) := rfl
  simp only at hsz
  rw [HR.out]
  clear HR
  have hcase : k = 1 ∨ k = 2 ∨ k = 3 ∨ (k ≠ 1 ∧ k ≠ 2 ∧ k ≠ 3) := by omega
  rcases hcase with rfl | rfl | rfl | ⟨h1, h2, h3⟩
  · have HY := Lib.hid (fun o1 o2 => HW.out ⟨2, 0, ⟨#[]⟩, n⟩ o1 o2 rfl (by simp) (show (⟨#[]⟩ : ByteArray).size ≤ 400 by decide) (by simp; try omega) (Nat.le_trans hsz (by omega)))
    clear HW hsz
    simp only [if_true, if_false, Nat.reduceEqDiff] at HY ⊢
    generalize joinS (textsTk [⟨2, 0, ⟨#[]⟩, n⟩]) spS = R at *
    go_enter Tryz.func80, Tryz.ntmps80
    go_wp2_with fail
    refine (HY.out _ _).mono ?_
    rintro e w1 ⟨rfl, hb1⟩
    have HB1 := Lib.hid hb1
    clear hb1 HY
    go_wp2
    go_ret
    exact ⟨rfl, HB1.out⟩
  · have HY := Lib.hid (fun o1 o2 => HW.out ⟨3, 0, s, 0⟩ o1 o2 rfl (by simp) (by simp only; omega) (by simp; try omega) (Nat.le_trans hsz (by omega)))
    clear HW hsz
    simp only [if_true, if_false, Nat.reduceEqDiff] at HY ⊢
    generalize joinS (textsTk [⟨3, 0, s, 0⟩]) spS = R at *
    go_enter Tryz.func80, Tryz.ntmps80
    go_wp2_with fail
    refine (HY.out _ _).mono ?_
    rintro e w1 ⟨rfl, hb1⟩
    have HB1 := Lib.hid hb1
    clear hb1 HY
    go_wp2
    go_ret
    exact ⟨rfl, HB1.out⟩
  · have HY := Lib.hid (fun o1 o2 => HW.out ⟨4, 0, s, 0⟩ o1 o2 rfl (by simp) (by simp only; omega) (by simp; try omega) (Nat.le_trans hsz (by omega)))
    clear HW hsz
    simp only [if_true, if_false, Nat.reduceEqDiff] at HY ⊢
    generalize joinS (textsTk [⟨4, 0, s, 0⟩]) spS = R at *
    go_enter Tryz.func80, Tryz.ntmps80
    go_wp2_with fail
    refine (HY.out _ _).mono ?_
    rintro e w1 ⟨rfl, hb1⟩
    have HB1 := Lib.hid hb1
    clear hb1 HY
    go_wp2
    go_ret
    exact ⟨rfl, HB1.out⟩
  · rw [if_neg h1, if_neg h2, if_neg h3] at hsz ⊢
    have HY := Lib.hid (fun o1 o2 => HW.out ⟨1, 0, ⟨#[110, 117, 108, 108]⟩, 0⟩ o1 o2 rfl (by simp) (by decide) (by simp) (Nat.le_trans hsz (by omega)))
    have q1 : ((k : Int) == 1) = false := by simp; omega
    have q2 : ((k : Int) == 2) = false := by simp; omega
    have q3 : ((k : Int) == 3) = false := by simp; omega
    clear HW hsz h1 h2 h3
    generalize joinS (textsTk [⟨1, 0, ⟨#[110, 117, 108, 108]⟩, 0⟩]) spS = R at *
    go_enter Tryz.func80, Tryz.ntmps80
    go_wp2_with fail
    refine (HY.out _ _).mono ?_
    rintro e w1 ⟨rfl, hb1⟩
    have HB1 := Lib.hid hb1
    clear hb1 HY
    go_wp2
    go_ret
    exact ⟨rfl, HB1.out⟩

set_option maxHeartbeats 1000000 in
theorem column_any (x : XM) (w : World) (h4 : x.t.lab.tb.size ≤ 1000000) (h5 : x.t.lab.nm.size ≤ 1000000) :
    Calls Tryz.prog 81 #[x.v] w fun e w' => e = .returned (.string x.t.lab.colS) ∧ Below w.heap.size w w' := by
  rw [XM.v_eq]
  obtain ⟨⟨⟨kd, ⟨vk, vn, vs⟩, tb, nm, op⟩, args⟩, a, cap⟩ := x
  simp only [Rose.lab, Rose.args] at h4 h5 ⊢
  generalize args.length = n at *
  obtain ⟨x0, x1, x2, x3, x4, x5, x6, x7⟩ := Slot8.new w 45 (.int .i64 kd) (.int .u8 vk) (.int .i64 vn) (.string vs) (.string tb) (.string nm) (.string op) (.slice a n cap)
  have HB0 : Hid (∀ o, Below w.heap.size w (w.alloc o)) := fun o => (Below.refl _ w).alloc (Nat.le_refl _) _
  by_cases ht : tb.toList = []
  · have ht2 : tb.toList.isEmpty = true := by rw [ht]; rfl
    have HR : Hid (Lb.colS ⟨kd, ⟨vk, vn, vs⟩, tb, nm, op⟩ = nm) := by unfold Lb.colS; simp [ht2, Hid]
    rw [HR.out]
    go_enter Tryz.func81, Tryz.ntmps81
    go_wp2
    go_ret
    exact ⟨rfl, HB0.out _⟩
  · have ht2 : tb.toList.isEmpty = false := by simpa using ht
    have ht3 : (!tb.toList.isEmpty) = true := by rw [ht2]; rfl
    have HR : Hid (Lb.colS ⟨kd, ⟨vk, vn, vs⟩, tb, nm, op⟩ = tb ++ ⟨#[46]⟩ ++ nm) := by unfold Lb.colS; simp [ht2, Hid]
    have s1 : ¬ 9223372036854775807 < tb.size + 1 := by omega
    have s2 : ¬ 9223372036854775807 < tb.size + 1 + nm.size := by omega
    rw [HR.out]
    go_enter Tryz.func81, Tryz.ntmps81
    go_wp2
    go_ret
    exact ⟨rfl, HB0.out _⟩
end Go.Proofs.YtbnddpicpomakaaGreatDoor

/- How long the texts of expressions are. -/
set_option linter.unusedSimpArgs false
set_option linter.unusedVariables false
set_option maxRecDepth 100000
namespace Go.Proofs.YtbnddpicpomakaaGreatDoor
open Go.RowKit

theorem joinTail_len (sep : List UInt8) (r : List (List UInt8)) : (Lib.joinTail sep r).length = (r.map List.length).sum + r.length * sep.length := by
  induction r with
  | nil => simp [Lib.joinTail]
  | cons x r ih =>
    have e : Lib.joinTail sep (x :: r) = (sep ++ x) ++ Lib.joinTail sep r := by simp [Lib.joinTail]
    rw [e, List.length_append, List.length_append, ih, List.map_cons, List.sum_cons, List.length_cons, Nat.add_mul]; omega
theorem joinS_size (xs : List ByteArray) (sep : ByteArray) : (joinS xs sep).size ≤ (xs.map ByteArray.size).sum + xs.length * sep.size := by
  unfold joinS joinL
  rw [baL_size]
  cases xs with
  | nil => simp [Lib.join_nil]
  | cons x r =>
    rw [List.map_cons, Lib.join_cons, List.length_append, joinTail_len, List.map_cons, List.sum_cons, List.length_cons, List.map_map, List.length_map, Nat.add_mul]
    have e1 : (List.map (List.length ∘ fun x : ByteArray => x.data.toList) r).sum = (List.map ByteArray.size r).sum := by
      congr 1
    have e2 : x.data.toList.length = x.size := by simp
    have e3 : sep.data.toList.length = sep.size := by simp
    rw [e1, e2, e3]; omega

/-- Good for a text: valid, and no label too much. -/
def Lb.good (l : Lb) (n : Nat) : Bool := l.ok n && !l.big n
def GoodX (e : Ex) : Prop := e.allB Lb.good = true
theorem GoodX.lab {e : Ex} (h : GoodX e) : e.lab.ok e.args.length = true ∧ e.lab.big e.args.length = false := by
  unfold GoodX at h
  rw [Rose.allB_eq] at h
  simp only [Lb.good, Bool.and_eq_true, Bool.not_eq_true'] at h
  exact h.1
theorem GoodX.arg {e x : Ex} (h : GoodX e) (hx : x ∈ e.args) : GoodX x := by
  unfold GoodX at h
  rw [Rose.allB_eq, Bool.and_eq_true, List.all_eq_true] at h
  exact h.2 x hx
structure Lb.Small (l : Lb) (n : Nat) : Prop where
  n : n ≤ 6
  nm : l.nm.size ≤ 100
  tb : l.tb.size ≤ 100
  op : l.op.size ≤ 100
  s : l.v.s.size ≤ 200
theorem Lb.small {l : Lb} {n : Nat} (h : l.big n = false) : l.Small n := by
  unfold Lb.big at h
  simp only [Bool.or_eq_false_iff, decide_eq_false_iff_not] at h
  exact ⟨by omega, by omega, by omega, by omega, by omega⟩
theorem getD_size (ts : List ByteArray) (i : Nat) : (ts.getD i ⟨#[]⟩).size ≤ (ts.map ByteArray.size).sum := by
  induction ts generalizing i with
  | nil => exact Nat.zero_le 0
  | cons x r ih =>
    cases i with
    | zero => simp
    | succ i => have := ih i; simp only [List.getD_cons_succ, List.map_cons, List.sum_cons]; omega
theorem getD2_size (ts : List ByteArray) : (ts.getD 0 ⟨#[]⟩).size + (ts.getD 1 ⟨#[]⟩).size ≤ (ts.map ByteArray.size).sum := by
  cases ts with
  | nil => exact Nat.zero_le 0
  | cons x r =>
    have := getD_size r 0
    simp only [List.getD_cons_zero, List.getD_cons_succ, List.map_cons, List.sum_cons]; omega

theorem textOf_size (l : Lb) (ts : List ByteArray) (n : Nat) (hn : ts.length = n) (hs : l.Small n) (h0 : -9223372036854775808 ≤ l.v.n ∧ l.v.n ≤ 9223372036854775807) : (l.textOf ts).size ≤ 900 + (ts.map ByteArray.size).sum := by
  have e1 : (⟨#[40]⟩ : ByteArray).size = 1 := rfl
  have e2 : (⟨#[41]⟩ : ByteArray).size = 1 := rfl
  have e3 : (⟨#[32]⟩ : ByteArray).size = 1 := rfl
  have e4 : (⟨#[46]⟩ : ByteArray).size = 1 := rfl
  have e5 : (⟨#[40, 42, 41]⟩ : ByteArray).size = 3 := rfl
  have e6 : (⟨#[44, 32]⟩ : ByteArray).size = 2 := rfl
  have a0 := getD_size ts 0
  have a2 := getD2_size ts
  have h1 := hs.n; have h2 := hs.nm; have h3 := hs.tb; have h4 := hs.op
  unfold Lb.textOf
  split
  · have := litS_size l.v hs.s h0.1 h0.2; omega
  split
  · unfold Lb.colS
    split
    · omega
    · rw [ByteArray.size_append, ByteArray.size_append]; omega
  split
  · simp only [ByteArray.size_append]; omega
  split
  · simp only [ByteArray.size_append]; omega
  split
  · simp only [ByteArray.size_append]; omega
  split
  · simp only [ByteArray.size_append]; omega
  · have := joinS_size ts ⟨#[44, 32]⟩
    rw [e6] at this
    simp only [ByteArray.size_append]; omega

theorem textX_size : ∀ (N n : Nat) (w : World) (x : XM), XAt N w n x → GoodX x.t → (textX x.t).size ≤ 1000 * x.t.count
  | _, 0, _, _, h, _ => h.elim
  | N, n + 1, w, x, h, hg => by
    have hs := Lb.small hg.lab.2
    have hf := h.fair.1.n
    have hk : ∀ y ∈ x.t.args, (textX y).size ≤ 1000 * y.count := by
      intro y hy
      obtain ⟨k, hk, rfl⟩ := List.getElem_of_mem hy
      obtain ⟨z, hz, hzA, _⟩ := h.kid hk
      have := textX_size N n w z hzA (by rw [hz]; exact hg.arg hy)
      rw [hz] at this; exact this
    rw [textX_eq, Rose.count_eq]
    have h1 := textOf_size x.t.lab (x.t.args.map textX) _ (by simp) hs hf
    have h2 : ((x.t.args.map textX).map ByteArray.size).sum ≤ 1000 * (x.t.args.map Rose.count).sum := by
      generalize x.t.args = l at hk
      induction l with
      | nil => simp
      | cons y r ih =>
        have := hk y List.mem_cons_self
        have := ih (fun z hz => hk z (List.mem_cons_of_mem _ hz))
        simp only [List.map_cons, List.sum_cons]; omega
    omega
end Go.Proofs.YtbnddpicpomakaaGreatDoor

/- The walks of call and text, and of Write. -/
set_option linter.unusedSimpArgs false
set_option linter.unusedVariables false
set_option maxRecDepth 100000
namespace Go.Proofs.YtbnddpicpomakaaGreatDoor
open Go.RowKit

/-- What is known of text, of trees of so many levels. -/
def TextIs (n : Nat) : Prop := ∀ (y : XM) (W : World), Pre4 W → XAt W.heap.size W n y → GoodX y.t → y.t.count ≤ 100000 → Calls Tryz.prog 43 #[y.v] W fun e w' => e = .returned (.string (textX y.t)) ∧ Below W.heap.size W w'

theorem count_arg {e x : Ex} (h : x ∈ e.args) : x.count < e.count := by
  rw [Rose.count_eq e]
  have : x.count ≤ (e.args.map Rose.count).sum := by
    generalize e.args = l at h
    induction l with
    | nil => cases h
    | cons y r ih =>
      rw [List.map_cons, List.sum_cons]
      rcases List.mem_cons.1 h with rfl | h
      · omega
      · have := ih h; omega
  omega
theorem sum_textX (N n : Nat) (w : World) (x : XM) (h : XAt N w n x) (hg : GoodX x.t) : ((x.t.args.map textX).map ByteArray.size).sum ≤ 1000 * x.t.count := by
  cases n with
  | zero => exact h.elim
  | succ n =>
    have hk : ∀ y ∈ x.t.args, (textX y).size ≤ 1000 * y.count := by
      intro y hy
      obtain ⟨k, hk, rfl⟩ := List.getElem_of_mem hy
      obtain ⟨z, hz, hzA, _⟩ := h.kid hk
      have := textX_size N n w z hzA (by rw [hz]; exact hg.arg hy)
      rw [hz] at this; exact this
    rw [Rose.count_eq]
    have h2 : ((x.t.args.map textX).map ByteArray.size).sum ≤ 1000 * (x.t.args.map Rose.count).sum := by
      generalize x.t.args = l at hk
      induction l with
      | nil => simp
      | cons y r ih =>
        have := hk y List.mem_cons_self
        have := ih (fun z hz => hk z (List.mem_cons_of_mem _ hz))
        simp only [List.map_cons, List.sum_cons]; omega
    omega

set_option maxHeartbeats 2000000 in
theorem call_any (n : Nat) (IH : TextIs n) (x : XM) (w : World) (hT : Pre4 w) (h : XAt w.heap.size w (n + 1) x) (hg : GoodX x.t) (hc : x.t.count ≤ 100000) (hk : x.t.lab.kd ≠ 1 ∧ x.t.lab.kd ≠ 2 ∧ x.t.lab.kd ≠ 3 ∧ x.t.lab.kd ≠ 4 ∧ x.t.lab.kd ≠ 5) :
    Calls Tryz.prog 82 #[x.v] w fun e w' => e = .returned (.string (textX x.t)) ∧ Below w.heap.size w w' := by
  have hsum := sum_textX _ _ w x h hg
  have hsm := Lb.small hg.lab.2
  have hTx : textX x.t = if (x.t.args.map textX).isEmpty then x.t.lab.op ++ ⟨#[40, 42, 41]⟩ else x.t.lab.op ++ ⟨#[40]⟩ ++ joinS (x.t.args.map textX) ⟨#[44, 32]⟩ ++ ⟨#[41]⟩ := by
    rw [textX_eq]; unfold Lb.textOf
    rw [if_neg hk.1, if_neg hk.2.1, if_neg hk.2.2.1, if_neg hk.2.2.2.1, if_neg hk.2.2.2.2]
  have HA := Lib.hid h
  have HG := Lib.hid hg
  have HCt := Lib.hid hc
  rw [hTx, XM.v_eq]
  obtain ⟨t, a, cap⟩ := x
  simp only at hsum hsm HA HG HCt hc ⊢
  have hop := hsm.op
  have hn6 := hsm.n
  obtain ⟨m, hm⟩ : ∃ m, t.args.length = m := ⟨_, rfl⟩
  have HM := Lib.hid hm
  rw [hm] at hn6 ⊢
  have HP := Lib.hid (fun W (hb : Below w.heap.size w W) => hT.below hb)
  have HS := Lib.hid (Slot8.new w 45 (.int .i64 t.lab.kd) (.int .u8 t.lab.v.k) (.int .i64 t.lab.v.n) (.string t.lab.v.s) (.string t.lab.tb) (.string t.lab.nm) (.string t.lab.op) (.slice a m cap))
  have HB0 : Hid (∀ o, Below w.heap.size w (w.alloc o)) := fun o => (Below.refl _ w).alloc (Nat.le_refl _) _
  by_cases h0 : m = 0
  · have he : (t.args.map textX).isEmpty = true := by
      rw [List.isEmpty_iff, List.map_eq_nil_iff, ← List.length_eq_zero_iff, hm, h0]
    rw [if_pos he]
    subst h0
    have s1 : ¬ 9223372036854775807 < t.lab.op.size + 3 := by omega
    clear h hg hc hk hTx hsum hsm he hm hT
    obtain ⟨x0, x1, x2, x3, x4, x5, x6, x7⟩ := HS.out
    go_enter Tryz.func82, Tryz.ntmps82
    go_wp2
    go_ret
    exact ⟨rfl, HB0.out _⟩
  · have he : ¬ (t.args.map textX).isEmpty = true := by
      rw [List.isEmpty_iff, List.map_eq_nil_iff, ← List.length_eq_zero_iff, hm]; exact h0
    rw [if_neg he]
    obtain ⟨iS, hiS, hzS, hsS, hbS⟩ := info_parts info_strT
    have q0 : ((m : Int) == 0) = false := by simp; omega
    have hjs := joinS_size (t.args.map textX) ⟨#[44, 32]⟩
    have e6 : (⟨#[44, 32]⟩ : ByteArray).size = 2 := rfl
    rw [e6, List.length_map, hm] at hjs
    have HJ : Hid ((joinL (t.args.map textX) ⟨#[44, 32]⟩).length ≤ 140737488355328) := by
      unfold joinS at hjs; rw [baL_size] at hjs; show _ ≤ _; omega
    obtain ⟨R, hR⟩ : ∃ R, joinS (t.args.map textX) ⟨#[44, 32]⟩ = R := ⟨_, rfl⟩
    rw [hR] at hjs ⊢
    have HR := Lib.hid hR
    have hRs : R.size ≤ 200000000 := by omega
    have s1 : ¬ 9223372036854775807 < t.lab.op.size + 1 := by omega
    have s2 : ¬ 9223372036854775807 < t.lab.op.size + 1 + R.size := by omega
    have s3 : ¬ 9223372036854775807 < t.lab.op.size + 1 + R.size + 1 := by omega
    have IHx : Hid (∀ (y : XM) (W : World), Below w.heap.size w W → XAt W.heap.size W n y → GoodX y.t → y.t.count ≤ 100000 → Calls Tryz.prog 43 #[.agg #[.int .i64 y.t.lab.kd, .int .u8 y.t.lab.v.k, .int .i64 y.t.lab.v.n, .string y.t.lab.v.s, .string y.t.lab.tb, .string y.t.lab.nm, .string y.t.lab.op, .slice y.a y.t.args.length y.cap]] W fun e w' => e = .returned (.string (textX y.t)) ∧ Below W.heap.size W w') := fun y W hb hy hg hc => by
      have := IH y W (HP.out W hb) hy hg hc
      rw [XM.v_eq] at this; exact this
    obtain ⟨w0, hw0⟩ : ∃ w0, w.alloc (.cells #[.int .i64 t.lab.kd, .int .u8 t.lab.v.k, .int .i64 t.lab.v.n, .string t.lab.v.s, .string t.lab.tb, .string t.lab.nm, .string t.lab.op, .slice a m cap] 45) = w0 := ⟨_, rfl⟩
    have HB1 : Hid (Below w.heap.size w w0) := by rw [← hw0]; exact HB0.out _
    have hs0 : w0.heap.size = w.heap.size + 1 := by rw [← hw0]; simp
    rw [hw0] at HS
    have HZ := Lib.hid hs0
    have HV0 : Hid (w0.ownsRow w0.heap.size 9 1 (.slice none 0 0) 0 (cellsS ((t.args.take 0).map textX))) := World.ownsRow_nil _ _ _ _
    clear h hg hc hk hTx hsum hsm he hm hT hR HB0 hs0 IH h0 hjs e6
    obtain ⟨x0, x1, x2, x3, x4, x5, x6, x7⟩ := HS.out
    go_enter Tryz.func82, Tryz.ntmps82
    go_wp2
    clear x0 x1 x2 x3 x4 x5 x6 x7
    go_loopw [3, 16] (fun v i wr => ∃ (k : Nat) (cv : Value), cv = v ∧ k ≤ m ∧ i = .int .i64 (k : Int) ∧ Hid (wr.ownsRow w0.heap.size 9 1 cv k (cellsS ((t.args.take k).map textX))) ∧ Hid (Below w0.heap.size w0 wr)) (fun _ i _ => m - (intOf i).toNat)
    case atStart => exact ⟨0, _, rfl, by omega, rfl, HV0, Below.refl _ _⟩
    case round =>
      clear HV0
      obtain ⟨k, cv, rfl, hk, rfl, HV, HBr⟩ := hrel
      have HBw := Lib.hid (HB1.out.trans (HBr.out.mono HB1.out.size))
      have HBs := Lib.hid HBr.out.size
      by_cases hlt : k < m
      · have hkl : k < t.args.length := by rw [HM.out]; exact hlt
        obtain ⟨y, hy, hAy, b, o, hab, hbN, hKid⟩ := (HA.out.later HBw.out).kid8 (k := k) hkl
        simp only at hab hy
        subst hab
        obtain ⟨y0, y1, y2, y3, y4, y5, y6, y7⟩ := hKid
        have HTk : Hid ((t.args.take (k + 1)).map textX = (t.args.take k).map textX ++ [textX y.t]) := by
          rw [List.take_succ_eq_append_getElem hkl, List.map_append, ← hy]; rfl
        have hyg : GoodX y.t := by rw [hy]; exact HG.out.arg (List.getElem_mem hkl)
        have hyc : y.t.count ≤ 100000 := by have h1 := count_arg (List.getElem_mem hkl); rw [← hy] at h1; have := HCt.out; omega
        have HY := Lib.hid (IHx.out y (wr.alloc (.cells #[.int .i64 y.t.lab.kd, .int .u8 y.t.lab.v.k, .int .i64 y.t.lab.v.n, .string y.t.lab.v.s, .string y.t.lab.tb, .string y.t.lab.nm, .string y.t.lab.op, .slice y.a y.t.args.length y.cap] 45)) (HBw.out.trans ((Below.refl w.heap.size wr).alloc HBw.out.size _)) (hAy.later ((Below.refl _ wr).alloc (Nat.le_refl _) _)) hyg hyc)
        generalize textX y.t = R1 at *
        clear hy hAy hkl hyg hyc HA IHx HG
        go_wp2_with (first | (at_builtin; fail) | fail)
        refine HY.out.mono ?_
        rintro e w2 ⟨rfl, hb2⟩
        have HB1' : Hid (Below wr.heap.size wr w2) := ((Below.refl _ wr).alloc (Nat.le_refl _) _).trans (hb2.mono (by simp))
        have HB2 := Lib.hid (HBr.out.trans (HB1'.out.mono HBs.out))
        have HBs2 := Lib.hid HB2.out.size
        have HV2 := Lib.hid (own_below HV.out (Nat.le_refl _) HB1'.out)
        clear hb2 HY y0 y1 y2 y3 y4 y5 y6 y7 HV HB1'
        go_wp2_with (first | (at_builtin; refine wpList_appC rfl _ _ 72 rfl w0.heap.size 9 iS (.string ⟨#[]⟩) 1 16 Tryz.underlying72 hiS hzS rfl hsS (by omega) hbS (by omega) cv k _ [.string R1] w2 HV2.out rfl _ rfl rfl (by simp [Value.oneCell']) rfl (by omega) HBs2.out ?_; intro v5 w5 hown5 hc5 hsz5; have HO5 := Lib.hid hown5; have HC5 := Lib.hid hc5; clear hown5 hc5 hsz5))
        have HB5 : Hid (Below w0.heap.size w0 w5) := HB2.out.trans (((Below.refl w0.heap.size w2).alloc HBs2.out _).trans (HC5.out.below (by have := HBs2.out; simp; omega) (fun g hg => (HV2.out.lt g (by simpa using hg)).1)))
        go_roundw
        case rel => exact ⟨k + 1, v5, rfl, by omega, by go_num, by rw [HTk.out, cellsS_snoc]; exact HO5.out, HB5.out⟩
        case measure => simp [intOf]; omega
      · have hke : k = m := by omega
        have HO := HV.out
        rw [hke, ← HM.out, List.take_length] at HO
        obtain ⟨ac, cc, hcv, hcc, hcm, hA2⟩ := own_slice HO
        have hml := HM.out
        have HY := Lib.hid (fun W (hb : Below wr.heap.size wr W) => Join_any (t.args.map textX) ⟨#[44, 32]⟩ ac cc W (hA2.later (N := 0) hb) (by rw [List.length_map]; omega) (by rw [List.length_map]; omega) HJ.out)
        rw [HR.out, List.length_map, HM.out] at HY
        rw [HM.out] at hcv
        subst hcv
        have HSr := Lib.hid (HS.out.later (by have := HZ.out; omega) HBr.out)
        have l6 : ∀ W, Later wr.drew W → W.cell? ⟨w.heap.size, 6, none⟩ = some (.string t.lab.op) := fun W hW => (HSr.out.later (N := wr.heap.size) (by have := HZ.out; have := HBs.out; omega) (Later.undrew hW)).c6
        clear HO hA2 hcc hcm hml HV HA HG IHx HS HR HJ
        go_wp2_with fail
        refine wp_region_ord [(0, true), (1, true), (2, true), (3, true), (4, false), (5, true), (6, true), (7, true)] (by kernel_rfl) (by kernel_rfl) (by kernel_rfl) (by kernel_rfl) ?_
        repeat (first | (refine wpO_F (v := ?_) rfl (by rfl) (fun w' hL => ?_) ?_; rotate_left; (solve | (go_simp; with_reducible rfl) | go_simp); try simp only [Act.put, List.setIfInBounds_toArray, List.set_cons_zero, List.set_cons_succ]) | (refine wpO_G rfl (by rfl) ?_; try simp only [Act.put, List.setIfInBounds_toArray, List.set_cons_zero, List.set_cons_succ]))
        refine wpO_C rfl (by rfl) ?_
        go_simp
        refine (HY.out _ (Below.refl _ _).drew).mono ?_
        rintro e w2 ⟨rfl, hb2⟩
        refine ⟨hb2, ?_⟩
        try simp only [Act.put, List.setIfInBounds_toArray, List.set_cons_zero, List.set_cons_succ]
        repeat (first | (refine wpO_F (v := ?_) rfl (by rfl) (fun w' hL => ?_) ?_; rotate_left; (solve | (go_simp; with_reducible rfl) | go_simp); try simp only [Act.put, List.setIfInBounds_toArray, List.set_cons_zero, List.set_cons_succ]) | (refine wpO_G rfl (by rfl) ?_; try simp only [Act.put, List.setIfInBounds_toArray, List.set_cons_zero, List.set_cons_succ]))
        refine wpO_nil ?_
        have HB2 := Lib.hid (HBw.out.trans (((Below.refl _ wr).drew.trans hb2).mono HBw.out.size))
        clear hb2 HY l6
        go_wp2
        go_ret
        exact ⟨rfl, HB2.out⟩
end Go.Proofs.YtbnddpicpomakaaGreatDoor
