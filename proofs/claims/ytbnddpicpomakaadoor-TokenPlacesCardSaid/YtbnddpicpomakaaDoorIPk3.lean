/- Several texts of one proof, one behind the other. -/
import Derived.Test.YtbnddpicpomakaaDoorIPk2
import Derived.Lib.Replace
import Derived.Lib.Strings
import Derived.Test.YtbnddpicpomakaaDoorRows
import Derived.Shelf.Utf8.RuneCount
import Derived.Shelf.Strings.Replace
import Derived.Shelf.Strings.SplitShaped
import Derived.Shelf.Strings.Prefix
import Derived.Shelf.Strconv.Itoa4
import Derived.Shelf.Strconv.ErrVarParseInt
import Derived.Lib.LaidTab
import Derived.Deep.Slices
import Derived.Deep.Fields
import Derived.Deep.MidRow
import Derived.Lib.Hide
import Derived.Laws.OwnMore
set_option linter.unusedSimpArgs false
set_option linter.unusedVariables false

/- Quoted texts: plain mathematics. -/
set_option linter.unusedSimpArgs false
set_option linter.unusedVariables false
set_option maxRecDepth 100000
namespace Go.Proofs.YtbnddpicpomakaaDoor
set_option linter.unusedSimpArgs false
open Go

def dblL : List UInt8 → List UInt8
  | [] => []
  | c :: l => if c = 39 then 39 :: 39 :: dblL l else c :: dblL l

theorem dblL_app : ∀ a b : List UInt8, dblL (a ++ b) = dblL a ++ dblL b
  | [], b => rfl
  | c :: a, b => by
    rw [List.cons_append, dblL, dblL, dblL_app a b]
    split <;> rfl

theorem dblL_plain : ∀ {a : List UInt8}, (∀ c ∈ a, c ≠ 39) → dblL a = a
  | [], _ => rfl
  | c :: a, h => by rw [dblL, if_neg (h c (by simp)), dblL_plain fun x hx => h x (by simp [hx])]

theorem dblL_len : ∀ a : List UInt8, a.length ≤ (dblL a).length ∧ (dblL a).length ≤ 2 * a.length
  | [] => by simp [dblL]
  | c :: a => by
    have := dblL_len a
    rw [dblL]
    split <;> simp <;> omega

/-- Every text is free of quotes, or is one that is, a quote, and a rest. -/
theorem split_quote : ∀ l : List UInt8, (∀ c ∈ l, c ≠ 39) ∨ ∃ a b, l = a ++ 39 :: b ∧ ∀ c ∈ a, c ≠ 39
  | [] => .inl (by simp)
  | c :: l => by
    by_cases h : c = 39
    · subst h; exact .inr ⟨[], l, rfl, by simp⟩
    · rcases split_quote l with h2 | ⟨a, b, h3, h4⟩
      · exact .inl fun x hx => (List.mem_cons.1 hx).elim (fun e => e ▸ h) (h2 x)
      · exact .inr ⟨c :: a, b, by rw [h3]; rfl, fun x hx => (List.mem_cons.1 hx).elim (fun e => e ▸ h) (h4 x)⟩

theorem index_none_of (p : List UInt8) : ∀ {l : List UInt8}, p = 39 :: p.tail → (∀ c ∈ l, c ≠ 39) → Lib.index l p = -1
  | [], hp, _ => by rw [hp]; rfl
  | c :: l, hp, h => by
    have h0 := h c (by simp)
    have hn : p.isPrefixOf (c :: l) = false := by
      rw [hp, List.isPrefixOf]
      have : ((39 : UInt8) == c) = false := by simpa using fun e => h0 e.symm
      rw [this]; rfl
    rw [Lib.index, hn, index_none_of p hp fun x hx => h x (by simp [hx])]
    rfl

theorem index_some_of (p : List UInt8) : ∀ {a b : List UInt8}, p = 39 :: p.tail → (∀ c ∈ a, c ≠ 39) → p.isPrefixOf b = true → Lib.index (a ++ b) p = (a.length : Int)
  | [], b, hp, _, hb => by
    cases b with
    | nil => rw [hp] at hb; simp [List.isPrefixOf] at hb
    | cons x b => rw [List.nil_append, Lib.index, hb]; rfl
  | c :: a, b, hp, h, hb => by
    have h0 := h c (by simp)
    have hn : p.isPrefixOf (c :: (a ++ b)) = false := by
      rw [hp, List.isPrefixOf]
      have : ((39 : UInt8) == c) = false := by simpa using fun e => h0 e.symm
      rw [this]; rfl
    have ih := index_some_of p (a := a) (b := b) hp (fun x hx => h x (by simp [hx])) hb
    rw [List.cons_append, Lib.index, hn, ih, List.length_cons]
    rw [if_neg (by simp)]
    have : ((a.length : Int) == -1) = false := by simp
    rw [this]
    simp

theorem replaceK_none {o n l : List UInt8} (h : Lib.index l o = -1) : ∀ k, Lib.replaceK o n k l = l
  | 0 => rfl
  | k + 1 => by rw [Lib.replaceK, h]; rfl

/-- Each quote doubled. -/
theorem replaceK_dbl : ∀ (k : Nat) (l : List UInt8), Lib.count l [39] ≤ k → Lib.replaceK [39] [39, 39] k l = dblL l
  | k, l, hk => by
    rcases split_quote l with h | ⟨a, b, rfl, h⟩
    · rw [replaceK_none (index_none_of [39] rfl h), dblL_plain h]
    · have hi : Lib.index (a ++ 39 :: b) [39] = (a.length : Int) := index_some_of [39] rfl h (by simp [List.isPrefixOf])
      have hc := Lib.count_hit (by simp) hi
      cases k with
      | zero => omega
      | succ k =>
        have hd : (a ++ 39 :: b).drop (a.length + [(39 : UInt8)].length) = b := by
          rw [← List.drop_drop, List.drop_left]; rfl
        rw [hd] at hc
        rw [Lib.replaceK_hit _ _ _ _ _ hi, hd, List.take_left, replaceK_dbl k b (by omega), dblL_app, dblL_plain h]
        simp [dblL]

theorem replaceAll_dbl (l : List UInt8) : Lib.replaceAll l [39] [39, 39] = dblL l := by
  unfold Lib.replaceAll Lib.replace Lib.replaceNum
  rw [if_neg (by decide), if_pos (.inl (by omega))]
  exact replaceK_dbl _ l (Nat.le_refl _)

/-- .. and back. -/
theorem replaceK_undbl : ∀ (k : Nat) (l : List UInt8), Lib.count (dblL l) [39, 39] ≤ k → Lib.replaceK [39, 39] [39] k (dblL l) = l
  | k, l, hk => by
    rcases split_quote l with h | ⟨a, b, rfl, h⟩
    · rw [dblL_plain h, replaceK_none (index_none_of [39, 39] rfl h)]
    · have e : dblL (a ++ 39 :: b) = a ++ 39 :: 39 :: dblL b := by rw [dblL_app, dblL_plain h]; simp [dblL]
      rw [e] at hk ⊢
      have hi : Lib.index (a ++ 39 :: 39 :: dblL b) [39, 39] = (a.length : Int) := index_some_of [39, 39] rfl h (by simp [List.isPrefixOf])
      have hc := Lib.count_hit (by simp) hi
      cases k with
      | zero => omega
      | succ k =>
        have hd : (a ++ 39 :: 39 :: dblL b).drop (a.length + [(39 : UInt8), 39].length) = dblL b := by
          rw [← List.drop_drop, List.drop_left]; rfl
        rw [hd] at hc
        rw [Lib.replaceK_hit _ _ _ _ _ hi, hd, List.take_left, replaceK_undbl k b (by omega)]
        simp

theorem replaceAll_undbl (l : List UInt8) : Lib.replaceAll (dblL l) [39, 39] [39] = l := by
  unfold Lib.replaceAll Lib.replace Lib.replaceNum
  rw [if_neg (by decide), if_pos (.inl (by omega))]
  exact replaceK_undbl _ l (Nat.le_refl _)

def quoteL (l : List UInt8) : List UInt8 := 39 :: (dblL l ++ [39])
def bodyL (l : List UInt8) : List UInt8 := Lib.trimSuffix (Lib.trimPrefix l [39]) [39]
def plainL (l : List UInt8) : List UInt8 := Lib.replaceAll (bodyL l) [39, 39] [39]
def unquoteL (l : List UInt8) : List UInt8 × Int := if quoteL (plainL l) = l then (plainL l, 0) else ([], 3)

theorem body_quote (l : List UInt8) : bodyL (quoteL l) = dblL l := by
  have h1 : Lib.trimPrefix (quoteL l) [39] = dblL l ++ [39] := by
    unfold Lib.trimPrefix Lib.hasPrefix quoteL
    rw [if_pos (by simp [List.isPrefixOf])]
    rfl
  have hs : [(39 : UInt8)].isSuffixOf (dblL l ++ [39]) = true := by
    rw [List.isSuffixOf_iff_suffix]
    exact ⟨dblL l, rfl⟩
  unfold bodyL
  rw [h1]
  unfold Lib.trimSuffix Lib.hasSuffix
  rw [if_pos hs]
  simp

theorem plain_quote (l : List UInt8) : plainL (quoteL l) = l := by
  unfold plainL; rw [body_quote, replaceAll_undbl]

theorem unquote_quote (l : List UInt8) : unquoteL (quoteL l) = (l, 0) := by
  unfold unquoteL; rw [plain_quote, if_pos rfl]

theorem body_len (l : List UInt8) : (bodyL l).length ≤ l.length := by
  unfold bodyL Lib.trimSuffix Lib.trimPrefix
  split <;> split <;> simp [List.length_take, List.length_drop] <;> omega
end Go.Proofs.YtbnddpicpomakaaDoor

/- The walks of runes.Count, Quote, Unquote, isDigits, Number and Digits. -/
set_option linter.unusedSimpArgs false
set_option linter.unusedVariables false
set_option maxRecDepth 100000
namespace Go.Proofs.YtbnddpicpomakaaDoor
set_option linter.unusedSimpArgs false
open Go.RowKit

/-- The name of the table of powers. -/
def powName : String := "internal/strconv.uint64pow10"

/-- What the package's variables hold. -/
structure Pre4 (w : World) : Prop where
  tabs : Tabs w
  maxlen : ∃ m, w.cell? ⟨Tryd.laysRepl_ren.g 1, 0, none⟩ = some (.int .i64 m)
  pow : Lib.TabIs Tryd.prog w powName .u64 Lib.pow10Tab
/-- .. and the error of numbers out of range. -/
structure Pre5 (w : World) : Prop extends Pre4 w where
  rng : ∃ ev, w.cell? ⟨Tryd.laysParse_ren.g 16, 0, none⟩ = some ev ∧ (ev = .nilIface ∨ ∃ te pe, ev = .iface te pe)
instance (w : World) : Coe (Pre5 w) (Pre4 w) := ⟨fun h => h.toPre4⟩

theorem cell_kept5 {w w' : World} {a : Addr} {v : Value} (h : w.cell? a = some v) (hb : Below w.heap.size w w') : w'.cell? a = some v :=
  (hb.cell (World.block_lt_of_cell? _ _ h)).trans h

theorem var_kept5 {P : Program} {w w' : World} {n : String} {cs : Array Value} (h : w.var? P n = some cs) (hb : Below w.heap.size w w') : w'.var? P n = some cs := by
  unfold World.var? at h ⊢
  cases hg : P.globalNamed n with
  | none => rw [hg] at h; simp at h
  | some g =>
    rw [hg] at h
    simp only [Option.bind_some] at h ⊢
    have hlt : g < w.heap.size := by
      by_cases hlt : g < w.heap.size
      · exact hlt
      · rw [Array.getElem?_eq_none (by omega)] at h; simp at h
    rw [hb.block g hlt]
    exact h

theorem Pre4.below {w w' : World} (h : Pre4 w) (hb : Below w.heap.size w w') : Pre4 w' :=
  ⟨h.tabs.below hb, let ⟨m, hm⟩ := h.maxlen; ⟨m, cell_kept5 hm hb⟩, var_kept5 h.pow hb⟩
theorem Pre5.below {w w' : World} (h : Pre5 w) (hb : Below w.heap.size w w') : Pre5 w' :=
  ⟨h.toPre4.below hb, let ⟨ev, h1, h2⟩ := h.rng; ⟨ev, cell_kept5 h1 hb, h2⟩⟩

/-! Count. -/
theorem count_dec (s : ByteArray) : ∀ (r : List Nat) (pos fuel : Nat), decS ((bytesU s).drop pos) = some r → s.size ≤ pos + fuel → Lib.runeCountFrom s fuel pos = r.length
  | [], pos, fuel, h, _ => by
    have hp : ¬ pos < s.size := by
      intro hp
      have h2 := ((decS_iff (fun c hc => bytesU_lt s c (List.mem_of_mem_drop hc)) []).1 h).2
      have := congrArg List.length h2
      rw [List.length_drop, bytesU_len] at this
      simp [encS] at this
      omega
    rw [Lib.runeCountFrom_end s fuel pos hp]; rfl
  | v :: r, pos, fuel, h, hf => by
    have hne : (bytesU s).drop pos ≠ [] := by
      intro h0; rw [h0, decS_nil] at h; simp at h
    obtain ⟨v', n, r', h1, h2, h3, h4, h5, h6, h7, h8⟩ := decS_step (fun c hc => bytesU_lt s c (List.mem_of_mem_drop hc)) h hne
    simp only [List.cons.injEq] at h2
    obtain ⟨rfl, rfl⟩ := h2
    rw [List.length_drop, bytesU_len] at h6
    obtain ⟨f, rfl⟩ : ∃ f, fuel = f + 1 := ⟨fuel - 1, by omega⟩
    unfold Lib.runeCountFrom
    rw [if_pos (by omega), decode_hd, h4]
    rw [List.drop_drop] at h3
    rw [count_dec s r (pos + n) f h3 (by omega), List.length_cons]; omega

def countV (s : ByteArray) : Int × Int := match decS (bytesU s) with
  | none => (0, 3)
  | some p => ((p.length : Int), 0)

/-! Quote and Unquote. -/
def baL (l : List UInt8) : ByteArray := ⟨l.toArray⟩
theorem baL_list (l : List UInt8) : (baL l).data.toList = l := by simp [baL]
theorem baL_size (l : List UInt8) : (baL l).size = l.length := by simp [baL, ByteArray.size]
theorem baL_data (s : ByteArray) : baL s.data.toList = s := by
  apply ByteArray.ext; simp [baL]

def quoteS (s : ByteArray) : ByteArray := baL (quoteL s.data.toList)
def unquoteS (s : ByteArray) : ByteArray × Int := (baL (unquoteL s.data.toList).1, (unquoteL s.data.toList).2)

theorem extraRepl : Builder.Extra Tryd.prog Tryd.laysRepl_ren := {
  sizeBuilder := by kernel_rfl
  liesBuilder := by kernel_rfl
  t5 := Tryd.underlying5
  a5 := Tryd.isAgg5
  z5 := Tryd.sizeOf5
  v5 := Tryd.zeroValue5
  infoByte := by kernel_rfl
  cellsByte := by kernel_rfl
  sizeByte := by kernel_rfl
  neB5 := by decide }

theorem repl_any (s old new : ByteArray) (w : World) (hT : Pre4 w) (hs : s.size ≤ 1000000) (h1 : 1 ≤ old.size) (h2 : new.size ≤ 2) :
    Calls Tryd.prog 85 #[.string s, .string old, .string new] w fun e w' => e = .returned (.string (baL (Lib.replaceAll s.data.toList old.data.toList new.data.toList))) ∧ Below w.heap.size w w' := by
  obtain ⟨m, hm⟩ := hT.maxlen
  have hc := Lib.countB_le old h1 s.size s (Nat.le_refl _)
  refine Any.strings_ReplaceAll { Tryd.laysRepl with } extraRepl s old new m w (by omega) hm h1 ?_
  have : Lib.countB s old * new.size ≤ s.size * 2 := Nat.mul_le_mul hc h2
  omega

theorem quote_cat (s : ByteArray) : (⟨#[39]⟩ : ByteArray) ++ baL (dblL s.data.toList) ++ ⟨#[39]⟩ = quoteS s := by
  apply ByteArray.ext
  simp [quoteS, baL, quoteL]

theorem dbl_size (s : ByteArray) : (baL (dblL s.data.toList)).size ≤ 2 * s.size := by
  rw [baL_size]
  have := (dblL_len s.data.toList).2
  simpa using this

set_option maxHeartbeats 1000000 in
theorem Quote_any (s : ByteArray) (w : World) (hT : Pre4 w) (hs : s.size ≤ 1000000) :
    Calls Tryd.prog 56 #[.string s] w fun e w' => e = .returned (.string (quoteS s)) ∧ Below w.heap.size w w' := by
  have h := repl_any s ⟨#[39]⟩ ⟨#[39, 39]⟩ w hT hs (by decide) (by decide)
  have e : Lib.replaceAll s.data.toList (⟨#[39]⟩ : ByteArray).data.toList (⟨#[39, 39]⟩ : ByteArray).data.toList = dblL s.data.toList := replaceAll_dbl _
  rw [e] at h
  have hq := quote_cat s
  have hz := dbl_size s
  obtain ⟨d, hd⟩ : ∃ d, baL (dblL s.data.toList) = d := ⟨_, rfl⟩
  rw [hd] at h hq hz
  have HQ := Lib.hid hq
  have HC := Lib.hid h
  have s1 : ¬ 9223372036854775807 < 1 + d.size := by omega
  have s2 : ¬ 9223372036854775807 < 1 + d.size + 1 := by omega
  clear h e hq hd hT
  go_enter Tryd.func56, Tryd.ntmps56
  go_wp2_with fail
  refine HC.out.mono ?_
  rintro e w1 ⟨rfl, b1⟩
  go_wp2
  go_ret
  exact ⟨by rw [← HQ.out]; rfl, b1⟩

theorem neq_lists {a b : ByteArray} (h : ¬ a = b) : (a.toList != b.toList) = true := by
  rw [bne_iff_ne]
  intro e
  apply h
  rw [ByteArray.toList_eq, ByteArray.toList_eq] at e
  exact ByteArray.ext (Array.toList_inj.1 e)

theorem plain_len (l : List UInt8) (h : quoteL (plainL l) = l) : (plainL l).length ≤ l.length := by
  have := congrArg List.length h
  unfold quoteL at this
  have h2 := (dblL_len (plainL l)).1
  simp at this
  omega

theorem index_bd (l p : List UInt8) : Lib.index l p ≤ (l.length : Int) := by
  induction l with
  | nil => rw [Lib.index]; split <;> simp
  | cons b l ih =>
    rw [Lib.index]
    split
    · simp; omega
    · split
      · simp; omega
      · simp; omega

theorem replaceK_len (o n : List UInt8) (h : n.length ≤ o.length) : ∀ (k : Nat) (l : List UInt8), (Lib.replaceK o n k l).length ≤ l.length + n.length * k
  | 0, l => by simp [Lib.replaceK]
  | k + 1, l => by
    rw [Lib.replaceK]
    split
    · omega
    · have := replaceK_len o n h k (l.drop ((Lib.index l o).toNat + o.length))
      rw [List.length_append, List.length_append, List.length_take]
      rw [List.length_drop] at this
      rw [Nat.mul_succ]
      omega

theorem plain_bd (l : List UInt8) : (plainL l).length ≤ 2 * l.length + 1 := by
  unfold plainL Lib.replaceAll Lib.replace Lib.replaceNum
  have hb := body_len l
  rw [if_neg (by decide), if_pos (.inl (by omega))]
  have h1 := replaceK_len [39, 39] [39] (by simp) (Lib.count (bodyL l) [39, 39]) (bodyL l)
  have h2 := Lib.count_le (bodyL l) [39, 39]
  simp at h1
  omega

set_option maxHeartbeats 2000000 in
theorem Unquote_any (s : ByteArray) (w : World) (hT : Pre4 w) (hs : s.size ≤ 400000) :
    Calls Tryd.prog 83 #[.string s] w fun e w' => e = .returned (.tuple #[.string (unquoteS s).1, .int .i64 (unquoteS s).2]) ∧ Below w.heap.size w w' := by
  have HP : ∀ W, Calls Tryd.prog 101 #[.string s, .string ⟨#[39]⟩] W fun e w' => e = .returned (.string (baL (Lib.trimPrefix s.data.toList [39]))) ∧ w' = W := fun W => Any.strings_TrimPrefix Tryd.laysTrimP s ⟨#[39]⟩ W
  have hpl : (Lib.trimPrefix s.data.toList [39]).length ≤ s.size := by
    unfold Lib.trimPrefix
    have : s.data.toList.length = s.size := by simp
    split
    · rw [List.length_drop]; omega
    · omega
  have HS : ∀ W, Calls Tryd.prog 100 #[.string (baL (Lib.trimPrefix s.data.toList [39])), .string ⟨#[39]⟩] W fun e w' => e = .returned (.string (baL (bodyL s.data.toList))) ∧ w' = W := fun W => by
    have := Any.strings_TrimSuffix Tryd.laysTrimS (baL (Lib.trimPrefix s.data.toList [39])) ⟨#[39]⟩ W (by rw [baL_size]; omega)
    rw [baL_list] at this
    exact this
  have hbl : (baL (bodyL s.data.toList)).size ≤ 1000000 := by
    rw [baL_size]
    have := body_len s.data.toList
    have e : s.data.toList.length = s.size := by simp
    omega
  have HR : ∀ W, Below w.heap.size w W → Calls Tryd.prog 85 #[.string (baL (bodyL s.data.toList)), .string ⟨#[39, 39]⟩, .string ⟨#[39]⟩] W fun e w' => e = .returned (.string (baL (plainL s.data.toList))) ∧ Below W.heap.size W w' := fun W hb => by
    have := repl_any (baL (bodyL s.data.toList)) ⟨#[39, 39]⟩ ⟨#[39]⟩ W (hT.below hb) hbl (by decide) (by decide)
    rw [baL_list] at this
    exact this
  have hpz : (baL (plainL s.data.toList)).size ≤ 1000000 := by
    rw [baL_size]
    have := plain_bd s.data.toList
    have e : s.data.toList.length = s.size := by simp
    omega
  have HQ : ∀ W, Below w.heap.size w W → Calls Tryd.prog 56 #[.string (baL (plainL s.data.toList))] W fun e w' => e = .returned (.string (quoteS (baL (plainL s.data.toList)))) ∧ Below W.heap.size W w' := fun W hb => Quote_any _ W (hT.below hb) hpz
  have hU : (quoteS (baL (plainL s.data.toList)) = s ∧ unquoteS s = (baL (plainL s.data.toList), 0)) ∨ (¬ quoteS (baL (plainL s.data.toList)) = s ∧ unquoteS s = (⟨#[]⟩, 3)) := by
    unfold unquoteS unquoteL quoteS
    rw [baL_list]
    by_cases h : quoteL (plainL s.data.toList) = s.data.toList
    · left
      rw [if_pos h, h]
      exact ⟨baL_data s, rfl⟩
    · right
      rw [if_neg h]
      refine ⟨fun e => h ?_, rfl⟩
      have h3 := congrArg (fun t : ByteArray => t.data.toList) e
      rw [baL_list] at h3
      exact h3
  have H1 := Lib.hid HP
  have H2 := Lib.hid HS
  have H3 := Lib.hid HR
  have H4 := Lib.hid HQ
  obtain ⟨t, ht⟩ : ∃ t, baL (Lib.trimPrefix s.data.toList [39]) = t := ⟨_, rfl⟩
  obtain ⟨b, hb⟩ : ∃ b, baL (bodyL s.data.toList) = b := ⟨_, rfl⟩
  obtain ⟨p, hp⟩ : ∃ p, baL (plainL s.data.toList) = p := ⟨_, rfl⟩
  rw [ht] at H1 H2
  rw [hb] at H2 H3
  rw [hp] at H3 H4 hU
  obtain ⟨q, hq⟩ : ∃ q, quoteS p = q := ⟨_, rfl⟩
  rw [hq] at H4 hU
  clear HP HS HR HQ hpl hbl hpz ht hb hp hq hT
  rcases hU with ⟨rfl, hU⟩ | ⟨hne, hU⟩
  · have HU := Lib.hid hU
    clear hU
    go_enter Tryd.func83, Tryd.ntmps83
    go_wp2_with fail
    refine (H1.out _).mono ?_
    rintro e w1 ⟨rfl, rfl⟩
    go_wp2_with fail
    refine (H2.out _).mono ?_
    rintro e w2 ⟨rfl, rfl⟩
    go_wp2_with fail
    refine (H3.out _ (Below.refl _ _)).mono ?_
    rintro e w3 ⟨rfl, b3⟩
    go_wp2_with fail
    refine (H4.out _ b3).mono ?_
    rintro e w4 ⟨rfl, b4⟩
    go_wp2
    go_ret2
    exact ⟨by rw [HU.out]; rfl, b3.trans (b4.mono b3.size)⟩
  · have HU := Lib.hid hU
    have qn2 : (q.toList == s.toList) = false := by have := neq_lists hne; simpa using this
    clear hU hne
    go_enter Tryd.func83, Tryd.ntmps83
    go_wp2_with fail
    refine (H1.out _).mono ?_
    rintro e w1 ⟨rfl, rfl⟩
    go_wp2_with fail
    refine (H2.out _).mono ?_
    rintro e w2 ⟨rfl, rfl⟩
    go_wp2_with fail
    refine (H3.out _ (Below.refl _ _)).mono ?_
    rintro e w3 ⟨rfl, b3⟩
    go_wp2_with fail
    refine (H4.out _ b3).mono ?_
    rintro e w4 ⟨rfl, b4⟩
    go_wp2
    go_ret2
    exact ⟨by rw [HU.out]; rfl, b3.trans (b4.mono b3.size)⟩

/-! Digits. -/
theorem Digits_any (n : Int) (w : World) (hT : Pre4 w) (h0 : -9223372036854775808 ≤ n) (h1 : n ≤ 9223372036854775807) :
    Calls Tryd.prog 55 #[.int .i64 n] w fun e w' => e = .returned (.string (baL (Lib.itoa n))) ∧ Below w.heap.size w w' := by
  have hF : Calls Tryd.prog 84 #[.int .i64 n, .int .i64 10] w fun e w' => e = .returned (.string (baL (Lib.itoa n))) ∧ ∃ k os, w' = Sort.grow (w.drewN k) os := Any.strconv_FormatInt_10 Tryd.laysFmt n h0 h1 w hT.pow
  obtain ⟨d, hd⟩ : ∃ d, baL (Lib.itoa n) = d := ⟨_, rfl⟩
  rw [hd] at hF ⊢
  have HF := Lib.hid hF
  clear hF hd hT
  go_enter Tryd.func55, Tryd.ntmps55
  go_wp2_with fail
  refine HF.out.mono ?_
  rintro e w1 ⟨rfl, k, os, rfl⟩
  have hb : Below w.heap.size w (Sort.grow (w.drewN k) os) := ⟨rfl, rfl, rfl, by first | (simp [Sort.grow]; done) | (simp [Sort.grow]; omega), fun i hi => by
    show ((w.drewN k).heap ++ os)[i]? = _
    rw [Array.getElem?_append_left (by show i < w.heap.size; omega)]
    rfl⟩
  obtain ⟨W, hW⟩ : ∃ W, Sort.grow (w.drewN k) os = W := ⟨_, rfl⟩
  rw [hW] at hb ⊢
  clear hW
  go_wp2
  go_ret
  exact ⟨rfl, hb⟩
end Go.Proofs.YtbnddpicpomakaaDoor

/- The walks of runes.isDigits and Number. -/
set_option linter.unusedSimpArgs false
set_option linter.unusedVariables false
set_option maxRecDepth 100000
namespace Go.Proofs.YtbnddpicpomakaaDoor
set_option linter.unusedSimpArgs false
open Go.RowKit

def digitsB (s : ByteArray) : Bool := decide (0 < s.size) && (List.range s.size).all fun i => decide (48 ≤ byteN s i ∧ byteN s i ≤ 57)

theorem digitsB_true {s : ByteArray} : digitsB s = true ↔ 0 < s.size ∧ ∀ i, i < s.size → 48 ≤ byteN s i ∧ byteN s i ≤ 57 := by
  unfold digitsB
  rw [Bool.and_eq_true, decide_eq_true_iff, List.all_eq_true]
  simp

theorem digitsB_false {s : ByteArray} {i : Nat} (h : i < s.size) (hb : ¬ (48 ≤ byteN s i ∧ byteN s i ≤ 57)) : digitsB s = false := by
  rw [Bool.eq_false_iff]
  intro hn
  exact hb ((digitsB_true.1 hn).2 i h)

theorem class3 (c : Nat) : classZ (c : Int) = 3 ↔ 48 ≤ c ∧ c ≤ 57 := by
  unfold classZ
  repeat' split
  all_goals omega

set_option maxHeartbeats 2000000 in
theorem isDigits_any (s : ByteArray) (w : World) (hs : s.size ≤ 1000000000) :
    Calls Tryd.prog 98 #[.string s] w fun e w' => e = .returned (.bool (digitsB s)) ∧ Below w.heap.size w w' := by
  go_enter Tryd.func98, Tryd.ntmps98
  go_wp2
  go_loopw [] (fun wr => ∃ pos : Nat, wr = w.iter s pos ∧ pos ≤ s.size ∧ Hid (∀ i, i < pos → 48 ≤ byteN s i ∧ byteN s i ≤ 57)) (fun wr => s.size - wr.iterPos w.heap.size)
  case atStart => exact ⟨0, rfl, by omega, by simp [Hid]⟩
  case round =>
    obtain ⟨pos, rfl, hpos, HI⟩ := hrel
    have HBE : Hid (∀ q, Below w.heap.size w (w.iter s q)) := fun q => (Below.refl _ w).alloc (Nat.le_refl _) _
    by_cases hp : pos < s.size
    · have hnx : ∀ ty, (Instr.next (.pointer (some ⟨w.heap.size, 0, none⟩)) true ty).run Tryd.prog (w.iter s pos) = _ := fun ty => run_next_any w s pos ty hp
      have hB := byteN_at s pos hp
      by_cases hd : 48 ≤ (s[pos]'hp).toNat ∧ (s[pos]'hp).toNat ≤ 57
      · have hdec := decode_ascii s pos hp (by omega)
        simp only [hdec] at hnx
        obtain ⟨c, hc⟩ : ∃ c, (s[pos]'hp).toNat = c := ⟨_, rfl⟩
        rw [hc] at hnx hB hd
        have HCl := Lib.hid (fun W => Class_any (c : Int) W)
        rw [(class3 c).2 hd] at HCl
        have HI2 : Hid (∀ i, i < pos + 1 → 48 ≤ byteN s i ∧ byteN s i ≤ 57) := by
          intro i hi
          by_cases h : i = pos
          · subst h; rw [hB]; exact hd
          · exact HI.out i (by omega)
        clear hdec hB hc hd HI
        go_wp2_with fail
        refine (HCl.out _).mono ?_
        rintro e w1 ⟨rfl, rfl⟩
        clear HCl
        go_wp2
        go_roundw
        case rel => exact ⟨pos + 1, rfl, by omega, HI2⟩
        case measure => simp; omega
      · have HN : Hid (digitsB s = false) := digitsB_false hp (by rw [hB]; exact hd)
        have hr3 : classZ (((Utf8.decode s pos).1 : Nat) : Int) ≠ 3 := by
          intro h
          rw [class3] at h
          by_cases hasc : (s[pos]'hp).toNat < 128
          · rw [decode_ascii s pos hp hasc] at h; exact hd h
          · have := (decode_high s pos hp (by omega)).1; omega
        obtain ⟨r, hr⟩ : ∃ r, (Utf8.decode s pos).1 = r := ⟨_, rfl⟩
        obtain ⟨z, hz⟩ : ∃ z, (Utf8.decode s pos).2 = z := ⟨_, rfl⟩
        rw [hr, hz] at hnx
        rw [hr] at hr3
        have HCl := Lib.hid (fun W => Class_any (r : Int) W)
        obtain ⟨k, hk⟩ : ∃ k, classZ (r : Int) = k := ⟨_, rfl⟩
        rw [hk] at HCl hr3
        have q3 : (k != 3) = true := by simp [hr3]
        clear hB hr hz HI hd hk hr3
        go_wp2_with fail
        refine (HCl.out _).mono ?_
        rintro e w1 ⟨rfl, rfl⟩
        clear HCl
        go_wp2
        go_ret
        exact ⟨by rw [HN.out]; rfl, HBE.out _⟩
    · have hnx : ∀ ty, (Instr.next (.pointer (some ⟨w.heap.size, 0, none⟩)) true ty).run Tryd.prog (w.iter s pos) = _ := fun ty => run_next_end w s pos ty hp
      by_cases h0 : s.size = 0
      · have HN : Hid (digitsB s = false) := by unfold digitsB; simp [h0, Hid]
        have he : s.toList = [] := by rw [ByteArray.toList_eq, Array.size_eq_zero_iff.1 (show s.data.size = 0 from h0)]
        clear HI h0
        go_wp2
        go_ret
        exact ⟨by rw [HN.out]; rfl, HBE.out _⟩
      · have HN : Hid (digitsB s = true) := digitsB_true.2 ⟨by omega, fun i hi => HI.out i (by omega)⟩
        have he : (s.toList == []) = false := by
          rw [ByteArray.toList_eq]
          rw [Bool.eq_false_iff]
          intro h
          rw [beq_iff_eq] at h
          apply h0
          have := congrArg List.length h
          simpa using this
        have he2 : ¬ s.toList = [] := by simpa using he
        have he3 : (!s.toList.isEmpty) = true := by simpa using he2
        clear HI h0
        go_wp2
        go_ret
        exact ⟨by rw [HN.out]; rfl, HBE.out _⟩

/-! The number of some digits. -/
def valL (l : List Nat) : Nat := l.foldl (fun n c => n * 10 + (c - 48)) 0
def valF (a : Nat) (l : List Nat) : Nat := l.foldl (fun n c => n * 10 + (c - 48)) a

theorem valF_mono : ∀ (l : List Nat) (a : Nat), a ≤ valF a l
  | [], a => Nat.le_refl _
  | c :: l, a => by
    have := valF_mono l (a * 10 + (c - 48))
    show a ≤ valF (a * 10 + (c - 48)) l
    omega

theorem parseM_val : ∀ (l : List UInt8) (acc : Nat), (∀ c ∈ l, 48 ≤ c.toNat ∧ c.toNat ≤ 57) → acc < 18446744073709551616 →
    (Lib.parseUintM 18446744073709551615 acc l = .ok (valF acc (l.map UInt8.toNat)) ∧ valF acc (l.map UInt8.toNat) < 18446744073709551616) ∨ (Lib.parseUintM 18446744073709551615 acc l = .range ∧ 18446744073709551616 ≤ valF acc (l.map UInt8.toNat))
  | [], acc, _, h => .inl ⟨rfl, h⟩
  | c :: l, acc, hd, h => by
    have hc := hd c (by simp)
    have e : valF acc ((c :: l).map UInt8.toNat) = valF (acc * 10 + (c.toNat - 48)) (l.map UInt8.toNat) := rfl
    have hm := valF_mono (l.map UInt8.toNat) (acc * 10 + (c.toNat - 48))
    rw [e, Lib.parseUintM, if_pos hc]
    by_cases h1 : 1844674407370955162 ≤ acc
    · rw [if_pos h1]; right; exact ⟨rfl, by omega⟩
    · rw [if_neg h1]
      by_cases h2 : 18446744073709551615 < acc * 10 + (c.toNat - 48)
      · rw [if_pos h2]; right; exact ⟨rfl, by omega⟩
      · rw [if_neg h2]
        exact parseM_val l _ (fun x hx => hd x (by simp [hx])) (by omega)

theorem parse_val (l : List UInt8) (hne : l ≠ []) (hd : ∀ c ∈ l, 48 ≤ c.toNat ∧ c.toNat ≤ 57) :
    (Lib.parseIntB 64 l = .ok ((valL (l.map UInt8.toNat) : Nat) : Int) ∧ valL (l.map UInt8.toNat) < 9223372036854775808) ∨ (Lib.parseIntB 64 l = .range ∧ 9223372036854775808 ≤ valL (l.map UInt8.toNat)) := by
  cases l with
  | nil => exact absurd rfl hne
  | cons c l =>
    have hc := hd c (by simp)
    have e : valL ((c :: l).map UInt8.toNat) = valF 0 ((c :: l).map UInt8.toNat) := rfl
    have hb : (2 : Nat) ^ 64 - 1 = 18446744073709551615 := by decide
    have hb2 : (2 : Nat) ^ (64 - 1) = 9223372036854775808 := by decide
    rw [e]
    unfold Lib.parseIntB
    simp only []
    rw [if_neg (by omega)]
    unfold Lib.parseUintB
    rw [if_neg (by simp), hb]
    rcases parseM_val (c :: l) 0 hd (by omega) with ⟨h1, h2⟩ | ⟨h1, h2⟩
    · rw [h1]
      simp only [hb2]
      by_cases h3 : 9223372036854775808 ≤ valF 0 ((c :: l).map UInt8.toNat)
      · rw [if_pos ⟨by omega, h3⟩]; right; exact ⟨rfl, h3⟩
      · rw [if_neg (by omega), if_neg (by omega), if_neg (by omega)]; left; exact ⟨rfl, by omega⟩
    · rw [h1]; right; exact ⟨rfl, by omega⟩

def numberV (s : ByteArray) : Int × Int := if digitsB s = false then (0, 3) else if 9223372036854775808 ≤ valL (bytesU s) then (0, 21) else (((valL (bytesU s) : Nat) : Int), 0)

set_option maxHeartbeats 1000000 in
theorem Number_any (s : ByteArray) (w : World) (hT : Pre5 w) (hs : s.size ≤ 1000000) :
    Calls Tryd.prog 81 #[.string s] w fun e w' => e = .returned (.tuple #[.int .i64 (numberV s).1, .int .i64 (numberV s).2]) ∧ Below w.heap.size w w' := by
  have HI := Lib.hid (fun W => isDigits_any s W (by omega))
  cases hd : digitsB s with
  | false =>
    have HN : Hid (numberV s = (0, 3)) := by unfold numberV; rw [if_pos hd]; rfl
    rw [hd] at HI
    clear hd hT
    go_enter Tryd.func81, Tryd.ntmps81
    go_wp2_with fail
    refine (HI.out _).mono ?_
    rintro e w1 ⟨rfl, b1⟩
    go_wp2
    go_ret2
    exact ⟨by rw [HN.out]; rfl, b1⟩
  | true =>
    have hN : numberV s = if 9223372036854775808 ≤ valL (bytesU s) then (0, 21) else (((valL (bytesU s) : Nat) : Int), 0) := by unfold numberV; rw [if_neg (by rw [hd]; simp)]
    obtain ⟨h0, hall⟩ := digitsB_true.1 hd
    have hbytes : ∀ c ∈ s.data.toList, 48 ≤ c.toNat ∧ c.toNat ≤ 57 := by
      intro c hc
      obtain ⟨i, hi, rfl⟩ := List.getElem_of_mem hc
      have hi2 : i < s.size := by simpa using hi
      have := hall i hi2
      rw [byteN_at s i hi2] at this
      exact this
    have hpv := parse_val s.data.toList (by
      intro h
      have := congrArg List.length h
      have e : s.data.toList.length = s.size := by simp
      rw [e, List.length_nil] at this; omega) hbytes
    have e : s.data.toList.map UInt8.toNat = bytesU s := rfl
    rw [e] at hpv
    rw [hd] at HI
    rcases hpv with ⟨h1, h2⟩ | ⟨h1, h2⟩
    · have HN : Hid (numberV s = (((valL (bytesU s) : Nat) : Int), 0)) := by rw [hN, if_neg (by omega)]; rfl
      have HP := Lib.hid (fun W => Any.strconv_ParseInt_10_at64_ok Tryd.laysParse s (by omega) _ h1 W)
      have HC : Hid (∀ W, Calls Tryd.prog 99 #[.string s, .int .i64 10, .int .i64 64] W fun e w' => e = .returned (.tuple #[.int .i64 ((valL (bytesU s) : Nat) : Int), .nilIface]) ∧ Below W.heap.size W w') := fun W => (HP.out W).mono fun e w' ⟨he, hw⟩ => ⟨he, by
        rcases hw with rfl | ⟨t, rfl⟩
        · exact Below.refl _ _
        · exact ⟨rfl, rfl, rfl, by rw [Lib.bytesWorld_size]; omega, fun k hk => Lib.bytesWorld_at_old W _ t k hk⟩⟩
      obtain ⟨v, hv⟩ : ∃ v, valL (bytesU s) = v := ⟨_, rfl⟩
      rw [hv] at HN HC
      clear hN h1 h2 HP hall hbytes hd hv hT e
      go_enter Tryd.func81, Tryd.ntmps81
      go_wp2_with fail
      refine (HI.out _).mono ?_
      rintro e w1 ⟨rfl, b1⟩
      go_wp2_with fail
      refine (HC.out _).mono ?_
      rintro e w2 ⟨rfl, b2⟩
      go_wp2
      go_ret2
      exact ⟨by rw [HN.out]; rfl, b1.trans (b2.mono b1.size)⟩
    · have HN : Hid (numberV s = (0, 21)) := by rw [hN, if_pos h2]; rfl
      have HP : Hid (∀ W, Below w.heap.size w W → ∃ te v, Calls Tryd.prog 99 #[.string s, .int .i64 10, .int .i64 64] W fun e w' => (∃ N, e = .returned (.tuple #[.int .i64 v, .iface te (.pointer (some ⟨N, 0, none⟩))])) ∧ Below W.heap.size W w') := fun W hb => by
        obtain ⟨ev, hv, hev⟩ := (hT.below hb).rng
        exact ⟨_, _, (Any.strconv_ParseInt_10_at64_range Tryd.laysParse s (by omega) h1 ev W hv hev).mono fun e w' ⟨N, he, _, _, hw⟩ => ⟨⟨N, he⟩, hw⟩⟩
      clear hN h1 h2 hall hbytes hd hT e
      go_enter Tryd.func81, Tryd.ntmps81
      go_wp2_with fail
      refine (HI.out _).mono ?_
      rintro e w1 ⟨rfl, b1⟩
      obtain ⟨te, v, hc⟩ := HP.out w1 b1
      go_wp2_with fail
      refine hc.mono ?_
      rintro e w2 ⟨⟨N, rfl⟩, b2⟩
      clear hc
      go_wp2
      go_ret2
      exact ⟨by rw [HN.out]; rfl, b1.trans (b2.mono b1.size)⟩
end Go.Proofs.YtbnddpicpomakaaDoor

/- Rows of values of any kind, of one or more cells each: read, cut, and the call's own. -/
set_option linter.unusedSimpArgs false
set_option linter.unusedVariables false
set_option maxRecDepth 100000
namespace Go.Proofs.YtbnddpicpomakaaDoor
open Go.RowKit

/-- The address leads to the cells vs, in blocks below number N. -/
def Arr (N : Nat) (w : World) (a : Option Addr) (vs : List Value) : Prop :=
  vs = [] ∨ ∃ b o, a = some ⟨b, o, none⟩ ∧ b < N ∧ ∀ (i : Nat) (v : Value), vs[i]? = some v → w.cell? ⟨b, o + i, none⟩ = some v

theorem Arr.nil (N : Nat) (w : World) (a : Option Addr) : Arr N w a [] := .inl rfl

theorem Arr.below {N : Nat} {w w' : World} {a : Option Addr} {l : List Value} (h : Arr N w a l) (hb : Below N w w') : Arr N w' a l := by
  rcases h with h2 | ⟨b, o, ha, hN, hc⟩
  · exact .inl h2
  · exact .inr ⟨b, o, ha, hN, fun i c hi => (hb.cell (p := ⟨b, o + i, none⟩) hN).trans (hc i c hi)⟩

theorem Arr.mono {N M : Nat} {w : World} {a : Option Addr} {l : List Value} (h : Arr N w a l) (hM : N ≤ M) : Arr M w a l := by
  rcases h with h2 | ⟨b, o, ha, hN, hc⟩
  · exact .inl h2
  · exact .inr ⟨b, o, ha, by omega, hc⟩

theorem Arr.later {N : Nat} {w w' : World} {a : Option Addr} {l : List Value} (h : Arr w.heap.size w a l) (hb : Below w.heap.size w w') : Arr w'.heap.size w' a l := (h.below hb).mono hb.size

/-- The cells from i on. -/
theorem Arr.at_ {N : Nat} {w : World} {a : Option Addr} {l : List Value} (h : Arr N w a l) (hne : l ≠ []) : ∃ b o, a = some ⟨b, o, none⟩ ∧ b < N ∧ ∀ (i : Nat) (v : Value), l[i]? = some v → w.cell? ⟨b, o + i, none⟩ = some v := by
  rcases h with h2 | h
  · exact absurd h2 hne
  · exact h

/-- Rows of z cells each. -/
def cellsOf {α : Type} (f : α → List Value) (l : List α) : List Value := l.flatMap f

theorem cellsOf_len {α : Type} (f : α → List Value) (z : Nat) (hf : ∀ x, (f x).length = z) (l : List α) : (cellsOf f l).length = l.length * z := by
  induction l with
  | nil => simp [cellsOf]
  | cons x r ih =>
    have e : cellsOf f (x :: r) = f x ++ cellsOf f r := rfl
    rw [e, List.length_append, hf, ih, List.length_cons, Nat.add_mul]; omega

theorem cellsOf_get {α : Type} (f : α → List Value) (z : Nat) (hf : ∀ x, (f x).length = z) : ∀ (l : List α) (i j : Nat) (x : α) (v : Value), l[i]? = some x → (f x)[j]? = some v → (cellsOf f l)[i * z + j]? = some v
  | [], i, _, x, _, h, _ => by simp at h
  | y :: r, 0, j, x, v, h, hv => by
    simp at h; subst h
    have e : cellsOf f (y :: r) = f y ++ cellsOf f r := rfl
    have hj := (List.getElem?_eq_some_iff.1 hv).1
    rw [e, Nat.zero_mul, Nat.zero_add, List.getElem?_append_left hj]; exact hv
  | y :: r, i + 1, j, x, v, h, hv => by
    have := cellsOf_get f z hf r i j x v (by simpa using h) hv
    have e : cellsOf f (y :: r) = f y ++ cellsOf f r := rfl
    rw [e, List.getElem?_append_right (by rw [hf, Nat.add_mul]; omega), hf]
    rw [← this]; congr 1; rw [Nat.add_mul]; omega

theorem cellsOf_take {α : Type} (f : α → List Value) (z : Nat) (hf : ∀ x, (f x).length = z) : ∀ (l : List α) (i : Nat), cellsOf f (l.take i) = (cellsOf f l).take (i * z)
  | [], i => by simp [cellsOf]
  | y :: r, 0 => by simp [cellsOf]
  | y :: r, i + 1 => by
    have e : cellsOf f (y :: r) = f y ++ cellsOf f r := rfl
    have e2 : cellsOf f ((y :: r).take (i + 1)) = f y ++ cellsOf f (r.take i) := rfl
    have h1 : (f y).take ((i + 1) * z) = f y := List.take_of_length_le (by rw [hf, Nat.add_mul]; omega)
    have h2 : (i + 1) * z - z = i * z := by rw [Nat.add_mul]; omega
    rw [e, e2, cellsOf_take f z hf r i, List.take_append, hf, h1, h2]

theorem cellsOf_drop {α : Type} (f : α → List Value) (z : Nat) (hf : ∀ x, (f x).length = z) : ∀ (l : List α) (i : Nat), cellsOf f (l.drop i) = (cellsOf f l).drop (i * z)
  | [], i => by simp [cellsOf]
  | y :: r, 0 => by simp [cellsOf]
  | y :: r, i + 1 => by
    have e : cellsOf f (y :: r) = f y ++ cellsOf f r := rfl
    have e2 : cellsOf f ((y :: r).drop (i + 1)) = cellsOf f (r.drop i) := rfl
    have h1 : (f y).drop ((i + 1) * z) = [] := List.drop_of_length_le (by rw [hf, Nat.add_mul]; omega)
    have h2 : (i + 1) * z - z = i * z := by rw [Nat.add_mul]; omega
    rw [e, e2, cellsOf_drop f z hf r i, List.drop_append, hf, h1, h2, List.nil_append]

theorem cellsOf_snoc {α : Type} (f : α → List Value) (l : List α) (x : α) : cellsOf f (l ++ [x]) = cellsOf f l ++ f x := by simp [cellsOf]

/-- 'b[k:m]' of such a slice. -/
theorem Arr.window {P : Program} {N : Nat} {w : World} {a : Option Addr} {l : List Value} (h : Arr N w a l) (t e : TypeId) (z : Nat) (ht : P.underlying t = some (.slice e)) (hz : ∀ w, (Go.sizeOf e).run P w = .ok z w)
    (len cap k m : Nat) (hlen : l.length = len * z) (hk : k ≤ m) (hm : m ≤ len) (hcap : len ≤ cap) (hz0 : 0 < z) :
    ∃ a', Arr N w a' ((l.drop (k * z)).take ((m - k) * z)) ∧ ∀ W, (Instr.slice t (.slice a len cap) (some (.int .i64 (k : Int))) (some (.int .i64 (m : Int))) none).run P W = .ok (.slice a' (m - k) (cap - k)) W := by
  have ht' : P.underlying t = some (.slice (P.elem t)) := by simp [Program.elem, ht]
  have hee : P.elem t = e := by simp [Program.elem, ht]
  refine ⟨if cap = k then a else a.map (·.add (k * z)), ?_, fun W => ?_⟩
  · rcases h with h2 | ⟨b, o, ha, hN, hc⟩
    · exact .inl (by simp [h2])
    · by_cases hkl : m = k
      · subst hkl; exact .inl (by simp)
      · right
        refine ⟨b, o + k * z, ?_, hN, fun i c hi => ?_⟩
        · rw [if_neg (by omega), ha]
          by_cases h0 : k = 0
          · subst h0; simp [Addr.add]
          · have : ¬ k * z = 0 := by have := Nat.mul_pos (show 0 < k by omega) hz0; omega
            simp [Addr.add]
            exact this
        · rw [List.getElem?_take] at hi
          split at hi
          · rw [List.getElem?_drop] at hi
            rw [Nat.add_assoc]; exact hc _ _ hi
          · simp at hi
  · have := run_slice_lh (P := P) W t a len cap ht' .i64 .i64 (k : Int) (m : Int) (by omega) (by omega) (by omega)
    rw [this, hee, hz W]
    simp [Result.andThen, sliced]

theorem own_below {w w' : World} {base N : Nat} {T : TypeId} {z : Nat} {v : Value} {n : Nat} {xs : List Value} (h : w.ownsRow base T z v n xs) (hN : w.heap.size ≤ N) (hb : Below N w w') : w'.ownsRow base T z v n xs := by
  obtain ⟨h1, h2⟩ := h
  refine ⟨h1, ?_⟩
  rcases h2 with h2 | ⟨g, cap, cur, hv, hg, hh, r⟩
  · exact .inl h2
  · refine .inr ⟨g, cap, cur, hv, hg, ?_, r⟩
    rw [hb.block g (by
      by_cases hlt : g < w.heap.size
      · omega
      · rw [Array.getElem?_eq_none (by omega)] at hh; simp at hh)]
    exact hh

theorem own_slice {w : World} {base : Nat} {T : TypeId} {z : Nat} {v : Value} {n : Nat} {xs : List Value} (h : w.ownsRow base T z v n xs) : ∃ a cap, v = .slice a n cap ∧ n ≤ cap ∧ cap ≤ 9223372036854775807 ∧ Arr w.heap.size w a xs := by
  obtain ⟨h1, h2⟩ := h
  rcases h2 with ⟨hv, hn⟩ | ⟨g, cap, cur, hv, hg, hh, hnc, hcm, hcs, hcur⟩
  · subst hn
    refine ⟨none, 0, hv, by omega, by omega, .inl ?_⟩
    exact List.length_eq_zero_iff.1 (by simpa using h1)
  · refine ⟨some ⟨g, 0, none⟩, cap, hv, hnc, by unfold maxLen at hcm; omega, .inr ⟨g, 0, rfl, ?_, ?_⟩⟩
    · by_cases hlt : g < w.heap.size
      · exact hlt
      · rw [Array.getElem?_eq_none (by omega)] at hh; simp at hh
    · intro i c hi
      have e1 : (cur.toList.take (n * z))[i]? = some c := by rw [hcur]; exact hi
      rw [List.getElem?_take] at e1
      split at e1
      · simp only [World.cell?, hh, Nat.zero_add]
        simpa using e1
      · simp at e1

/-- 'append(s, x)': x has just been laid in a block of its own. -/
theorem wpList_appN {P : Program} {ops : Array Oper} {rest : List Oper} {o : Oper} {a : Act} {Q : Exit → Act → World → Prop} (hgd : o.guard = none) (s x : Operand) (t : TypeId)
    (ho : o.op = .call { callee := .builtin .append, args := #[s, x], argTypes := #[t, t] })
    (base : Nat) (e : TypeId) (i : TypeInfo) (zr : Value) (z bytes : Nat) (ht : P.underlying t = some (.slice e)) (hi : P.info? e = some i) (hz : i.zero = some zr) (hzs : zr.cells.size = z)
    (hsize : i.size = z) (hz0 : 0 < z) (hby : i.bytes = bytes) (hb100 : bytes ≤ 100)
    (v : Value) (n : Nat) (l news : List Value) (w : World) (hown : w.ownsRow base e z v n l) (hs : a.eval s = v) (cs : Array Value) (hcs : cs = news.toArray) (hl : news.length = z) (h1 : ∀ u ∈ news, u.oneCell' = true)
    (hx : a.eval x = .slice (some ⟨w.heap.size, 0, none⟩) 1 1) (hlen : n < 1000000000000) (hbase : base ≤ w.heap.size)
    (h : ∀ v' w', w'.ownsRow base e z v' (n + 1) (l ++ news) → Below base w w' → w.heap.size < w'.heap.size → wpList P ops Q rest (a.put o.dst v') w') :
    wpList P ops Q (o :: rest) a (w.alloc (.cells cs e)) := by
  subst hcs
  refine wpList_append_own (w.alloc (.cells news.toArray e)) hgd s x t ho base e i zr z bytes ht hi hz hsize hby hzs hz0 v n _ hs (World.ownsRow.alloc hown _) ⟨w.heap.size, 0, none⟩ 1 1 news hx (by rw [hl]; omega) ?_ h1 ?_ ?_ ?_ ?_
  · intro j u hj
    have e0 : (⟨w.heap.size, 0, none⟩ : Addr).add j = ⟨w.heap.size, j, none⟩ := by
      unfold Addr.add; split <;> simp_all
    rw [e0, World.cell?_alloc_at _ _ _ _ rfl]
    simpa using hj
  · unfold maxLen; omega
  · have : (n + 1) * bytes ≤ 1000000000000 * 100 := Nat.mul_le_mul (by omega) hb100
    omega
  · simp; omega
  · intro v' w' hown' hgrow _
    refine h v' w' hown' ?_ ?_
    · exact ((Below.refl base w).alloc hbase _).grown hgrow (by simp; omega) (fun j hj => (World.ownsRow.lt hown j hj).1)
    · have := hgrow.size; simp at this; omega
end Go.Proofs.YtbnddpicpomakaaDoor

/- What a call may change: footprints; blocks that are known whole; regions that draw their order and write memory of their own. -/
set_option linter.unusedSimpArgs false
set_option linter.unusedVariables false
set_option maxRecDepth 100000
namespace Go.Proofs.YtbnddpicpomakaaDoor
open Go.RowKit

/-- But for the blocks S the world w' is as w was. -/
structure Chg (S : List Nat) (w w' : World) : Prop where
  os : w'.os = w.os
  tape : w'.tape = w.tape
  output : w'.output = w.output
  size : w.heap.size ≤ w'.heap.size
  block : ∀ k, k < w.heap.size → k ∉ S → w'.heap[k]? = w.heap[k]?

/-- Of the blocks S' each is of S or new. -/
def Frsh (w : World) (S S' : List Nat) : Prop := ∀ k, k ∈ S' → k ∈ S ∨ w.heap.size ≤ k

theorem Frsh.refl (w : World) (S : List Nat) : Frsh w S S := fun _ h => .inl h
theorem Chg.refl (S : List Nat) (w : World) : Chg S w w := ⟨rfl, rfl, rfl, Nat.le_refl _, fun _ _ _ => rfl⟩
theorem Chg.trans' {S S1 : List Nat} {a b c : World} (h : Chg S a b) (f : Frsh a S S1) (k : Chg S1 b c) : Chg S a c :=
  ⟨k.os.trans h.os, k.tape.trans h.tape, k.output.trans h.output, Nat.le_trans h.size k.size, fun i hi hn => (k.block i (Nat.lt_of_lt_of_le hi h.size) (fun hm => by rcases f i hm with h1 | h1; exact hn h1; omega)).trans (h.block i hi hn)⟩
theorem Chg.trans {S : List Nat} {a b c : World} (h : Chg S a b) (k : Chg S b c) : Chg S a c := h.trans' (Frsh.refl _ _) k
theorem Frsh.trans {S S1 S2 : List Nat} {a b : World} (f : Frsh a S S1) (h : a.heap.size ≤ b.heap.size) (g : Frsh b S1 S2) : Frsh a S S2 := fun k hk => by
  rcases g k hk with h1 | h1
  · exact f k h1
  · exact .inr (by omega)
theorem Frsh.sub {w : World} {S S' : List Nat} (h : ∀ k ∈ S', k ∈ S) : Frsh w S S' := fun k hk => .inl (h k hk)
theorem Chg.sub {S T : List Nat} {a b : World} (h : Chg S a b) (hs : ∀ k ∈ S, k ∈ T) : Chg T a b := ⟨h.os, h.tape, h.output, h.size, fun k hk hn => h.block k hk (fun hm => hn (hs k hm))⟩
theorem Chg.drew {S : List Nat} {a w : World} (h : Chg S a w) : Chg S a w.drew := ⟨h.os, h.tape, h.output, h.size, h.block⟩
theorem Chg.undrew {S : List Nat} {a w : World} (h : Chg S a.drew w) : Chg S a w := ⟨h.os, h.tape, h.output, h.size, h.block⟩
theorem Chg.alloc {S : List Nat} {a w : World} (h : Chg S a w) (o : Obj) : Chg S a (w.alloc o) :=
  h.trans ⟨rfl, rfl, rfl, by simp, fun k hk _ => Below.heap_alloc _ _ _ hk⟩
theorem Chg.setCell {S : List Nat} {a w : World} (h : Chg S a w) {b o : Nat} (hb : b ∈ S ∨ a.heap.size ≤ b) (u : Value) : Chg S a (w.setCell ⟨b, o, none⟩ u) :=
  ⟨h.os, h.tape, h.output, by simpa [World.setCell] using h.size, fun k hk hn => (Below.heap_setCell w ⟨b, o, none⟩ u k (fun e => by
    have e' : k = b := e
    rcases hb with hb | hb
    · exact hn (e' ▸ hb)
    · omega)).trans (h.block k hk hn)⟩
theorem Below.chg {N : Nat} {w w' : World} (h : Below N w w') {S : List Nat} (hN : ∀ k, N ≤ k → k < w.heap.size → k ∈ S) : Chg S w w' :=
  ⟨h.os, h.tape, h.output, h.size, fun k hk hn => h.block k (by
    rcases Nat.lt_or_ge k N with h1 | h1
    · exact h1
    · exact absurd (hN k h1 hk) hn)⟩
theorem Below.chg0 {w w' : World} (h : Below w.heap.size w w') (S : List Nat) : Chg S w w' := Below.chg h fun k h1 h2 => absurd h2 (by omega)
theorem Chg.below {S : List Nat} {w w' : World} (h : Chg S w w') {N : Nat} (hN : N ≤ w.heap.size) (hS : ∀ k ∈ S, N ≤ k) : Below N w w' :=
  ⟨h.os, h.tape, h.output, h.size, fun k hk => h.block k (by omega) (fun hm => by have := hS k hm; omega)⟩
theorem Chg.cell {S : List Nat} {w w' : World} (h : Chg S w w') {b o : Nat} (hb : b < w.heap.size) (hn : b ∉ S) : w'.cell? ⟨b, o, none⟩ = w.cell? ⟨b, o, none⟩ :=
  World.cell?_of_block (w := w) (a := ⟨b, o, none⟩) (h.block b hb hn)
theorem Chg.frozen {S : List Nat} {w w' : World} (h : Chg S w w') {b o : Nat} (hb : b < w.heap.size) (hn : b ∉ S) : w'.frozen? ⟨b, o, none⟩ = w.frozen? ⟨b, o, none⟩ :=
  World.frozen?_of_block (w := w) (a := ⟨b, o, none⟩) (h.block b hb hn)

/-- Block g is just these cells. -/
def Blk (w : World) (g : Nat) (t : TypeId) (cs : Array Value) : Prop := w.heap[g]? = some (.cells cs t (0, 0))
section
variable {w w' : World} {g : Nat} {t : TypeId} {cs : Array Value}
theorem Blk.lt (h : Blk w g t cs) : g < w.heap.size := by
  rcases Nat.lt_or_ge g w.heap.size with hlt | hge
  · exact hlt
  · unfold Blk at h; rw [Array.getElem?_eq_none hge] at h; cases h
theorem Blk.cell (h : Blk w g t cs) (i : Nat) : w.cell? ⟨g, i, none⟩ = cs[i]? := cell_of_row w g i cs t (0, 0) h
theorem Blk.frozen (h : Blk w g t cs) (i : Nat) : w.frozen? ⟨g, i, none⟩ = false := frozen_of_row w g i cs t h
theorem Blk.new (w : World) (t : TypeId) (cs : Array Value) : Blk (w.alloc (.cells cs t)) w.heap.size t cs := heap_alloc_new w _
theorem Blk.drew (h : Blk w g t cs) : Blk w.drew g t cs := h
theorem Blk.alloc (h : Blk w g t cs) (o : Obj) : Blk (w.alloc o) g t cs := (Below.heap_alloc w o g h.lt).trans h
theorem Blk.set_ (h : Blk w g t cs) (i : Nat) (u : Value) : Blk (w.setCell ⟨g, i, none⟩ u) g t (cs.setIfInBounds i u) := by
  unfold Blk at h ⊢
  simp [World.setCell, Array.getElem?_modify, h]
theorem Blk.far (h : Blk w g t cs) {b o : Nat} (hp : g ≠ b) (u : Value) : Blk (w.setCell ⟨b, o, none⟩ u) g t cs := (Below.heap_setCell w ⟨b, o, none⟩ u g hp).trans h
theorem Blk.chg {S : List Nat} (h : Blk w g t cs) (hc : Chg S w w') (hn : g ∉ S) : Blk w' g t cs := (hc.block g h.lt hn).trans h
theorem Blk.ne_ {g' : Nat} {t' : TypeId} {cs' : Array Value} (h : Blk w g t cs) (h' : Blk w g' t' cs') (hne : t ≠ t') : g ≠ g' := by
  rintro rfl
  unfold Blk at h h'
  rw [h] at h'
  injection h' with h'
  injection h' with _ ht
  exact hne ht
end

/-- Block g is a map with these entries. -/
def MapB (w : World) (g : Nat) (es : Array MapEntry) (clk : Nat) : Prop := w.heap[g]? = some (.map es clk)
theorem MapB.lt {w : World} {g clk : Nat} {es : Array MapEntry} (h : MapB w g es clk) : g < w.heap.size := by
  rcases Nat.lt_or_ge g w.heap.size with hlt | hge
  · exact hlt
  · unfold MapB at h; rw [Array.getElem?_eq_none hge] at h; cases h
theorem MapB.ne_blk {w : World} {g clk g' : Nat} {es : Array MapEntry} {t : TypeId} {cs : Array Value} (h : MapB w g es clk) (h' : Blk w g' t cs) : g ≠ g' := by
  rintro rfl
  unfold MapB at h; unfold Blk at h'
  rw [h] at h'
  injection h' with h'
  cases h'
theorem MapB.chg {S : List Nat} {w w' : World} {g clk : Nat} {es : Array MapEntry} (h : MapB w g es clk) (hc : Chg S w w') (hn : g ∉ S) : MapB w' g es clk := (hc.block g h.lt hn).trans h
theorem MapB.setCell {w : World} {g clk b o : Nat} {es : Array MapEntry} (h : MapB w g es clk) (u : Value) : MapB (w.setCell ⟨b, o, none⟩ u) g es clk := by
  unfold MapB at h ⊢
  simp only [World.setCell, Array.getElem?_modify]
  split
  · rw [h]; rfl
  · exact h

/-- The world with another object in block g. -/
def putObj (w : World) (g : Nat) (o : Obj) : World := { w with heap := w.heap.setIfInBounds g o }
theorem putObj_size (w : World) (g : Nat) (o : Obj) : (putObj w g o).heap.size = w.heap.size := by simp [putObj]
theorem putObj_same {w : World} {g : Nat} (o : Obj) (h : g < w.heap.size) : (putObj w g o).heap[g]? = some o := by
  simp [putObj, h]
theorem putObj_other (w : World) (g k : Nat) (o : Obj) (h : k ≠ g) : (putObj w g o).heap[k]? = w.heap[k]? := by
  simp only [putObj]
  rw [Array.getElem?_setIfInBounds_ne (by omega)]
theorem Chg.putObj {S : List Nat} {a w : World} (h : Chg S a w) {g : Nat} (hg : g ∈ S ∨ a.heap.size ≤ g) (o : Obj) : Chg S a (putObj w g o) :=
  ⟨h.os, h.tape, h.output, by rw [putObj_size]; exact h.size, fun k hk hn => (putObj_other w g k o (fun e => by
    subst e
    rcases hg with hb | hb
    · exact hn hb
    · omega)).trans (h.block k hk hn)⟩

/-! A region that draws its order and has a last operation of its own that waits for all others. -/
section
variable {P : Program} {ops : Array Oper} {Q : Exit → Act → World → Prop} {md : Region.Mode}

/-- Whatever order is picked; S holds behind each operation but number x. -/
def wpAnyX (P : Program) (md : Region.Mode) (ops : Array Oper) (Q : Exit → Act → World → Prop) (x : Nat) (S : World → Prop) : Nat → Array Bool → Act → World → Prop
  | 0, l, a, w => Region.ready md ops l = [] ∧ Q .normal a w
  | n + 1, l, a, w => (Region.ready md ops l = [] → Q .normal a w) ∧
      ∀ i, i ∈ Region.ready md ops l → wpOp P ops Q i (fun a' w' => (i ≠ x → S w') ∧ wpAnyX P md ops Q x S n (l.setIfInBounds i true) a' w') a w

theorem wpAny_of_X {x : Nat} {S : World → Prop} : ∀ (n : Nat) (l : Array Bool) (a : Act) (w : World), wpAnyX P md ops Q x S n l a w → wpAny P md ops Q n l a w
  | 0, _, _, _, h => h
  | n + 1, _, _, _, h => ⟨h.1, fun i hi => wpOp_mono (fun a' w' h' => wpAny_of_X n _ a' w' h'.2) (h.2 i hi)⟩

/-- Does operation x wait for operation i, be it through others? -/
def waitsN (md : Region.Mode) (ops : Array Oper) (i : Nat) : Nat → Nat → Bool
  | 0, _ => false
  | n + 1, x => match ops[x]? with
    | some ox => ox.after.any fun e => Region.binds md e && (e.on == i || waitsN md ops i n e.on)
    | none => false

/-- What has come up had all that it waits for come up before it. -/
def Closed (md : Region.Mode) (ops : Array Oper) (l : Array Bool) : Prop :=
  ∀ (k : Nat) (ok : Oper), ops[k]? = some ok → l.getD k false = true → ∀ e, e ∈ ok.after → Region.binds md e = true → l.getD e.on false = true

theorem Closed.waits {l : Array Bool} (hc : Closed md ops l) {i : Nat} : ∀ (n x : Nat) (ox : Oper), ops[x]? = some ox → (∀ e, e ∈ ox.after → Region.binds md e = true → l.getD e.on false = true) → waitsN md ops i n x = true → l.getD i false = true
  | 0, _, _, _, _, h => by simp [waitsN] at h
  | n + 1, x, ox, ho, hd, h => by
    unfold waitsN at h
    rw [ho] at h
    simp only [Array.any_eq_true', Bool.and_eq_true, Bool.or_eq_true, beq_iff_eq] at h
    obtain ⟨e, he, hb, h⟩ := h
    rcases h with h | h
    · rw [← h]; exact hd e he hb
    · have hl := hd e he hb
      cases hy : ops[e.on]? with
      | none =>
        cases n with
        | zero => simp [waitsN] at h
        | succ n => unfold waitsN at h; rw [hy] at h; cases h
      | some oy => exact Closed.waits hc n e.on oy hy (hc e.on oy hy hl) h

theorem Closed.set_ {l : Array Bool} (hc : Closed md ops l) {j : Nat} (hj : j ∈ Region.ready md ops l) : Closed md ops (l.setIfInBounds j true) := by
  intro k ok hk hl e he hb
  obtain ⟨hjun, oj, hoj, hall⟩ := mem_ready.1 hj
  by_cases hkj : j = k
  · subst hkj
    rw [hk] at hoj
    obtain rfl := Option.some.inj hoj
    exact getD_set_true (hall e he hb)
  · rw [getD_set_ne false hkj] at hl
    exact getD_set_true (hc k ok hk hl e he hb)

theorem closed_none (n : Nat) : Closed md ops (Array.replicate n false) := by
  intro k ok _ hl
  exfalso
  rw [Array.getD_eq_getD_getElem?, Array.getElem?_replicate] at hl
  split at hl <;> simp at hl

theorem wpAnyX_first {x i : Nat} {S : World → Prop} {oi : Oper} {v : Value} (hi : ops[i]? = some oi) (hsel : ∀ (j : Nat) (o : Oper) cs b, ops[j]? = some o → o.op ≠ .select cs b)
    (hQ : ∀ c (a : Act) w, Q (.panic c) (a.put oi.dst v) w → Q (.panic c) a w) (hix : i ≠ x) (m : Nat) (hxi : waitsN md ops i m x = true) :
    ∀ (n : Nat) (l : Array Bool) (a : Act) (w : World), Closed md ops l →
      (∀ j oj, ops[j]? = some oj → j ≠ i → l.getD j true = false → (∀ e ∈ oj.after, Region.binds md e = true → e.on ≠ i) → oi.apart ops oj = true) →
      i ∈ Region.ready md ops l → YieldsIf P ops S oi v a → S w →
      wpAnyX P md ops Q x S n (l.setIfInBounds i true) (a.put oi.dst v) w → wpAnyX P md ops Q x S (n + 1) l a w
  | n, l, a, w, hcl, hfree, hr, hy, hS, H => by
    refine ⟨fun h => absurd hr (by rw [h]; simp), fun j hj => ?_⟩
    by_cases hji : j = i
    · subst hji
      exact hy.wpOp hi hS ⟨fun _ => hS, H⟩
    obtain ⟨hjun, oj, hoj, hall⟩ := mem_ready.1 hj
    have hnot : ∀ e ∈ oj.after, Region.binds md e = true → e.on ≠ i := by
      intro e he hb heq
      have h1 := hall e he hb
      have h0 := (mem_ready.1 hr).1
      rw [heq] at h1
      by_cases hlt : i < l.size
      · simp [hlt] at h0 h1
        rw [h0] at h1
        cases h1
      · simp [Array.getElem?_eq_none (Nat.le_of_not_lt hlt)] at h1
    have hjx : j ≠ x := by
      rintro rfl
      have h1 := hcl.waits m j oj hoj hall hxi
      have h0 := (mem_ready.1 hr).1
      by_cases hlt : i < l.size
      · simp [hlt] at h0 h1
        rw [h0] at h1
        cases h1
      · simp [Array.getElem?_eq_none (Nat.le_of_not_lt hlt)] at h1
    match n, H with
    | 0, H =>
      have := ready_mono hj hji
      rw [H.1] at this
      cases this
    | n + 1, H =>
      have h1 := H.2 j (ready_mono hj hji)
      have h2 := wpOp_putIf hoj (hfree j oj hoj hji hjun hnot) (fun cs b => hsel i oi cs b hi) (fun cs b => hsel j oj cs b hoj) hQ hy h1
      refine wpOp_mono (fun a' w' h3 => ⟨fun _ => h3.2.1 hjx, ?_⟩) h2
      refine wpAnyX_first hi hsel hQ hix m hxi n _ a' w' (hcl.set_ hj) ?_ (ready_mono hr (Ne.symm hji)) h3.1 (h3.2.1 hjx) ?_
      · intro k ok hk hki hun hno
        refine hfree k ok hk hki ?_ hno
        by_cases hjk : j = k
        · subst hjk; exact hjun
        · rw [getD_set_ne true hjk] at hun; exact hun
      · rw [Array.setIfInBounds_comm _ _ hji]
        exact h3.2.2

theorem wpAnyX_stronger {x : Nat} {S S' : World → Prop} (hS : ∀ w, S' w → S w) : ∀ (n : Nat) (l : Array Bool) (a : Act) (w : World), wpAnyX P md ops Q x S' n l a w → wpAnyX P md ops Q x S n l a w
  | 0, _, _, _, h => h
  | n + 1, _, _, _, h => ⟨h.1, fun i hi => wpOp_mono (fun _ _ h' => ⟨fun hx => hS _ (h'.1 hx), wpAnyX_stronger hS n _ _ _ h'.2⟩) (h.2 i hi)⟩

/-- An order for such a region: at its end comes operation x. -/
def wpOX (P : Program) (ops : Array Oper) (Q : Exit → Act → World → Prop) (L : World → World → Prop) (x : Nat) : List (Nat × Bool) → Act → World → Prop
  | [], a, w => wpOp P ops Q x (fun a' w' => Q .normal a' w') a w
  | (i, true) :: r, a, w => ∃ o v, ops[i]? = some o ∧ YieldsIf P ops (L w) o v a ∧ wpOX P ops Q L x r (a.put o.dst v) w
  | (i, false) :: r, a, w => wpOp P ops Q i (fun a' w' => L w w' ∧ wpOX P ops Q L x r a' w') a w

def waitsB (md : Region.Mode) (ops : Array Oper) (x i : Nat) : Bool := i != x && waitsN md ops i ops.size x

def checkX (md : Region.Mode) (ops : Array Oper) (x : Nat) : List (Nat × Bool) → Array Bool → Bool
  | [], l => Region.ready md ops l == [x] && Region.ready md ops (l.setIfInBounds x true) == []
  | (i, true) :: r, l => waitsB md ops x i && (Region.free md ops l i && (Region.ready md ops l).contains i && checkX md ops x r (l.setIfInBounds i true))
  | (i, false) :: r, l => i != x && Region.ready md ops l == [i] && checkX md ops x r (l.setIfInBounds i true)

theorem wpOX_sound {L : World → World → Prop} {x : Nat} (Lr : ∀ w, L w w) (Lt : ∀ {a b c}, L a b → L b c → L a c) (hs : Region.noSelect ops = true) (hQ : ∀ c (a : Act) d v w, Q (.panic c) (a.put d v) w → Q (.panic c) a w) :
    ∀ (ord : List (Nat × Bool)) (n : Nat) (l : Array Bool) (a : Act) (w : World), ord.length + 1 ≤ n → Closed md ops l → checkX md ops x ord l = true → wpOX P ops Q L x ord a w → wpAnyX P md ops Q x (L w) n l a w
  | [], n, l, a, w, hn, hcl, hc, h => by
    simp only [checkX, Bool.and_eq_true, beq_iff_eq] at hc
    match n, hn with
    | n + 1, _ =>
      refine ⟨fun h0 => absurd hc.1 (by rw [h0]; simp), fun j hj => ?_⟩
      rw [hc.1] at hj
      obtain rfl := List.mem_singleton.1 hj
      refine wpOp_mono (fun a' w' h' => ⟨fun hx => absurd rfl hx, ?_⟩) h
      cases n with
      | zero => exact ⟨hc.2, h'⟩
      | succ n => exact ⟨fun _ => h', fun k hk => absurd hk (by rw [hc.2]; simp)⟩
  | (i, true) :: r, n, l, a, w, hn, hcl, hc, h => by
    obtain ⟨o, v, ho, hy, h⟩ := h
    simp only [checkX, Bool.and_eq_true] at hc
    have hri : i ∈ Region.ready md ops l := by simpa using hc.2.1.2
    match n, hn with
    | n + 1, hn =>
      have hw := hc.1
      unfold waitsB at hw
      simp only [Bool.and_eq_true, bne_iff_ne, ne_eq] at hw
      exact wpAnyX_first ho (Region.noSelect_spec hs) (fun c a w => hQ c a o.dst v w) hw.1 ops.size hw.2 n l a w hcl (Region.free_spec ho hc.2.1.1) hri hy (Lr w) (wpOX_sound Lr Lt hs hQ r n _ _ w (by simpa using hn) (hcl.set_ hri) hc.2.2 h)
  | (i, false) :: r, n, l, a, w, hn, hcl, hc, h => by
    simp only [checkX, Bool.and_eq_true, beq_iff_eq, bne_iff_ne, ne_eq] at hc
    match n, hn with
    | n + 1, hn =>
      refine ⟨fun h0 => absurd hc.1.2 (by rw [h0]; simp), fun j hj => ?_⟩
      rw [hc.1.2] at hj
      obtain rfl := List.mem_singleton.1 hj
      exact wpOp_mono (fun a' w' h' => ⟨fun _ => h'.1, wpAnyX_stronger (fun y hy => Lt h'.1 hy) n _ _ _ (wpOX_sound Lr Lt hs hQ r n _ a' w' (by simpa using hn) (hcl.set_ (by rw [hc.1.2]; simp)) hc.2 h'.2)⟩) h

/-- The beginning, where blocks S may be written, the last operation apart. -/
theorem wp_region_ordX {id : Nat} {a : Act} {w : World} (S : List Nat) (x : Nat) (ord : List (Nat × Bool)) (hm : P.follows .mixedOrders = true) (hs : Region.noSelect ops = true)
    (hl : decide (ord.length + 1 ≤ ops.size) = true) (hc : checkX .any ops x ord (Array.replicate ops.size false) = true) (h : wpOX P ops (NoPanic Q) (Chg S) x ord a w.drew) : (Code.region id ops true).wp P Q a w :=
  wp_region_noPanic (wp_region_any hm (wpAny_of_X _ _ _ _ (wpOX_sound (Chg.refl S) Chg.trans hs (NoPanic.put Q) ord ops.size _ a w.drew (of_decide_eq_true hl) (closed_none _) hc h)))

/-- The beginning, where blocks S may be written. -/
theorem wp_region_ordS {id : Nat} {a : Act} {w : World} (S : List Nat) (ord : List (Nat × Bool)) (hm : P.follows .mixedOrders = true) (hs : Region.noSelect ops = true)
    (hl : decide (ord.length ≤ ops.size) = true) (hc : checkO .any ops ord (Array.replicate ops.size false) = true) (h : wpO P ops (NoPanic Q) (Chg S) ord a w.drew) : (Code.region id ops true).wp P Q a w :=
  wp_region_noPanic (wp_region_held hm (wpO_sound (Chg.refl S) Chg.trans hs (NoPanic.put Q) ord ops.size _ a w.drew (of_decide_eq_true hl) hc h))

variable {L : World → World → Prop}
theorem wpOX_F {x i : Nat} {r : List (Nat × Bool)} {a : Act} {w : World} {o : Oper} {v : Value} (ho : nth ops.toList i = some o) (hw : Region.wanted o (yielded ops a.tmps) = true)
    (hv : ∀ w', L w w' → (execOp a.eval o).run P w' = .ok (.value v) w') (h : wpOX P ops Q L x r (a.put o.dst v) w) : wpOX P ops Q L x ((i, true) :: r) a w :=
  ⟨o, v, nth_ops ho, .inl ⟨hw, hv⟩, h⟩
theorem wpOX_G (Lr : ∀ w, L w w) {x i : Nat} {b : Bool} {r : List (Nat × Bool)} {a : Act} {w : World} {o : Oper} (ho : nth ops.toList i = some o) (hw : Region.wanted o (yielded ops a.tmps) = false)
    (h : wpOX P ops Q L x r (a.put o.dst undef) w) : wpOX P ops Q L x ((i, b) :: r) a w := by
  cases b with
  | true => exact ⟨o, undef, nth_ops ho, .inr ⟨hw, rfl⟩, h⟩
  | false =>
    show wpOp P ops Q i _ a w
    unfold wpOp
    simp only [nth_ops ho, hw]
    exact ⟨Lr w, h⟩
theorem wpOX_C {x i : Nat} {r : List (Nat × Bool)} {a : Act} {w : World} {o : Oper} (ho : nth ops.toList i = some o) (hw : Region.wanted o (yielded ops a.tmps) = true)
    (h : o.wp P a w (fun a' w' => L w w' ∧ wpOX P ops Q L x r a' w') Q) : wpOX P ops Q L x ((i, false) :: r) a w := by
  show wpOp P ops Q i _ a w
  unfold wpOp
  simp only [nth_ops ho, hw]
  exact .inl h
theorem wpOX_end {x : Nat} {a : Act} {w : World} {o : Oper} (ho : nth ops.toList x = some o) (hw : Region.wanted o (yielded ops a.tmps) = true)
    (h : o.wp P a w (fun a' w' => Q .normal a' w') Q) : wpOX P ops Q L x [] a w := by
  show wpOp P ops Q x _ a w
  unfold wpOp
  simp only [nth_ops ho, hw]
  exact .inl h
end
attribute [irreducible] wpOX
end Go.Proofs.YtbnddpicpomakaaDoor

/- 'append(s, t...)' of a row of the call's own and any slice, nil or not. -/
set_option linter.unusedSimpArgs false
set_option linter.unusedVariables false
set_option maxRecDepth 100000
namespace Go.Proofs.YtbnddpicpomakaaDoor
open Go.RowKit

section
variable {P : Program}

theorem run_appNil (w : World) (base : Nat) (t ty e : TypeId) (i : TypeInfo) (z : Nat) (ht : P.underlying t = some (.slice e)) (hi : P.info? e = some i)
    (v : Value) (n : Nat) (l : List Value) (hown : w.ownsRow base e z v n l) (c : Nat) : (Builtin.append_ #[t, t] ty #[v, .slice none 0 c]).run P w = .ok v w := by
  obtain ⟨_, h⟩ := hown
  rcases h with ⟨rfl, _⟩ | ⟨g, cap, cur, rfl, _, _, hnc, _⟩ <;> simp [Builtin.append_, run_underlying ht, sizeOf, typeInfo, hi, Builtin.lenOf, Builtin.firstCells, storeCells, *]

theorem run_appS (w : World) (base : Nat) (t ty e : TypeId) (i : TypeInfo) (zr : Value) (z bytes : Nat) (ht : P.underlying t = some (.slice e)) (hi : P.info? e = some i) (hz : i.zero = some zr) (hzs : zr.cells.size = z)
    (hsize : i.size = z) (hz0 : 0 < z) (hby : i.bytes = bytes) (hb100 : bytes ≤ 100)
    (v : Value) (n : Nat) (l : List Value) (hown : w.ownsRow base e z v n l) (N : Nat) (A : Option Addr) (m c : Nat) (news : List Value) (hA : Arr N w A news) (hl : news.length = m * z) (h1 : ∀ u ∈ news, u.oneCell' = true)
    (hlen : n + m < 1000000000000) (hbase : base ≤ w.heap.size) :
    ∃ v' w', (Builtin.append_ #[t, t] ty #[v, .slice A m c]).run P w = .ok v' w' ∧ w'.ownsRow base e z v' (n + m) (l ++ news) ∧ w.grownBy w' v.ownBlock := by
  have hby2 : (n + m) * bytes ≤ 140737488355328 := by
    have : (n + m) * bytes ≤ 1000000000000 * 100 := Nat.mul_le_mul (by omega) hb100
    omega
  cases A with
  | none =>
    have hn : news = [] := by
      rcases hA with h | ⟨b, o, h, _⟩
      · exact h
      · cases h
    subst hn
    have hm : m = 0 := by
      rcases Nat.eq_zero_or_pos m with h0 | h0
      · exact h0
      · have := Nat.mul_pos h0 hz0
        simp at hl; omega
    subst hm
    exact ⟨v, w, run_appNil w base t ty e i z ht hi v n l hown c, by simpa using hown, World.grownBy.refl w _⟩
  | some ad =>
    obtain ⟨v', w', h2, h3, h4, _⟩ := run_append_own (P := P) w base t ty e i zr z bytes ht hi hz hsize hby hzs hz0 v n l hown ad m c news hl (fun j u hu => by
      rcases hA with h | ⟨b, o, h, _, hc⟩
      · rw [h] at hu; simp at hu
      · simp only [Option.some.injEq] at h
        subst h
        have e1 : (⟨b, o, none⟩ : Addr).add j = ⟨b, o + j, none⟩ := by unfold Addr.add; split <;> simp_all
        rw [e1]; exact hc j u hu) h1 (by unfold maxLen; omega) hby2 hbase
    exact ⟨v', w', h2, h3, h4⟩

theorem wp_appS {o : Oper} {a : Act} {K : Act → World → Prop} {Q : Exit → Act → World → Prop} (s x : Operand) (t : TypeId)
    (ho : o.op = .call { callee := .builtin .append, args := #[s, x], argTypes := #[t, t] })
    (base : Nat) (e : TypeId) (i : TypeInfo) (zr : Value) (z bytes : Nat) (ht : P.underlying t = some (.slice e)) (hi : P.info? e = some i) (hz : i.zero = some zr) (hzs : zr.cells.size = z)
    (hsize : i.size = z) (hz0 : 0 < z) (hby : i.bytes = bytes) (hb100 : bytes ≤ 100)
    (v : Value) (n : Nat) (l : List Value) (w : World) (hown : w.ownsRow base e z v n l) (hs : a.eval s = v) (N : Nat) (A : Option Addr) (m c : Nat) (news : List Value) (hA : Arr N w A news) (hl : news.length = m * z) (h1 : ∀ u ∈ news, u.oneCell' = true)
    (hx : a.eval x = .slice A m c) (hlen : n + m < 1000000000000) (hbase : base ≤ w.heap.size)
    (h : ∀ v' w', w'.ownsRow base e z v' (n + m) (l ++ news) → Chg v.ownBlock.toList w w' → Below base w w' → K (a.put o.dst v') w') :
    o.wp P a w K Q := by
  obtain ⟨v', w', hrun, h2, h3⟩ := run_appS (P := P) w base t o.type e i zr z bytes ht hi hz hzs hsize hz0 hby hb100 v n l hown N A m c news hA hl h1 hlen hbase
  unfold Oper.wp execOp
  simp only [ho, resolve, invoke, builtin, Sem.run_bind, Sem.run_pure, Result.andThen_ok, List.map_toArray, List.map_cons, List.map_nil, hs, hx, hrun]
  refine h v' w' h2 ⟨h3.os, h3.tape, h3.output, h3.size, fun k hk hn => h3.block k hk (by intro he; apply hn; rw [Option.mem_toList]; exact he.symm)⟩ ?_
  exact (Below.refl base w).grown h3 hbase (fun j hj => (hown.lt j hj).1)

theorem wpList_appS {ops : Array Oper} {rest : List Oper} {o : Oper} {a : Act} {Q : Exit → Act → World → Prop} (hgd : o.guard = none) (s x : Operand) (t : TypeId)
    (ho : o.op = .call { callee := .builtin .append, args := #[s, x], argTypes := #[t, t] })
    (base : Nat) (e : TypeId) (i : TypeInfo) (zr : Value) (z bytes : Nat) (ht : P.underlying t = some (.slice e)) (hi : P.info? e = some i) (hz : i.zero = some zr) (hzs : zr.cells.size = z)
    (hsize : i.size = z) (hz0 : 0 < z) (hby : i.bytes = bytes) (hb100 : bytes ≤ 100)
    (v : Value) (n : Nat) (l : List Value) (w : World) (hown : w.ownsRow base e z v n l) (hs : a.eval s = v) (N : Nat) (A : Option Addr) (m c : Nat) (news : List Value) (hA : Arr N w A news) (hl : news.length = m * z) (h1 : ∀ u ∈ news, u.oneCell' = true)
    (hx : a.eval x = .slice A m c) (hlen : n + m < 1000000000000) (hbase : base ≤ w.heap.size)
    (h : ∀ v' w', w'.ownsRow base e z v' (n + m) (l ++ news) → Chg v.ownBlock.toList w w' → Below base w w' → wpList P ops Q rest (a.put o.dst v') w') :
    wpList P ops Q (o :: rest) a w :=
  wpList_plain hgd fun _ hK => wp_appS s x t ho base e i zr z bytes ht hi hz hzs hsize hz0 hby hb100 v n l w hown hs N A m c news hA hl h1 hx hlen hbase fun v' w' h2 h3 h4 => hK _ _ (h v' w' h2 h3 h4)
end

/-- The cells of bytes. -/
def cellsU (l : List Nat) : List Value := l.map fun (c : Nat) => Value.int .u8 (c : Int)
theorem cellsU_len (l : List Nat) : (cellsU l).length = l.length * 1 := by simp [cellsU]
theorem one_B (l : List Nat) : ∀ u ∈ cellsU l, u.oneCell' = true := by
  intro u hu
  obtain ⟨c, _, rfl⟩ := List.mem_map.1 hu
  rfl
theorem Bs.arr {N : Nat} {w : World} {a : Option Addr} {l : List Nat} (h : Bs N w a l) : Arr N w a (cellsU l) := by
  rcases h.2 with h2 | ⟨b, o, ha, hN, hc⟩
  · exact .inl (by rw [h2]; rfl)
  · refine .inr ⟨b, o, ha, hN, fun i v hi => ?_⟩
    unfold cellsU at hi
    rw [List.getElem?_map] at hi
    cases hl : l[i]? with
    | none => rw [hl] at hi; simp at hi
    | some c => rw [hl] at hi; simp at hi; subst hi; exact hc i c hl
theorem Arr.bs {N : Nat} {w : World} {a : Option Addr} {l : List Nat} (h : Arr N w a (cellsU l)) (hl : ∀ c ∈ l, c < 256) : Bs N w a l := by
  refine ⟨hl, ?_⟩
  rcases h with h2 | ⟨b, o, ha, hN, hc⟩
  · left
    cases l with
    | nil => rfl
    | cons x r => simp [cellsU] at h2
  · exact .inr ⟨b, o, ha, hN, fun i c hi => hc i _ (by unfold cellsU; rw [List.getElem?_map, hi]; rfl)⟩
/-- 'append(s, x)', x just laid in a block of its own: one operation. -/
theorem wp_appC {P : Program} {o : Oper} {a : Act} {K : Act → World → Prop} {Q : Exit → Act → World → Prop} (s x : Operand) (t : TypeId)
    (ho : o.op = .call { callee := .builtin .append, args := #[s, x], argTypes := #[t, t] })
    (base : Nat) (e : TypeId) (i : TypeInfo) (zr : Value) (z bytes : Nat) (ht : P.underlying t = some (.slice e)) (hi : P.info? e = some i) (hz : i.zero = some zr) (hzs : zr.cells.size = z)
    (hsize : i.size = z) (hz0 : 0 < z) (hby : i.bytes = bytes) (hb100 : bytes ≤ 100)
    (v : Value) (n : Nat) (l news : List Value) (w : World) (hown : w.ownsRow base e z v n l) (hs : a.eval s = v) (cs : Array Value) (hcs : cs = news.toArray) (hl : news.length = z) (h1 : ∀ u ∈ news, u.oneCell' = true)
    (hx : a.eval x = .slice (some ⟨w.heap.size, 0, none⟩) 1 1) (hlen : n < 1000000000000) (hbase : base ≤ w.heap.size)
    (h : ∀ v' w', w'.ownsRow base e z v' (n + 1) (l ++ news) → Chg v.ownBlock.toList (w.alloc (.cells cs e)) w' → w.heap.size < w'.heap.size → K (a.put o.dst v') w') :
    o.wp P a (w.alloc (.cells cs e)) K Q := by
  subst hcs
  refine wp_append_own (w.alloc (.cells news.toArray e)) s x t ho base e i zr z bytes ht hi hz hsize hby hzs hz0 v n _ hs (World.ownsRow.alloc hown _) ⟨w.heap.size, 0, none⟩ 1 1 news hx (by rw [hl]; omega) ?_ h1 ?_ ?_ ?_ ?_
  · intro j u hj
    have e0 : (⟨w.heap.size, 0, none⟩ : Addr).add j = ⟨w.heap.size, j, none⟩ := by
      unfold Addr.add; split <;> simp_all
    rw [e0, World.cell?_alloc_at _ _ _ _ rfl]
    simpa using hj
  · unfold maxLen; omega
  · have : (n + 1) * bytes ≤ 1000000000000 * 100 := Nat.mul_le_mul (by omega) hb100
    omega
  · simp; omega
  · intro v' w' hown' hgrow _
    have hsz := hgrow.size
    refine h v' w' hown' ⟨hgrow.os, hgrow.tape, hgrow.output, hsz, fun k hk hn => ?_⟩ (by simp at hsz; omega)
    exact hgrow.block k hk (by intro he; apply hn; rw [Option.mem_toList]; exact he.symm)
/-- The same in a list of operations. -/
theorem wpList_appC {P : Program} {ops : Array Oper} {rest : List Oper} {o : Oper} {a : Act} {Q : Exit → Act → World → Prop} (hgd : o.guard = none) (s x : Operand) (t : TypeId)
    (ho : o.op = .call { callee := .builtin .append, args := #[s, x], argTypes := #[t, t] })
    (base : Nat) (e : TypeId) (i : TypeInfo) (zr : Value) (z bytes : Nat) (ht : P.underlying t = some (.slice e)) (hi : P.info? e = some i) (hz : i.zero = some zr) (hzs : zr.cells.size = z)
    (hsize : i.size = z) (hz0 : 0 < z) (hby : i.bytes = bytes) (hb100 : bytes ≤ 100)
    (v : Value) (n : Nat) (l news : List Value) (w : World) (hown : w.ownsRow base e z v n l) (hs : a.eval s = v) (cs : Array Value) (hcs : cs = news.toArray) (hl : news.length = z) (h1 : ∀ u ∈ news, u.oneCell' = true)
    (hx : a.eval x = .slice (some ⟨w.heap.size, 0, none⟩) 1 1) (hlen : n < 1000000000000) (hbase : base ≤ w.heap.size)
    (h : ∀ v' w', w'.ownsRow base e z v' (n + 1) (l ++ news) → Chg v.ownBlock.toList (w.alloc (.cells cs e)) w' → w.heap.size < w'.heap.size → wpList P ops Q rest (a.put o.dst v') w') :
    wpList P ops Q (o :: rest) a (w.alloc (.cells cs e)) :=
  wpList_plain hgd fun _ hK => wp_appC s x t ho base e i zr z bytes ht hi hz hzs hsize hz0 hby hb100 v n l news w hown hs cs hcs hl h1 hx hlen hbase fun v' w' h2 h3 h4 => hK _ _ (h v' w' h2 h3 h4)
end Go.Proofs.YtbnddpicpomakaaDoor
