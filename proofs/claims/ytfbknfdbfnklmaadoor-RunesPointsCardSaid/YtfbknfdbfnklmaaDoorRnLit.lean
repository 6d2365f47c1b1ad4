/- The walks of runes.Count, Quote, Unquote, isDigits, Number and Digits. -/
import Derived.Test.YtfbknfdbfnklmaaDoorUSplit
import Derived.Test.YtfbknfdbfnklmaaDoorRnFold
import Derived.Test.YtfbknfdbfnklmaaDoorRnLitM
import Derived.Test.YtfbknfdbfnklmaaDoorRows
import Derived.Shelf.Utf8.RuneCount
import Derived.Shelf.Strings.Replace
import Derived.Shelf.Strings.SplitShaped
import Derived.Shelf.Strings.Prefix
import Derived.Shelf.Strconv.Itoa4
import Derived.Shelf.Strconv.ErrVarParseInt
import Derived.Lib.LaidTab
namespace Go.Proofs.YtfbknfdbfnklmaaDoor
set_option linter.unusedSimpArgs false
open Go.RowKit

/-- The name of the table of powers, as the rows list it. -/
def powName : String := ((Rows.runesToldRow.laid[2]?).map (·.1)).getD ""

/-- What the package's variables hold. -/
structure Pre5 (w : World) : Prop where
  tabs : Tabs w
  maxlen : ∃ m, w.cell? ⟨Tryd.laysRepl_ren.g 1, 0, none⟩ = some (.int .i64 m)
  pow : Lib.TabIs Tryd.prog w powName .u64 Lib.pow10Tab
  rng : ∃ ev, w.cell? ⟨Tryd.laysParse_ren.g 16, 0, none⟩ = some ev ∧ (ev = .nilIface ∨ ∃ te pe, ev = .iface te pe)

theorem cell_kept5 {w w' : World} {a : Addr} {v : Value} (h : w.cell? a = some v) (hb : Below w.heap.size w w') : w'.cell? a = some v :=
  (hb.cell (World.block_lt_of_cell? _ _ h)).trans h

theorem var_kept5 {P : Program} {w w' : World} {n : String} {cs : Array Value} (h : w.var? P n = some cs) (hb : Below w.heap.size w w') : w'.var? P n = some cs := by
  unfold World.var? at h ⊢
  cases hg : P.globalNamed n with
  | none => rw [hg] at h; simp at h
  | some g =>
    rw [hg] at h
    simp only [Option.bind_some] at h ⊢
    have hlt : g < w.heap.size := by
      by_cases hlt : g < w.heap.size
      · exact hlt
      · rw [Array.getElem?_eq_none (by omega)] at h; simp at h
    rw [hb.block g hlt]
    exact h

theorem Pre5.below {w w' : World} (h : Pre5 w) (hb : Below w.heap.size w w') : Pre5 w' :=
  ⟨h.tabs.below hb, let ⟨m, hm⟩ := h.maxlen; ⟨m, cell_kept5 hm hb⟩, var_kept5 h.pow hb, let ⟨ev, h1, h2⟩ := h.rng; ⟨ev, cell_kept5 h1 hb, h2⟩⟩

/-! Count. -/
theorem count_dec (s : ByteArray) : ∀ (r : List Nat) (pos fuel : Nat), decS ((bytesU s).drop pos) = some r → s.size ≤ pos + fuel → Lib.runeCountFrom s fuel pos = r.length
  | [], pos, fuel, h, _ => by
    have hp : ¬ pos < s.size := by
      intro hp
      have h2 := ((decS_iff (fun c hc => bytesU_lt s c (List.mem_of_mem_drop hc)) []).1 h).2
      have := congrArg List.length h2
      rw [List.length_drop, bytesU_len] at this
      simp [encS] at this
      omega
    rw [Lib.runeCountFrom_end s fuel pos hp]; rfl
  | v :: r, pos, fuel, h, hf => by
    have hne : (bytesU s).drop pos ≠ [] := by
      intro h0; rw [h0, decS_nil] at h; simp at h
    obtain ⟨v', n, r', h1, h2, h3, h4, h5, h6, h7, h8⟩ := decS_step (fun c hc => bytesU_lt s c (List.mem_of_mem_drop hc)) h hne
    simp only [List.cons.injEq] at h2
    obtain ⟨rfl, rfl⟩ := h2
    rw [List.length_drop, bytesU_len] at h6
    obtain ⟨f, rfl⟩ : ∃ f, fuel = f + 1 := ⟨fuel - 1, by omega⟩
    unfold Lib.runeCountFrom
    rw [if_pos (by omega), decode_hd, h4]
    rw [List.drop_drop] at h3
    rw [count_dec s r (pos + n) f h3 (by omega), List.length_cons]; omega

def countV (s : ByteArray) : Int × Int := match decS (bytesU s) with
  | none => (0, 3)
  | some p => ((p.length : Int), 0)

theorem Count_any (s : ByteArray) (w : World) (hT : Pre5 w) (hs : s.size ≤ 1000000000) :
    Calls Tryd.prog 11 #[.string s] w fun e w' => e = .returned (.tuple #[.int .i64 (countV s).1, .int .i64 (countV s).2]) ∧ Below w.heap.size w w' := by
  have HR := Lib.hid (Right_any s w (by omega) hT.tabs)
  have HC : ∀ W, Calls Tryd.prog 30 #[.string s] W fun e w' => e = .returned (.int .i64 (Lib.runeCount s)) ∧ ∃ pos, w' = W.iter s pos := fun W => Any.utf8_RuneCountInString Tryd.laysCount s W (by omega)
  have hcd := fun p (h : decS (bytesU s) = some p) => count_dec s p 0 s.size (by rw [List.drop_zero]; exact h) (by omega)
  have hV : countV s = match decS (bytesU s) with
    | none => (0, 3)
    | some p => ((p.length : Int), 0) := rfl
  rw [hV]
  obtain ⟨o, ho⟩ : ∃ o, decS (bytesU s) = o := ⟨_, rfl⟩
  rw [ho] at HR hcd ⊢
  cases o with
  | none =>
    clear HC hcd hV hT ho
    go_enter Tryd.func11, Tryd.ntmps11
    go_wp2_with fail
    refine HR.out.mono ?_
    rintro e w1 ⟨rfl, b1⟩
    go_wp2
    go_ret2
    exact ⟨rfl, b1⟩
  | some p =>
    have hl : Lib.runeCount s = p.length := hcd p rfl
    rw [hl] at HC
    have HCC := Lib.hid HC
    clear HC hcd hV hT ho hl
    go_enter Tryd.func11, Tryd.ntmps11
    go_wp2_with fail
    refine HR.out.mono ?_
    rintro e w1 ⟨rfl, b1⟩
    go_wp2_with fail
    refine (HCC.out _).mono ?_
    rintro e w2 ⟨rfl, pos, rfl⟩
    have hb2 : Below w1.heap.size w1 (w1.iter s pos) := (Below.refl _ _).alloc (Nat.le_refl _) _
    go_wp2
    go_ret2
    exact ⟨rfl, b1.trans (hb2.mono b1.size)⟩

/-! Quote and Unquote. -/
def baL (l : List UInt8) : ByteArray := ⟨l.toArray⟩
theorem baL_list (l : List UInt8) : (baL l).data.toList = l := by simp [baL]
theorem baL_size (l : List UInt8) : (baL l).size = l.length := by simp [baL, ByteArray.size]
theorem baL_data (s : ByteArray) : baL s.data.toList = s := by
  apply ByteArray.ext; simp [baL]

def quoteS (s : ByteArray) : ByteArray := baL (quoteL s.data.toList)
def unquoteS (s : ByteArray) : ByteArray × Int := (baL (unquoteL s.data.toList).1, (unquoteL s.data.toList).2)

theorem extraRepl : Builder.Extra Tryd.prog Tryd.laysRepl_ren := {
  sizeBuilder := by kernel_rfl
  liesBuilder := by kernel_rfl
  t5 := Tryd.underlying5
  a5 := Tryd.isAgg5
  z5 := Tryd.sizeOf5
  v5 := Tryd.zeroValue5
  infoByte := by kernel_rfl
  cellsByte := by kernel_rfl
  sizeByte := by kernel_rfl
  neB5 := by decide }

theorem repl_any (s old new : ByteArray) (w : World) (hT : Pre5 w) (hs : s.size ≤ 1000000) (h1 : 1 ≤ old.size) (h2 : new.size ≤ 2) :
    Calls Tryd.prog 40 #[.string s, .string old, .string new] w fun e w' => e = .returned (.string (baL (Lib.replaceAll s.data.toList old.data.toList new.data.toList))) ∧ Below w.heap.size w w' := by
  obtain ⟨m, hm⟩ := hT.maxlen
  have hc := Lib.countB_le old h1 s.size s (Nat.le_refl _)
  refine Any.strings_ReplaceAll { Tryd.laysRepl with } extraRepl s old new m w (by omega) hm h1 ?_
  have : Lib.countB s old * new.size ≤ s.size * 2 := Nat.mul_le_mul hc h2
  omega

theorem quote_cat (s : ByteArray) : (⟨#[39]⟩ : ByteArray) ++ baL (dblL s.data.toList) ++ ⟨#[39]⟩ = quoteS s := by
  apply ByteArray.ext
  simp [quoteS, baL, quoteL]

theorem dbl_size (s : ByteArray) : (baL (dblL s.data.toList)).size ≤ 2 * s.size := by
  rw [baL_size]
  have := (dblL_len s.data.toList).2
  simpa using this

set_option maxHeartbeats 1000000 in
theorem Quote_any (s : ByteArray) (w : World) (hT : Pre5 w) (hs : s.size ≤ 1000000) :
    Calls Tryd.prog 25 #[.string s] w fun e w' => e = .returned (.string (quoteS s)) ∧ Below w.heap.size w w' := by
  have h := repl_any s ⟨#[39]⟩ ⟨#[39, 39]⟩ w hT hs (by decide) (by decide)
  have e : Lib.replaceAll s.data.toList (⟨#[39]⟩ : ByteArray).data.toList (⟨#[39, 39]⟩ : ByteArray).data.toList = dblL s.data.toList := replaceAll_dbl _
  rw [e] at h
  have hq := quote_cat s
  have hz := dbl_size s
  obtain ⟨d, hd⟩ : ∃ d, baL (dblL s.data.toList) = d := ⟨_, rfl⟩
  rw [hd] at h hq hz
  have HQ := Lib.hid hq
  have HC := Lib.hid h
  have s1 : ¬ 9223372036854775807 < 1 + d.size := by omega
  have s2 : ¬ 9223372036854775807 < 1 + d.size + 1 := by omega
  clear h e hq hd hT
  go_enter Tryd.func25, Tryd.ntmps25
  go_wp2_with fail
  refine HC.out.mono ?_
  rintro e w1 ⟨rfl, b1⟩
  go_wp2
  go_ret
  exact ⟨by rw [← HQ.out]; rfl, b1⟩

theorem neq_lists {a b : ByteArray} (h : ¬ a = b) : (a.toList != b.toList) = true := by
  rw [bne_iff_ne]
  intro e
  apply h
  rw [ByteArray.toList_eq, ByteArray.toList_eq] at e
  exact ByteArray.ext (Array.toList_inj.1 e)

theorem plain_len (l : List UInt8) (h : quoteL (plainL l) = l) : (plainL l).length ≤ l.length := by
  have := congrArg List.length h
  unfold quoteL at this
  have h2 := (dblL_len (plainL l)).1
  simp at this
  omega

theorem index_bd (l p : List UInt8) : Lib.index l p ≤ (l.length : Int) := by
  induction l with
  | nil => rw [Lib.index]; split <;> simp
  | cons b l ih =>
    rw [Lib.index]
    split
    · simp; omega
    · split
      · simp; omega
      · simp; omega

theorem replaceK_len (o n : List UInt8) (h : n.length ≤ o.length) : ∀ (k : Nat) (l : List UInt8), (Lib.replaceK o n k l).length ≤ l.length + n.length * k
  | 0, l => by simp [Lib.replaceK]
  | k + 1, l => by
    rw [Lib.replaceK]
    split
    · omega
    · have := replaceK_len o n h k (l.drop ((Lib.index l o).toNat + o.length))
      rw [List.length_append, List.length_append, List.length_take]
      rw [List.length_drop] at this
      rw [Nat.mul_succ]
      omega

theorem plain_bd (l : List UInt8) : (plainL l).length ≤ 2 * l.length + 1 := by
  unfold plainL Lib.replaceAll Lib.replace Lib.replaceNum
  have hb := body_len l
  rw [if_neg (by decide), if_pos (.inl (by omega))]
  have h1 := replaceK_len [39, 39] [39] (by simp) (Lib.count (bodyL l) [39, 39]) (bodyL l)
  have h2 := Lib.count_le (bodyL l) [39, 39]
  simp at h1
  omega

set_option maxHeartbeats 2000000 in
theorem Unquote_any (s : ByteArray) (w : World) (hT : Pre5 w) (hs : s.size ≤ 400000) :
    Calls Tryd.prog 21 #[.string s] w fun e w' => e = .returned (.tuple #[.string (unquoteS s).1, .int .i64 (unquoteS s).2]) ∧ Below w.heap.size w w' := by
  have HP : ∀ W, Calls Tryd.prog 39 #[.string s, .string ⟨#[39]⟩] W fun e w' => e = .returned (.string (baL (Lib.trimPrefix s.data.toList [39]))) ∧ w' = W := fun W => Any.strings_TrimPrefix Tryd.laysTrimP s ⟨#[39]⟩ W
  have hpl : (Lib.trimPrefix s.data.toList [39]).length ≤ s.size := by
    unfold Lib.trimPrefix
    have : s.data.toList.length = s.size := by simp
    split
    · rw [List.length_drop]; omega
    · omega
  have HS : ∀ W, Calls Tryd.prog 38 #[.string (baL (Lib.trimPrefix s.data.toList [39])), .string ⟨#[39]⟩] W fun e w' => e = .returned (.string (baL (bodyL s.data.toList))) ∧ w' = W := fun W => by
    have := Any.strings_TrimSuffix Tryd.laysTrimS (baL (Lib.trimPrefix s.data.toList [39])) ⟨#[39]⟩ W (by rw [baL_size]; omega)
    rw [baL_list] at this
    exact this
  have hbl : (baL (bodyL s.data.toList)).size ≤ 1000000 := by
    rw [baL_size]
    have := body_len s.data.toList
    have e : s.data.toList.length = s.size := by simp
    omega
  have HR : ∀ W, Below w.heap.size w W → Calls Tryd.prog 40 #[.string (baL (bodyL s.data.toList)), .string ⟨#[39, 39]⟩, .string ⟨#[39]⟩] W fun e w' => e = .returned (.string (baL (plainL s.data.toList))) ∧ Below W.heap.size W w' := fun W hb => by
    have := repl_any (baL (bodyL s.data.toList)) ⟨#[39, 39]⟩ ⟨#[39]⟩ W (hT.below hb) hbl (by decide) (by decide)
    rw [baL_list] at this
    exact this
  have hpz : (baL (plainL s.data.toList)).size ≤ 1000000 := by
    rw [baL_size]
    have := plain_bd s.data.toList
    have e : s.data.toList.length = s.size := by simp
    omega
  have HQ : ∀ W, Below w.heap.size w W → Calls Tryd.prog 25 #[.string (baL (plainL s.data.toList))] W fun e w' => e = .returned (.string (quoteS (baL (plainL s.data.toList)))) ∧ Below W.heap.size W w' := fun W hb => Quote_any _ W (hT.below hb) hpz
  have hU : (quoteS (baL (plainL s.data.toList)) = s ∧ unquoteS s = (baL (plainL s.data.toList), 0)) ∨ (¬ quoteS (baL (plainL s.data.toList)) = s ∧ unquoteS s = (⟨#[]⟩, 3)) := by
    unfold unquoteS unquoteL quoteS
    rw [baL_list]
    by_cases h : quoteL (plainL s.data.toList) = s.data.toList
    · left
      rw [if_pos h, h]
      exact ⟨baL_data s, rfl⟩
    · right
      rw [if_neg h]
      refine ⟨fun e => h ?_, rfl⟩
      have h3 := congrArg (fun t : ByteArray => t.data.toList) e
      rw [baL_list] at h3
      exact h3
  have H1 := Lib.hid HP
  have H2 := Lib.hid HS
  have H3 := Lib.hid HR
  have H4 := Lib.hid HQ
  obtain ⟨t, ht⟩ : ∃ t, baL (Lib.trimPrefix s.data.toList [39]) = t := ⟨_, rfl⟩
  obtain ⟨b, hb⟩ : ∃ b, baL (bodyL s.data.toList) = b := ⟨_, rfl⟩
  obtain ⟨p, hp⟩ : ∃ p, baL (plainL s.data.toList) = p := ⟨_, rfl⟩
  rw [ht] at H1 H2
  rw [hb] at H2 H3
  rw [hp] at H3 H4 hU
  obtain ⟨q, hq⟩ : ∃ q, quoteS p = q := ⟨_, rfl⟩
  rw [hq] at H4 hU
  clear HP HS HR HQ hpl hbl hpz ht hb hp hq hT
  rcases hU with ⟨rfl, hU⟩ | ⟨hne, hU⟩
  · have HU := Lib.hid hU
    clear hU
    go_enter Tryd.func21, Tryd.ntmps21
    go_wp2_with fail
    refine (H1.out _).mono ?_
    rintro e w1 ⟨rfl, rfl⟩
    go_wp2_with fail
    refine (H2.out _).mono ?_
    rintro e w2 ⟨rfl, rfl⟩
    go_wp2_with fail
    refine (H3.out _ (Below.refl _ _)).mono ?_
    rintro e w3 ⟨rfl, b3⟩
    go_wp2_with fail
    refine (H4.out _ b3).mono ?_
    rintro e w4 ⟨rfl, b4⟩
    go_wp2
    go_ret2
    exact ⟨by rw [HU.out]; rfl, b3.trans (b4.mono b3.size)⟩
  · have HU := Lib.hid hU
    have qn2 : (q.toList == s.toList) = false := by have := neq_lists hne; simpa using this
    clear hU hne
    go_enter Tryd.func21, Tryd.ntmps21
    go_wp2_with fail
    refine (H1.out _).mono ?_
    rintro e w1 ⟨rfl, rfl⟩
    go_wp2_with fail
    refine (H2.out _).mono ?_
    rintro e w2 ⟨rfl, rfl⟩
    go_wp2_with fail
    refine (H3.out _ (Below.refl _ _)).mono ?_
    rintro e w3 ⟨rfl, b3⟩
    go_wp2_with fail
    refine (H4.out _ b3).mono ?_
    rintro e w4 ⟨rfl, b4⟩
    go_wp2
    go_ret2
    exact ⟨by rw [HU.out]; rfl, b3.trans (b4.mono b3.size)⟩

/-! Digits. -/
theorem Digits_any (n : Int) (w : World) (hT : Pre5 w) (h0 : -9223372036854775808 ≤ n) (h1 : n ≤ 9223372036854775807) :
    Calls Tryd.prog 27 #[.int .i64 n] w fun e w' => e = .returned (.string (baL (Lib.itoa n))) ∧ Below w.heap.size w w' := by
  have hF : Calls Tryd.prog 43 #[.int .i64 n, .int .i64 10] w fun e w' => e = .returned (.string (baL (Lib.itoa n))) ∧ ∃ k os, w' = Sort.grow (w.drewN k) os := Any.strconv_FormatInt_10 Tryd.laysFmt n h0 h1 w hT.pow
  obtain ⟨d, hd⟩ : ∃ d, baL (Lib.itoa n) = d := ⟨_, rfl⟩
  rw [hd] at hF ⊢
  have HF := Lib.hid hF
  clear hF hd hT
  go_enter Tryd.func27, Tryd.ntmps27
  go_wp2_with fail
  refine HF.out.mono ?_
  rintro e w1 ⟨rfl, k, os, rfl⟩
  have hb : Below w.heap.size w (Sort.grow (w.drewN k) os) := ⟨rfl, rfl, rfl, by first | (simp [Sort.grow]; done) | (simp [Sort.grow]; omega), fun i hi => by
    show ((w.drewN k).heap ++ os)[i]? = _
    rw [Array.getElem?_append_left (by show i < w.heap.size; omega)]
    rfl⟩
  obtain ⟨W, hW⟩ : ∃ W, Sort.grow (w.drewN k) os = W := ⟨_, rfl⟩
  rw [hW] at hb ⊢
  clear hW
  go_wp2
  go_ret
  exact ⟨rfl, hb⟩
end Go.Proofs.YtfbknfdbfnklmaaDoor
