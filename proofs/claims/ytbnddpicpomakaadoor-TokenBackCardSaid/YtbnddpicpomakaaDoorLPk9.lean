/- Several texts of one proof, one behind the other. -/
import Derived.Test.YtbnddpicpomakaaDoorLPk8
import Derived.Shelf.Strings.OnBuilder
import Derived.OpenShut
import Derived.Lib.SmallJoins
set_option linter.unusedSimpArgs false
set_option linter.unusedVariables false

/- Mathematics: a token that was read is read again from its text. -/
set_option linter.unusedSimpArgs false
set_option linter.unusedVariables false
set_option maxRecDepth 100000
namespace Go.Proofs.YtbnddpicpomakaaDoor
open Go.RowKit

/-- Its text, with a blank or nothing behind it, is read as this token. -/
structure BackOk (t : Tk) : Prop where
  has : t.text.2 = true
  front : ∀ {r : List Nat}, EndOk r → frontR (bytesU t.text.1 ++ r) = (⟨t.kd, 0, t.tx, t.n⟩, t.text.1.size, 0)
theorem BackOk.at_ {t : Tk} (h : BackOk t) (p : Int) : BackOk ⟨t.kd, p, t.tx, t.n⟩ := ⟨h.has, h.front⟩
theorem signs_lt : ∀ x ∈ signsR, ∀ c ∈ x, c < 256 := by decide
theorem word_ok {l : List Nat} (h : (wordR l).2.2 = 0) : BackOk (wordR l).1 := by
  unfold wordR at h ⊢
  simp only at h ⊢
  obtain ⟨⟨T, e⟩, hv⟩ : ∃ v, nameV (strN (l.take (skipR [2, 3] l))) = v := ⟨_, rfl⟩
  rw [hv] at h ⊢
  by_cases h0 : e = 0
  · subst h0
    rw [if_pos rfl]
    exact ⟨rfl, fun ht => word_front _ T hv ht⟩
  · rw [if_neg h0] at h; cases h
theorem num_ok {l : List Nat} (h : (numR l).2.2 = 0) : BackOk (numR l).1 := by
  unfold numR at h ⊢
  simp only at h ⊢
  by_cases hz : skipR [3] l < skipR [3, 2] l
  · rw [if_pos hz] at h; cases h
  rw [if_neg hz] at h ⊢
  obtain ⟨⟨n, e⟩, hv⟩ : ∃ v, numberV (strN (l.take (skipR [3] l))) = v := ⟨_, rfl⟩
  rw [hv] at h ⊢
  by_cases h0 : e = 0
  · subst h0
    rw [if_pos rfl]
    have hn : 0 ≤ n ∧ n ≤ 9223372036854775807 := by
      unfold numberV at hv
      split at hv
      · injection hv with _ hv; cases hv
      · split at hv
        · injection hv with _ hv; cases hv
        · injection hv with hv _; omega
    exact ⟨rfl, fun ht => num_front n hn.1 hn.2 ht⟩
  · rw [if_neg h0] at h; exact absurd h h0
theorem quot_ok {l : List Nat} (h : (quotR l).2.2 = 0) : BackOk (quotR l).1 := by
  unfold quotR at h ⊢
  simp only at h ⊢
  obtain ⟨⟨s, e⟩, hv⟩ : ∃ v, unquoteS (strN (l.take (quotesR l))) = v := ⟨_, rfl⟩
  rw [hv] at h ⊢
  by_cases h0 : e = 0
  · subst h0
    rw [if_pos rfl]
    exact ⟨rfl, fun ht => quot_front s ht⟩
  · rw [if_neg h0] at h; cases h
theorem blob_ok {l : List Nat} (h : (blobR l).2.2 = 0) : BackOk (blobR l).1 := by
  unfold blobR at h ⊢
  simp only at h ⊢
  by_cases hq : (quotR (l.drop 1)).2.2 = 0
  · rw [if_pos hq] at h ⊢
    cases hu : unhexR (bytesU (quotR (l.drop 1)).1.tx) with
    | none => rw [hu] at h; cases h
    | some b =>
      simp only
      refine ⟨rfl, fun {r} ht => ?_⟩
      have e : (⟨4, 0, strN b, 0⟩ : Tk).text.1 = (⟨#[120]⟩ : ByteArray) ++ quoteS (hexS (strN b)) := rfl
      have e2 : bytesU ((⟨#[120]⟩ : ByteArray) ++ quoteS (hexS (strN b))) = 120 :: bytesU (quoteS (hexS (strN b))) := by rw [bytes_app]; rfl
      have e3 : ((⟨#[120]⟩ : ByteArray) ++ quoteS (hexS (strN b))).size = 1 + (quoteS (hexS (strN b))).size := by rw [ByteArray.size_append]; rfl
      rw [e, e2, e3]
      exact blob_front (strN b) ht
  · rw [if_neg hq] at h; exact absurd h hq
theorem sign_ok {l : List Nat} (h : (signR l).2.2 = 0) : BackOk (signR l).1 := by
  unfold signR at h ⊢
  cases hf : signsR.find? (fun x => x.isPrefixOf l) with
  | none => rw [hf] at h; cases h
  | some x =>
    have hx := List.mem_of_find?_eq_some hf
    simp only
    refine ⟨rfl, fun {r} ht => ?_⟩
    have e : (⟨5, 0, strN x, 0⟩ : Tk).text.1 = strN x := rfl
    rw [e, bytes_strN (signs_lt x hx), strN_size]
    exact sign_front x hx ht
theorem front_ok {l : List Nat} (h : (frontR l).2.2 = 0) : BackOk (frontR l).1 := by
  unfold frontR at h ⊢
  by_cases hb : ([120, 39].isPrefixOf l || [88, 39].isPrefixOf l) = true
  · rw [if_pos hb] at h ⊢; exact blob_ok h
  rw [if_neg hb] at h ⊢
  simp only at h ⊢
  by_cases h2 : classZ ((l.headD 128 : Nat) : Int) = 2
  · rw [if_pos h2] at h ⊢; exact word_ok h
  rw [if_neg h2] at h ⊢
  by_cases h3 : classZ ((l.headD 128 : Nat) : Int) = 3
  · rw [if_pos h3] at h ⊢; exact num_ok h
  rw [if_neg h3] at h ⊢
  by_cases h4 : classZ ((l.headD 128 : Nat) : Int) = 4
  · rw [if_pos h4] at h ⊢; exact quot_ok h
  rw [if_neg h4] at h ⊢
  exact sign_ok h
/-- All that was read. -/
theorem read_ok (l : List Nat) : ∀ (f p : Nat), ∀ t ∈ (readR l f p).1, BackOk t
  | 0, p, t, ht => by rw [readR] at ht; cases ht
  | f + 1, p, t, ht => by
    rw [readR] at ht
    by_cases hp : p < l.length
    · rw [if_pos hp] at ht
      simp only at ht
      by_cases h0 : (frontR (l.drop p)).2.2 = 0
      · rw [if_pos h0] at ht
        rcases List.mem_cons.1 ht with rfl | ht
        · exact (front_ok h0).at_ _
        · exact read_ok l f _ t ht
      · rw [if_neg h0] at ht; cases ht
    · rw [if_neg hp] at ht; cases ht
end Go.Proofs.YtbnddpicpomakaaDoor

/- The walk of token.Write. -/
set_option linter.unusedSimpArgs false
set_option linter.unusedVariables false
set_option maxRecDepth 100000
namespace Go.Proofs.YtbnddpicpomakaaDoor
open Go.RowKit

theorem extraJoin : Builder.Extra Tryd.prog Tryd.laysJoin_ren := {
  sizeBuilder := by kernel_rfl
  liesBuilder := by kernel_rfl
  t5 := Tryd.underlying5
  a5 := Tryd.isAgg5
  z5 := Tryd.sizeOf5
  v5 := Tryd.zeroValue5
  infoByte := by kernel_rfl
  cellsByte := by kernel_rfl
  sizeByte := by kernel_rfl
  neB5 := by decide }

/-- Strings with another one between them. -/
def joinL (xs : List ByteArray) (sep : ByteArray) : List UInt8 := Lib.join (xs.map (·.data.toList)) sep.data.toList
def joinS (xs : List ByteArray) (sep : ByteArray) : ByteArray := baL (joinL xs sep)

theorem Join_any (xs : List ByteArray) (sep : ByteArray) (a : Option Addr) (c : Nat) (w : World) (hA : Arr w.heap.size w a (cellsS xs)) (hc : xs.length ≤ c) (hn : xs.length ≤ 100000000) (hl : (joinL xs sep).length ≤ 140737488355328) :
    Calls Tryd.prog 29 #[.slice a xs.length c, .string sep] w fun e w' => e = .returned (.string (joinS xs sep)) ∧ Below w.heap.size w w' := by
  by_cases h0 : xs = []
  · subst h0
    refine (Any.strings_Join_none { Tryd.laysJoin with } extraJoin a c sep w).mono ?_
    rintro e w' ⟨rfl, rfl⟩
    exact ⟨rfl, Below.refl _ _⟩
  · have hk : 0 < xs.length := by cases xs with | nil => exact absurd rfl h0 | cons x r => simp
    obtain ⟨b, o, rfl, hb, -⟩ := strAt hA hk
    refine (Any.strings_Join { Tryd.laysJoin with } extraJoin b o c xs sep w ?_ hb (by omega) hc hl).mono fun e w' h => h
    intro j x hj
    have hjl : j < xs.length := (List.getElem?_eq_some_iff.1 hj).1
    obtain ⟨b', o', he, -, hcell⟩ := strAt hA hjl
    injection he with he
    injection he with e1 e2
    subst e1 e2
    rw [List.getElem?_eq_getElem hjl] at hj
    injection hj with hj
    subst hj
    exact hcell

/-- The texts of tokens. -/
def textsTk (l : List Tk) : List ByteArray := l.filterMap fun t => if t.text.2 then some t.text.1 else none
theorem textsTk_take {l : List Tk} {k : Nat} (h : k < l.length) : textsTk (l.take (k + 1)) = textsTk (l.take k) ++ (if l[k].text.2 then [l[k].text.1] else []) := by
  unfold textsTk; rw [List.take_succ_eq_append_getElem h, List.filterMap_append]
  congr 1
  simp only [List.filterMap_cons, List.filterMap_nil]
  split <;> split at * <;> simp_all
theorem textsTk_len (l : List Tk) : (textsTk l).length ≤ l.length := List.length_filterMap_le _ _
theorem cellsS_snoc (l : List ByteArray) (s : ByteArray) : cellsS (l ++ [s]) = cellsS l ++ [.string s] := cellsOf_snoc _ _ _
theorem info_strT : (Tryd.prog.info? 9).map (fun i => (i.zero, i.size, i.bytes)) = some (some (.string ⟨#[]⟩), 1, 16) := by kernel_rfl
def spS : ByteArray := ⟨#[32]⟩

set_option maxHeartbeats 2000000 in
theorem tkWrite_any (l : List Tk) (a : Option Addr) (len cap : Nat) (w : World) (hT : Pre4 w) (hA : Arr w.heap.size w a (cellsTk l)) (hlen : len = l.length) (hmax : len ≤ 1000000) (hF : ∀ t ∈ l, t.fair ∧ t.tx.size ≤ 400000) (hj : (joinL (textsTk l) spS).length ≤ 140737488355328) :
    Calls Tryd.prog 10 #[.slice a len cap] w fun e w' => e = .returned (.string (joinS (textsTk l) spS)) ∧ Below w.heap.size w w' := by
  obtain ⟨iS, hiS, hzS, hsS, hbS⟩ := info_parts info_strT
  have HA := Lib.hid hA
  have HL := Lib.hid hlen
  have HF := Lib.hid hF
  have HJ := Lib.hid hj
  obtain ⟨R, hR⟩ : ∃ R, joinS (textsTk l) spS = R := ⟨_, rfl⟩
  rw [hR]
  have HR := Lib.hid hR
  clear hR
  have HP := Lib.hid (fun W (hb : Below w.heap.size w W) => hT.below hb)
  have HV0 : Hid (w.ownsRow w.heap.size 9 1 (.slice none 0 0) 0 (cellsS (textsTk (l.take 0)))) := World.ownsRow_nil _ _ _ _
  clear hA hlen hF hT hj
  go_enter Tryd.func10, Tryd.ntmps10
  go_wp2
  go_loopw [3, 10] (fun v i wr => ∃ (k n : Nat) (cv : Value), cv = v ∧ k ≤ len ∧ n ≤ k ∧ i = .int .i64 (k : Int) ∧ Hid (n = (textsTk (l.take k)).length) ∧ Hid (wr.ownsRow w.heap.size 9 1 cv n (cellsS (textsTk (l.take k)))) ∧ Hid (Below w.heap.size w wr)) (fun _ i _ => len - (intOf i).toNat)
  case atStart => exact ⟨0, 0, _, rfl, by omega, by omega, rfl, rfl, HV0, Below.refl _ _⟩
  case round =>
    clear HV0
    obtain ⟨k, n, cv, rfl, hk, hnk, rfl, HN, HV, HB⟩ := hrel
    by_cases hlt : k < len
    · have hkl : k < l.length := by have := HL.out; omega
      obtain ⟨b, o, rfl, hbN, c0, c1, c2, c3⟩ := tkAt (HA.out.below HB.out) hkl
      have hTk := textsTk_take hkl
      have hft := HF.out l[k] (List.getElem_mem hkl)
      obtain ⟨t, ht⟩ : ∃ t, l[k] = t := ⟨_, rfl⟩
      rw [ht] at c0 c1 c2 c3 hTk hft
      have HTk := Lib.hid hTk
      have HX : Hid (∀ W, Below w.heap.size w W → Calls Tryd.prog 28 #[.agg #[.int .i64 t.kd, .int .i64 t.at_, .string t.tx, .int .i64 t.n]] W fun e w' => e = .returned (.tuple #[.string t.text.1, .bool t.text.2]) ∧ Below W.heap.size W w') := fun W hb => tkText_any t W (HP.out W hb) hft.1 hft.2
      obtain ⟨⟨x, q⟩, hxq⟩ : ∃ X, t.text = X := ⟨_, rfl⟩
      rw [hxq] at HX HTk
      simp only at HX HTk
      have HBs := Lib.hid HB.out.size
      have HY := Lib.hid (HX.out (wr.alloc (.cells #[.int .i64 t.kd, .int .i64 t.at_, .string t.tx, .int .i64 t.n] 33)) (HB.out.trans ((Below.refl w.heap.size wr).alloc HBs.out _)))
      clear ht hft hTk hxq hkl HX hbN
      go_wp2_with fail
      refine HY.out.mono ?_
      rintro e w2 ⟨rfl, hb2⟩
      have HB1 : Hid (Below wr.heap.size wr w2) := ((Below.refl _ wr).alloc (Nat.le_refl _) _).trans (hb2.mono (by simp))
      have HB2 := Lib.hid (HB.out.trans (HB1.out.mono HBs.out))
      have HBs2 := Lib.hid HB2.out.size
      have HV2 := Lib.hid (own_below HV.out (Nat.le_refl _) HB1.out)
      clear hb2 HY c0 c1 c2 c3 HV HB HB1 HBs
      cases q with
      | false =>
        go_wp2
        go_roundw
        case rel => exact ⟨k + 1, n, cv, rfl, by omega, by omega, by go_num, by rw [HTk.out]; simpa [Hid] using HN.out, by rw [HTk.out]; simpa [Hid] using HV2.out, HB2.out⟩
        case measure => simp [intOf]; omega
      | true =>
        have HTk2 : Hid (textsTk (l.take (k + 1)) = textsTk (l.take k) ++ [x]) := by rw [HTk.out]; rfl
        clear HTk
        go_wp2_with (first | (at_builtin; refine wpList_appC rfl _ _ 58 rfl w.heap.size 9 iS (.string ⟨#[]⟩) 1 16 Tryd.underlying58 hiS hzS rfl hsS (by omega) hbS (by omega) cv n _ [.string x] w2 HV2.out rfl _ rfl rfl (by simp [Value.oneCell']) rfl (by omega) HBs2.out ?_; intro v5 w5 hown5 hc5 hsz5; have HO5 := Lib.hid hown5; have HC5 := Lib.hid hc5; clear hown5 hc5 hsz5))
        have HB5 : Hid (Below w.heap.size w w5) := HB2.out.trans (((Below.refl w.heap.size w2).alloc HBs2.out _).trans (HC5.out.below (by have := HBs2.out; simp; omega) (fun g hg => (HV2.out.lt g (by simpa using hg)).1)))
        go_roundw
        case rel => exact ⟨k + 1, n + 1, v5, rfl, by omega, by omega, by go_num, by rw [HTk2.out, List.length_append, ← HN.out]; rfl, by rw [HTk2.out, cellsS_snoc]; exact HO5.out, HB5.out⟩
        case measure => simp [intOf]; omega
    · have hke : k = l.length := by have := HL.out; omega
      have HO := HV.out
      have hN := HN.out
      rw [hke, List.take_length] at HO hN
      obtain ⟨ac, cc, hcv, hcc, hcm, hA2⟩ := own_slice HO
      have htl := textsTk_len l
      have hll := HL.out
      have HY := Lib.hid (Join_any (textsTk l) spS ac cc wr hA2 (by omega) (by omega) HJ.out)
      rw [← hN] at HY
      rw [HR.out] at HY
      unfold spS at HY
      subst hcv
      clear HO hA2 hcc hcm hN htl hll hke HV HN HA HF HJ
      go_wp2_with fail
      refine HY.out.mono ?_
      rintro e w2 ⟨rfl, hb2⟩
      have HB2 := Lib.hid (HB.out.trans (hb2.mono HB.out.size))
      clear hb2 HY
      go_wp2
      go_ret
      exact ⟨rfl, HB2.out⟩
end Go.Proofs.YtbnddpicpomakaaDoor

/- Mathematics: what is written of tokens that were read has these tokens. -/
set_option linter.unusedSimpArgs false
set_option linter.unusedVariables false
set_option maxRecDepth 100000
namespace Go.Proofs.YtbnddpicpomakaaDoor
open Go.RowKit

def jN : List (List Nat) → List Nat
  | [] => []
  | [x] => x
  | x :: y :: r => x ++ 32 :: jN (y :: r)
def Tk.core (t : Tk) : Int × ByteArray × Int := (t.kd, t.tx, t.n)
theorem core_up (n : Nat) (L : List Tk) : (L.map (Tk.up n)).map Tk.core = L.map Tk.core := by
  rw [List.map_map]; rfl
theorem front_nil : (frontR []).2.2 ≠ 0 := by decide
theorem front_blank (c : Nat) (l : List Nat) (h : classZ (c : Int) = 1) : (frontR (c :: l)).2.2 ≠ 0 := by
  have hc : c = 32 ∨ c = 9 ∨ c = 10 ∨ c = 13 := by
    unfold classZ at h
    repeat' split at h
    all_goals omega
  rcases hc with rfl | rfl | rfl | rfl <;> (intro h; cases h)
theorem BackOk.first {t : Tk} (h : BackOk t) : ∃ c l, bytesU t.text.1 = c :: l ∧ classZ (c : Int) ≠ 1 := by
  have h1 := h.front (r := []) (.inl rfl)
  rw [List.append_nil] at h1
  cases hb : bytesU t.text.1 with
  | nil => rw [hb] at h1; exact absurd (by rw [h1]) front_nil
  | cons c l => rw [hb] at h1; exact ⟨c, l, rfl, fun hc => front_blank c l hc (by rw [h1])⟩
def bT (t : Tk) : List Nat := bytesU t.text.1
theorem jN_first : ∀ {ts : List Tk}, (∀ t ∈ ts, BackOk t) → skipR [1] (jN (ts.map bT)) = 0
  | [], _ => rfl
  | [t], h => by
    obtain ⟨c, l, e, hc⟩ := (h t (by simp)).first
    show skipR [1] (bytesU t.text.1) = 0
    rw [e, skipR, if_neg (by simpa using hc)]
  | t :: u :: r, h => by
    obtain ⟨c, l, e, hc⟩ := (h t (by simp)).first
    show skipR [1] (bytesU t.text.1 ++ 32 :: _) = 0
    rw [e, List.cons_append, skipR, if_neg (by simpa using hc)]
theorem read_join : ∀ (ts : List Tk), (∀ t ∈ ts, BackOk t) → ∀ f, (jN (ts.map bT)).length < f →
    (readR (jN (ts.map bT)) f 0).2 = ((jN (ts.map bT)).length, 0) ∧ (readR (jN (ts.map bT)) f 0).1.map Tk.core = ts.map Tk.core
  | [], _, f, hf => by
    rw [readR_end (Nat.lt_irrefl 0)]
    exact ⟨rfl, rfl⟩
  | [t], h, 0, hf => by omega
  | [t], h, f + 1, hf => by
    have ht := h t (by simp)
    obtain ⟨c, l, e, -⟩ := ht.first
    have hq := ht.front (r := []) (.inl rfl)
    rw [List.append_nil] at hq
    have hz : t.text.1.size = (bT t).length := (bytesU_len _).symm
    show (readR (bT t) (f + 1) 0).2 = _ ∧ (readR (bT t) (f + 1) 0).1.map Tk.core = _
    rw [readR, if_pos (by show 0 < (bytesU t.text.1).length; rw [e]; simp)]
    have hq2 : frontR ((bT t).drop 0) = (⟨t.kd, 0, t.tx, t.n⟩, t.text.1.size, 0) := hq
    simp only [hq2, if_pos]
    have hd : (bT t).drop (0 + t.text.1.size) = [] := List.drop_eq_nil_of_le (by omega)
    rw [hd, readR_end (by simp only [skipR]; omega)]
    refine ⟨?_, rfl⟩
    simp only [skipR, Prod.mk.injEq, and_true]
    show _ = (bT t).length
    omega
  | t :: u :: r, h, 0, hf => by omega
  | t :: u :: r, h, f + 1, hf => by
    have ht := h t (by simp)
    have hr : ∀ x ∈ u :: r, BackOk x := fun x hx => h x (List.mem_cons_of_mem _ hx)
    obtain ⟨c, l, e, -⟩ := ht.first
    have hj : jN ((t :: u :: r).map bT) = bT t ++ 32 :: jN ((u :: r).map bT) := rfl
    have hsk := jN_first hr
    rw [hj] at hf ⊢
    simp only [List.length_append, List.length_cons] at hf
    have ih := read_join (u :: r) hr f (by omega)
    generalize jN ((u :: r).map bT) = J at *
    have hz : t.text.1.size = (bT t).length := (bytesU_len _).symm
    have hq := ht.front (r := 32 :: J) (.inr ⟨J, rfl⟩)
    have hq2 : frontR ((bT t ++ 32 :: J).drop 0) = (⟨t.kd, 0, t.tx, t.n⟩, t.text.1.size, 0) := hq
    rw [readR, if_pos (by simp only [List.length_append, List.length_cons]; omega)]
    simp only [hq2, if_pos]
    have hd : (bT t ++ 32 :: J).drop (0 + t.text.1.size) = 32 :: J := by
      rw [Nat.zero_add, hz, List.drop_left]
    have hs1 : skipR [1] (32 :: J) = 1 := by
      rw [skipR, class32, if_pos (by rfl), hsk]
    rw [hd, hs1]
    have hu := readR_up (bT t ++ [32]) J (t.text.1.size + 1) (by simp [hz]) f 0
    rw [List.append_assoc] at hu
    have ha : 0 + t.text.1.size + 1 = t.text.1.size + 1 + 0 := by omega
    rw [ha]
    have hu2 : readR (bT t ++ 32 :: J) f (t.text.1.size + 1 + 0) = _ := hu
    rw [hu2]
    refine ⟨?_, ?_⟩
    · rw [ih.1]
      simp only [Prod.mk.injEq, and_true, List.length_append, List.length_cons]
      omega
    · simp only [List.map_cons]
      rw [core_up, ih.2]
      rfl
theorem textsTk_ok {ts : List Tk} (h : ∀ t ∈ ts, BackOk t) : textsTk ts = ts.map (fun t => t.text.1) := by
  unfold textsTk
  induction ts with
  | nil => rfl
  | cons t r ih => simp only [List.filterMap_cons, (h t List.mem_cons_self).has, if_true, List.map_cons, ih fun x hx => h x (List.mem_cons_of_mem _ hx)]
theorem join_bytes : ∀ xs : List ByteArray, bytesU (joinS xs spS) = jN (xs.map bytesU)
  | [] => rfl
  | [x] => by
    show bytesU (baL (Lib.join [x.data.toList] _)) = bytesU x
    rw [bytesU_baL]; simp [Lib.join, bytesU]
  | x :: y :: r => by
    have ih := join_bytes (y :: r)
    have e : bytesU (joinS (x :: y :: r) spS) = bytesU x ++ 32 :: bytesU (joinS (y :: r) spS) := by
      unfold joinS joinL
      rw [bytesU_baL, bytesU_baL]
      simp [Lib.join, bytesU, spS]
    rw [e, ih]; rfl
end Go.Proofs.YtbnddpicpomakaaDoor

/- Mathematics: what is written of the tokens of a valid text is valid. -/
set_option linter.unusedSimpArgs false
set_option linter.unusedVariables false
set_option maxRecDepth 100000
namespace Go.Proofs.YtbnddpicpomakaaDoor
open Go.RowKit

/-- Bytes of code points. -/
def Ut (l : List Nat) : Prop := ∃ p, (∀ v ∈ p, okP v = true) ∧ encS p = l
theorem Ut.app {a b : List Nat} (h : Ut a) (k : Ut b) : Ut (a ++ b) := by
  obtain ⟨p, h1, rfl⟩ := h
  obtain ⟨q, h2, rfl⟩ := k
  exact ⟨p ++ q, fun v hv => (List.mem_append.1 hv).elim (h1 v) (h2 v), encS_append p q⟩
theorem ut_ascii : ∀ {l : List Nat}, (∀ c ∈ l, c < 128) → Ut l
  | [], _ => ⟨[], by simp, rfl⟩
  | c :: l, h => by
    obtain ⟨p, h1, h2⟩ := ut_ascii (l := l) fun x hx => h x (List.mem_cons_of_mem _ hx)
    have hc := h c List.mem_cons_self
    refine ⟨c :: p, fun v hv => ?_, ?_⟩
    · rcases List.mem_cons.1 hv with rfl | hv
      · rw [okP_iff]; omega
      · exact h1 v hv
    · rw [encS_cons, h2]
      unfold encP
      rw [if_pos hc]; rfl
theorem encP_low {v c : Nat} (h : c ∈ encP v) (hc : c < 128) : encP v = [c] := by
  unfold encP at h ⊢
  split
  · rename_i hv
    rw [if_pos hv] at h
    rw [List.mem_singleton.1 h]
  · rename_i hv
    rw [if_neg hv] at h
    exfalso
    split at h
    · simp at h; omega
    · split at h <;> (simp at h; omega)
theorem ut_split : ∀ (p : List Nat), (∀ v ∈ p, okP v = true) → ∀ (a : List Nat) (c : Nat) (b : List Nat), encS p = a ++ c :: b → c < 128 → Ut a ∧ Ut b
  | [], _, a, c, b, h, _ => by
    rw [encS_nil] at h
    have := congrArg List.length h
    simp at this
  | v :: q, hp, a, c, b, h, hc => by
    have hq : ∀ x ∈ q, okP x = true := fun x hx => hp x (List.mem_cons_of_mem _ hx)
    have hv : Ut (encP v) := ⟨[v], fun x hx => by rw [List.mem_singleton.1 hx]; exact hp v List.mem_cons_self, by rw [encS_cons, encS_nil, List.append_nil]⟩
    rw [encS_cons] at h
    rcases List.append_eq_append_iff.1 h with ⟨a', h1, h2⟩ | ⟨c', h1, h2⟩
    · obtain ⟨i1, i2⟩ := ut_split q hq a' c b h2 hc
      exact ⟨by rw [h1]; exact hv.app i1, i2⟩
    · cases c' with
      | nil =>
        rw [List.append_nil] at h1
        obtain ⟨_, i2⟩ := ut_split q hq [] c b h2.symm hc
        exact ⟨by rw [← h1]; exact hv, i2⟩
      | cons d r =>
        rw [List.cons_append] at h2
        injection h2 with h2 h3
        subst h2
        have hm := encP_low (v := v) (c := c) (by rw [h1]; simp) hc
        rw [hm] at h1
        have hl := congrArg List.length h1
        simp only [List.length_append, List.length_cons, List.length_nil] at hl
        have ha : a = [] := List.eq_nil_of_length_eq_zero (by omega)
        have hr : r = [] := List.eq_nil_of_length_eq_zero (by omega)
        subst ha hr
        exact ⟨⟨[], by simp, rfl⟩, by rw [h3]; exact ⟨q, hq, rfl⟩⟩
theorem ut_iff {l : List Nat} (h : ∀ c ∈ l, c < 256) : Ut l ↔ (decS l).isSome = true := by
  constructor
  · rintro ⟨p, h1, h2⟩
    rw [(decS_iff h p).2 ⟨h1, h2⟩]; rfl
  · intro hd
    obtain ⟨p, hp⟩ := Option.isSome_iff_exists.1 hd
    exact ⟨p, (decS_iff h p).1 hp⟩
theorem Ut.split {a b : List Nat} {c : Nat} (h : Ut (a ++ c :: b)) (hc : c < 128) : Ut a ∧ Ut b := by
  obtain ⟨p, h1, h2⟩ := h
  exact ut_split p h1 a c b h2 hc

theorem class_low {c : Nat} (h : [2, 3].contains (classZ (c : Int)) = true) : c < 128 := by
  simp only [List.contains_cons, List.contains_nil, Bool.or_false, Bool.or_eq_true, beq_iff_eq] at h
  unfold classZ at h
  repeat' split at h
  all_goals omega
theorem word_ut {l : List Nat} (h : (wordR l).2.2 = 0) : Ut (bytesU (wordR l).1.text.1) := by
  unfold wordR at h ⊢
  simp only at h ⊢
  obtain ⟨⟨T, e⟩, hv⟩ : ∃ v, nameV (strN (l.take (skipR [2, 3] l))) = v := ⟨_, rfl⟩
  rw [hv] at h ⊢
  by_cases h0 : e = 0
  · subst h0
    rw [if_pos rfl]
    exact ut_ascii fun c hc => class_low ((name_fix _ T hv).2.2.1 c hc)
  · rw [if_neg h0] at h; cases h
theorem num_ut {l : List Nat} (h : (numR l).2.2 = 0) : Ut (bytesU (numR l).1.text.1) := by
  unfold numR at h ⊢
  simp only at h ⊢
  by_cases hz : skipR [3] l < skipR [3, 2] l
  · rw [if_pos hz] at h; cases h
  rw [if_neg hz] at h ⊢
  obtain ⟨⟨n, e⟩, hv⟩ : ∃ v, numberV (strN (l.take (skipR [3] l))) = v := ⟨_, rfl⟩
  rw [hv] at h ⊢
  by_cases h0 : e = 0
  · subst h0
    rw [if_pos rfl]
    have hn : 0 ≤ n := by
      unfold numberV at hv
      split at hv
      · injection hv with _ hv; cases hv
      · split at hv
        · injection hv with _ hv; cases hv
        · injection hv with hv _; omega
    obtain ⟨u, rfl⟩ := Int.eq_ofNat_of_zero_le hn
    have e : Lib.itoa (u : Int) = Lib.decDigits u := by unfold Lib.itoa; rw [if_neg (by omega)]; simp
    show Ut (bytesU (baL (Lib.itoa (u : Int))))
    rw [e, bytesU_baL]
    refine ut_ascii fun c hc => ?_
    obtain ⟨d, hd, rfl⟩ := List.mem_map.1 hc
    have := (dec_facts u).1 d hd
    omega
  · rw [if_neg h0] at h; exact absurd h h0
theorem unq_self {s r : ByteArray} (h : unquoteS s = (r, 0)) : quoteS r = s := by
  rw [unq_ref] at h
  split at h
  · rename_i hq
    injection h with h _
    rw [← h]; exact hq
  · injection h with _ h; cases h
theorem quot_ut {l : List Nat} (h256 : ∀ c ∈ l, c < 256) (hl : ∀ b, l = 39 :: b → Ut b) (h : (quotR l).2.2 = 0) : Ut (bytesU (quotR l).1.text.1) := by
  unfold quotR at h ⊢
  simp only at h ⊢
  obtain ⟨⟨s, e⟩, hv⟩ : ∃ v, unquoteS (strN (l.take (quotesR l))) = v := ⟨_, rfl⟩
  rw [hv] at h ⊢
  by_cases h0 : e = 0
  · subst h0
    rw [if_pos rfl]
    show Ut (bytesU (quoteS s))
    have hq := unq_self hv
    have hb : bytesU (quoteS s) = l.take (quotesR l) := by
      rw [hq, bytes_strN fun c hc => h256 c (List.mem_of_mem_take hc)]
    have hcut : l = bytesU (quoteS s) ++ l.drop (quotesR l) := by rw [hb, List.take_append_drop]
    rw [quote_bytes] at hcut ⊢
    have h2 := hl (dblN (bytesU s) ++ 39 :: l.drop (quotesR l)) (by rw [List.cons_append, List.append_assoc] at hcut; exact hcut)
    have h3 := (h2.split (by omega)).1
    exact Ut.app (a := [39]) (ut_ascii (by simp)) (h3.app (ut_ascii (by simp)))
  · rw [if_neg h0] at h; cases h
theorem blob_ut {l : List Nat} (h : (blobR l).2.2 = 0) : Ut (bytesU (blobR l).1.text.1) := by
  unfold blobR at h ⊢
  simp only at h ⊢
  by_cases hq : (quotR (l.drop 1)).2.2 = 0
  · rw [if_pos hq] at h ⊢
    cases hu : unhexR (bytesU (quotR (l.drop 1)).1.tx) with
    | none => rw [hu] at h; cases h
    | some b =>
      simp only
      show Ut (bytesU ((⟨#[120]⟩ : ByteArray) ++ quoteS (hexS (strN b))))
      rw [bytes_app, quote_bytes, hexS_bytes]
      have hd : ∀ (x : List Nat), (∀ c ∈ x, c < 128) → ∀ c ∈ dblN x, c < 128 := by
        intro x
        induction x with
        | nil => intro _ c hc; cases hc
        | cons d x ih =>
          intro hx c hc
          have ih2 := ih fun y hy => hx y (List.mem_cons_of_mem _ hy)
          rw [dblN] at hc
          split at hc
          · simp only [List.mem_cons] at hc
            rcases hc with rfl | rfl | hc
            · omega
            · omega
            · exact ih2 c hc
          · simp only [List.mem_cons] at hc
            rcases hc with rfl | hc
            · exact hx c List.mem_cons_self
            · exact ih2 c hc
      have hx : ∀ c ∈ hexN (bytesU (strN b)), c < 128 := by
        intro c hc
        unfold hexN at hc
        obtain ⟨d, hd, hc⟩ := List.mem_flatMap.1 hc
        have := bytesU_lt _ d hd
        simp only [List.mem_cons, List.not_mem_nil, or_false] at hc
        rcases hc with rfl | rfl <;> (unfold hexd; split <;> omega)
      refine Ut.app (ut_ascii (by decide)) (ut_ascii fun c hc => ?_)
      simp only [List.mem_cons, List.mem_append, List.not_mem_nil, or_false] at hc
      rcases hc with rfl | hc | rfl
      · omega
      · exact hd _ hx c hc
      · omega
  · rw [if_neg hq] at h; exact absurd h hq
theorem signs_low : ∀ x ∈ signsR, ∀ c ∈ x, c < 128 := by decide
theorem sign_ut {l : List Nat} (h : (signR l).2.2 = 0) : Ut (bytesU (signR l).1.text.1) := by
  unfold signR at h ⊢
  cases hf : signsR.find? (fun x => x.isPrefixOf l) with
  | none => rw [hf] at h; cases h
  | some x =>
    have hx := List.mem_of_find?_eq_some hf
    show Ut (bytesU (strN x))
    rw [bytes_strN (signs_lt x hx)]
    exact ut_ascii (signs_low x hx)
theorem front_ut {l : List Nat} (h256 : ∀ c ∈ l, c < 256) (hl : ∀ b, l = 39 :: b → Ut b) (h : (frontR l).2.2 = 0) : Ut (bytesU (frontR l).1.text.1) := by
  unfold frontR at h ⊢
  by_cases hb : ([120, 39].isPrefixOf l || [88, 39].isPrefixOf l) = true
  · rw [if_pos hb] at h ⊢; exact blob_ut h
  rw [if_neg hb] at h ⊢
  simp only at h ⊢
  by_cases h2 : classZ ((l.headD 128 : Nat) : Int) = 2
  · rw [if_pos h2] at h ⊢; exact word_ut h
  rw [if_neg h2] at h ⊢
  by_cases h3 : classZ ((l.headD 128 : Nat) : Int) = 3
  · rw [if_pos h3] at h ⊢; exact num_ut h
  rw [if_neg h3] at h ⊢
  by_cases h4 : classZ ((l.headD 128 : Nat) : Int) = 4
  · rw [if_pos h4] at h ⊢; exact quot_ut h256 hl h
  rw [if_neg h4] at h ⊢
  exact sign_ut h
theorem read_ut (l : List Nat) (h256 : ∀ c ∈ l, c < 256) (hl : Ut l) : ∀ (f p : Nat), ∀ t ∈ (readR l f p).1, Ut (bytesU t.text.1)
  | 0, p, t, ht => by rw [readR] at ht; cases ht
  | f + 1, p, t, ht => by
    rw [readR] at ht
    by_cases hp : p < l.length
    · rw [if_pos hp] at ht
      simp only at ht
      by_cases h0 : (frontR (l.drop p)).2.2 = 0
      · rw [if_pos h0] at ht
        rcases List.mem_cons.1 ht with rfl | ht
        · exact front_ut (l := l.drop p) (fun c hc => h256 c (List.mem_of_mem_drop hc)) (fun b hb => by
            have e : l = l.take p ++ 39 :: b := by rw [← hb, List.take_append_drop]
            rw [e] at hl
            exact (hl.split (by omega)).2) h0
        · exact read_ut l h256 hl f _ t ht
      · rw [if_neg h0] at ht; cases ht
    · rw [if_neg hp] at ht; cases ht
theorem join_ut : ∀ {xs : List (List Nat)}, (∀ x ∈ xs, Ut x) → Ut (jN xs)
  | [], _ => ⟨[], by simp, rfl⟩
  | [x], h => h x (by simp)
  | x :: y :: r, h => by
    have ih := join_ut (xs := y :: r) fun z hz => h z (List.mem_cons_of_mem _ hz)
    exact (h x List.mem_cons_self).app (Ut.app (a := [32]) (ut_ascii (by simp)) ih)
end Go.Proofs.YtbnddpicpomakaaDoor

/- Mathematics of TokenBack: the sizes of tokens that were read; reading what is written of them. -/
set_option linter.unusedSimpArgs false
set_option linter.unusedVariables false
set_option maxRecDepth 100000
namespace Go.Proofs.YtbnddpicpomakaaDoor
open Go.RowKit

/-- How large a token is that was read from so many bytes. -/
structure Tk.sized (t : Tk) (N : Nat) : Prop where
  kd : 1 ≤ t.kd ∧ t.kd ≤ 5
  tx : t.tx.size ≤ N + 20
  n : 0 ≤ t.n ∧ t.n ≤ 9223372036854775807
theorem word_sz {l : List Nat} (h : (wordR l).2.2 = 0) : (wordR l).1.sized l.length := by
  unfold wordR at h ⊢
  simp only at h ⊢
  obtain ⟨⟨T, e⟩, hv⟩ : ∃ v, nameV (strN (l.take (skipR [2, 3] l))) = v := ⟨_, rfl⟩
  rw [hv] at h ⊢
  by_cases h0 : e = 0
  · subst h0
    rw [if_pos rfl]
    have h2 := (name_fix _ T hv).1
    unfold nameV at h2
    refine ⟨show (1:Int) ≤ 1 ∧ (1:Int) ≤ 5 from by decide, ?_, show (0:Int) ≤ 0 ∧ (0:Int) ≤ 9223372036854775807 from by decide⟩
    show T.size ≤ _
    by_cases h20 : 20 < T.size
    · rw [if_pos h20] at h2; injection h2 with _ h2; cases h2
    · omega
  · rw [if_neg h0] at h; cases h
theorem num_sz {l : List Nat} (h : (numR l).2.2 = 0) : (numR l).1.sized l.length := by
  unfold numR at h ⊢
  simp only at h ⊢
  by_cases hz : skipR [3] l < skipR [3, 2] l
  · rw [if_pos hz] at h; cases h
  rw [if_neg hz] at h ⊢
  obtain ⟨⟨n, e⟩, hv⟩ : ∃ v, numberV (strN (l.take (skipR [3] l))) = v := ⟨_, rfl⟩
  rw [hv] at h ⊢
  by_cases h0 : e = 0
  · subst h0
    rw [if_pos rfl]
    have hn : 0 ≤ n ∧ n ≤ 9223372036854775807 := by
      unfold numberV at hv
      split at hv
      · injection hv with _ hv; cases hv
      · split at hv
        · injection hv with _ hv; cases hv
        · injection hv with hv _; omega
    exact ⟨show (1:Int) ≤ 2 ∧ (2:Int) ≤ 5 from by decide, Nat.zero_le _, hn⟩
  · rw [if_neg h0] at h; exact absurd h h0
theorem dblN_ge : ∀ l : List Nat, l.length ≤ (dblN l).length
  | [] => Nat.le_refl _
  | c :: l => by
    have := dblN_ge l
    rw [dblN]
    split <;> simp only [List.length_cons] <;> omega
theorem quot_sz {l : List Nat} (h : (quotR l).2.2 = 0) : (quotR l).1.kd = 3 ∧ (quotR l).1.n = 0 ∧ (quotR l).1.tx.size ≤ l.length := by
  unfold quotR at h ⊢
  simp only at h ⊢
  obtain ⟨⟨s, e⟩, hv⟩ : ∃ v, unquoteS (strN (l.take (quotesR l))) = v := ⟨_, rfl⟩
  rw [hv] at h ⊢
  by_cases h0 : e = 0
  · subst h0
    rw [if_pos rfl]
    refine ⟨rfl, rfl, ?_⟩
    show s.size ≤ _
    have hq := congrArg ByteArray.size (unq_self hv)
    rw [strN_size, List.length_take, ← bytesU_len, quote_bytes] at hq
    have := dblN_ge (bytesU s)
    rw [bytesU_len] at this
    simp only [List.length_cons, List.length_append, List.length_nil] at hq
    omega
  · rw [if_neg h0] at h; cases h
theorem unhex_len : ∀ (l b : List Nat), unhexR l = some b → b.length ≤ l.length
  | [], b, h => by injection h with h; subst h; exact Nat.le_refl _
  | [_], b, h => by cases h
  | x :: y :: l, b, h => by
    rw [unhexR] at h
    split at h
    · rename_i e
      injection h with h
      subst h
      have := unhex_len l _ e
      simp only [List.length_cons]; omega
    · cases h
theorem blob_sz {l : List Nat} (h : (blobR l).2.2 = 0) : (blobR l).1.sized l.length := by
  unfold blobR at h ⊢
  simp only at h ⊢
  by_cases hq : (quotR (l.drop 1)).2.2 = 0
  · rw [if_pos hq] at h ⊢
    have hs := (quot_sz hq).2.2
    rw [List.length_drop] at hs
    cases hu : unhexR (bytesU (quotR (l.drop 1)).1.tx) with
    | none => rw [hu] at h; cases h
    | some b =>
      have := unhex_len _ _ hu
      rw [bytesU_len] at this
      refine ⟨show (1:Int) ≤ 4 ∧ (4:Int) ≤ 5 from by decide, ?_, show (0:Int) ≤ 0 ∧ (0:Int) ≤ 9223372036854775807 from by decide⟩
      show (strN b).size ≤ _
      rw [strN_size]; omega
  · rw [if_neg hq] at h; exact absurd h hq
theorem signs_sz : ∀ x ∈ signsR, x.length ≤ 2 := by decide
theorem sign_sz {l : List Nat} (h : (signR l).2.2 = 0) : (signR l).1.sized l.length := by
  unfold signR at h ⊢
  cases hf : signsR.find? (fun x => x.isPrefixOf l) with
  | none => rw [hf] at h; cases h
  | some x =>
    have := signs_sz x (List.mem_of_find?_eq_some hf)
    refine ⟨show (1:Int) ≤ 5 ∧ (5:Int) ≤ 5 from by decide, ?_, show (0:Int) ≤ 0 ∧ (0:Int) ≤ 9223372036854775807 from by decide⟩
    show (strN x).size ≤ _
    rw [strN_size]; omega
theorem front_sz {l : List Nat} (h : (frontR l).2.2 = 0) : (frontR l).1.sized l.length := by
  unfold frontR at h ⊢
  by_cases hb : ([120, 39].isPrefixOf l || [88, 39].isPrefixOf l) = true
  · rw [if_pos hb] at h ⊢; exact blob_sz h
  rw [if_neg hb] at h ⊢
  simp only at h ⊢
  by_cases h2 : classZ ((l.headD 128 : Nat) : Int) = 2
  · rw [if_pos h2] at h ⊢; exact word_sz h
  rw [if_neg h2] at h ⊢
  by_cases h3 : classZ ((l.headD 128 : Nat) : Int) = 3
  · rw [if_pos h3] at h ⊢; exact num_sz h
  rw [if_neg h3] at h ⊢
  by_cases h4 : classZ ((l.headD 128 : Nat) : Int) = 4
  · rw [if_pos h4] at h ⊢
    obtain ⟨e1, e2, e3⟩ := quot_sz h
    exact ⟨by rw [e1]; decide, by omega, by rw [e2]; decide⟩
  rw [if_neg h4] at h ⊢
  exact sign_sz h
theorem read_sz (l : List Nat) : ∀ (f p : Nat), ∀ t ∈ (readR l f p).1, t.sized l.length
  | 0, p, t, ht => by rw [readR] at ht; cases ht
  | f + 1, p, t, ht => by
    rw [readR] at ht
    by_cases hp : p < l.length
    · rw [if_pos hp] at ht
      simp only at ht
      by_cases h0 : (frontR (l.drop p)).2.2 = 0
      · rw [if_pos h0] at ht
        rcases List.mem_cons.1 ht with rfl | ht
        · have := front_sz h0
          exact ⟨this.kd, by have := this.tx; rw [List.length_drop] at this; simp only; omega, this.n⟩
        · exact read_sz l f _ t ht
      · rw [if_neg h0] at ht; cases ht
    · rw [if_neg hp] at ht; cases ht

theorem textsTk_core (l : List Tk) : textsTk l = (l.map Tk.core).filterMap fun c => if (⟨c.1, 0, c.2.1, c.2.2⟩ : Tk).text.2 then some (⟨c.1, 0, c.2.1, c.2.2⟩ : Tk).text.1 else none := by
  unfold textsTk
  rw [List.filterMap_map]
  rfl
theorem texts_core {L M : List Tk} (h : L.map Tk.core = M.map Tk.core) : textsTk L = textsTk M := by
  rw [textsTk_core, textsTk_core, h]
/-- What is written of a text's tokens has these tokens. -/
theorem read_back (s : ByteArray) (h : s.size ≤ 1000) (h0 : (readV19 s).2.2 = 0) (hw : (joinS (textsTk (readV19 s).1) spS).size ≤ 4096) :
    (readV19 (joinS (textsTk (readV19 s).1) spS)).2 = (0, 0) ∧ (readV19 (joinS (textsTk (readV19 s).1) spS)).1.map Tk.core = (readV19 s).1.map Tk.core := by
  obtain ⟨W, hW⟩ : ∃ W, joinS (textsTk (readV19 s).1) spS = W := ⟨_, rfl⟩
  rw [hW] at hw ⊢
  have hd : ¬ (decS (bytesU s)).isSome = false := fun hd => by
    simp only [readV19] at h0
    rw [if_neg (by omega), if_pos hd] at h0
    cases h0
  have hu : Ut (bytesU s) := (ut_iff (bytesU_lt s)).2 (by cases hx : (decS (bytesU s)).isSome with | true => rfl | false => exact absurd hx hd)
  obtain ⟨R, hR⟩ : ∃ R, readR (bytesU s) (s.size + 1) (skipR [1] (bytesU s)) = R := ⟨_, rfl⟩
  have hv : readV19 s = if R.2.2 = 0 then (R.1 ++ [⟨0, R.2.1, ⟨#[]⟩, 0⟩], 0, 0) else ([], R.2.1, R.2.2) := by
    simp only [readV19]
    rw [if_neg (by omega), if_neg hd, hR]
  have hR0 : R.2.2 = 0 := by
    rw [hv] at h0
    by_cases hR0 : R.2.2 = 0
    · exact hR0
    · rw [if_neg hR0] at h0; exact h0
  rw [if_pos hR0] at hv
  have hok : ∀ t ∈ R.1, BackOk t := by rw [← hR]; exact read_ok _ _ _
  have hut : ∀ t ∈ R.1, Ut (bytesU t.text.1) := by rw [← hR]; exact read_ut _ (bytesU_lt s) hu _ _
  have hT : textsTk (readV19 s).1 = R.1.map fun t => t.text.1 := by
    rw [hv]
    show textsTk (R.1 ++ [⟨0, R.2.1, ⟨#[]⟩, 0⟩]) = _
    have : textsTk (R.1 ++ [(⟨0, R.2.1, ⟨#[]⟩, 0⟩ : Tk)]) = textsTk R.1 ++ textsTk [⟨0, R.2.1, ⟨#[]⟩, 0⟩] := by unfold textsTk; rw [List.filterMap_append]
    rw [this, textsTk_ok hok]
    have e : textsTk [(⟨0, R.2.1, ⟨#[]⟩, 0⟩ : Tk)] = [] := rfl
    rw [e, List.append_nil]
  have hWb : bytesU W = jN (R.1.map bT) := by
    rw [← hW, hT, join_bytes, List.map_map]; rfl
  have hj := read_join R.1 hok (W.size + 1) (by rw [← hWb, bytesU_len]; omega)
  have hsk := jN_first hok
  have hWd : ¬ (decS (bytesU W)).isSome = false := by
    have : (decS (bytesU W)).isSome = true := (ut_iff (bytesU_lt W)).1 (by
      rw [hWb]
      refine join_ut fun x hx => ?_
      obtain ⟨t, ht, rfl⟩ := List.mem_map.1 hx
      exact hut t ht)
    rw [this]; simp
  rw [← hWb] at hj hsk
  have hv2 : readV19 W = ((readR (bytesU W) (W.size + 1) 0).1 ++ [⟨0, (readR (bytesU W) (W.size + 1) 0).2.1, ⟨#[]⟩, 0⟩], 0, 0) := by
    simp only [readV19]
    rw [if_neg (by omega), if_neg hWd, hsk, if_pos (by rw [hj.1])]
  rw [hv2, hv]
  refine ⟨rfl, ?_⟩
  simp only [List.map_append, List.map_cons, List.map_nil, hj.2]
  rfl
end Go.Proofs.YtbnddpicpomakaaDoor

/- The walk of token.Same, of tokens that are alike. -/
set_option linter.unusedSimpArgs false
set_option linter.unusedVariables false
set_option maxRecDepth 100000
namespace Go.Proofs.YtbnddpicpomakaaDoor
open Go.RowKit

theorem eqTk (kd n at_ : Int) (tx : ByteArray) (W : World) : (Op.equalIn 10000 33 (.agg #[.int .i64 kd, .int .i64 at_, .string tx, .int .i64 n]) (.agg #[.int .i64 kd, .int .i64 at_, .string tx, .int .i64 n])).run Tryd.prog W = .ok true W := by
  have hS : Tryd.prog.underlying 33 = some (.struct (Tryd.prog.fieldsOf 33)) := by kernel_rfl
  have hp : Tryd.prog.stoodInHeld 33 = false := by kernel_rfl
  rw [show (10000 : Nat) = 9999 + 1 from rfl, run_equalIn_agg W 9999 33 _ _ hS hp]
  simp only [Program.fieldsOf, Tryd.underlying33]
  go_simp
@[go_sem] theorem eqGuardTk : Tryd.prog.eqGuardType Tryd.prog.depth 33 = false := by kernel_rfl

set_option maxHeartbeats 2000000 in
theorem same1_any (kd n a1 a2 : Int) (tx : ByteArray) (w : World) :
    Calls Tryd.prog 31 #[.agg #[.int .i64 kd, .int .i64 a1, .string tx, .int .i64 n], .agg #[.int .i64 kd, .int .i64 a2, .string tx, .int .i64 n]] w fun e w' => e = .returned (.bool true) ∧ Below w.heap.size w w' := by
  have hE := eqTk kd n a2 tx
  have hB1 : Blk (w.alloc (.cells #[.int .i64 kd, .int .i64 a1, .string tx, .int .i64 n] 33)) w.heap.size 33 #[.int .i64 kd, .int .i64 a1, .string tx, .int .i64 n] := Blk.new w _ _
  have hs1 : (w.alloc (.cells #[.int .i64 kd, .int .i64 a1, .string tx, .int .i64 n] 33)).heap.size = w.heap.size + 1 := by simp
  obtain ⟨w1, hw1⟩ : ∃ w1, w.alloc (.cells #[.int .i64 kd, .int .i64 a1, .string tx, .int .i64 n] 33) = w1 := ⟨_, rfl⟩
  have hb1 : Below w.heap.size w w1 := by rw [← hw1]; exact (Below.refl _ w).alloc (Nat.le_refl _) _
  rw [hw1] at hB1 hs1
  have hB2 : Blk (w1.alloc (.cells #[.int .i64 kd, .int .i64 a2, .string tx, .int .i64 n] 33)) w1.heap.size 33 #[.int .i64 kd, .int .i64 a2, .string tx, .int .i64 n] := Blk.new w1 _ _
  have hB1' := hB1.alloc (.cells #[.int .i64 kd, .int .i64 a2, .string tx, .int .i64 n] 33)
  obtain ⟨w2, hw2⟩ : ∃ w2, w1.alloc (.cells #[.int .i64 kd, .int .i64 a2, .string tx, .int .i64 n] 33) = w2 := ⟨_, rfl⟩
  have hb2 : Below w1.heap.size w1 w2 := by rw [← hw2]; exact (Below.refl _ w1).alloc (Nat.le_refl _) _
  rw [hw2] at hB2 hB1'
  have pc := (hB1'.cell 1).trans rfl
  have pf := hB1'.frozen 1
  have pl := hB1'.lt
  have y1 := (hB2.cell 1).trans rfl
  have hB3 : Blk (w2.setCell ⟨w.heap.size, 1, none⟩ (.int .i64 a2)) w.heap.size 33 #[.int .i64 kd, .int .i64 a2, .string tx, .int .i64 n] := hB1'.set_ 1 _
  have hc3 : Chg [w.heap.size] w2 (w2.setCell ⟨w.heap.size, 1, none⟩ (.int .i64 a2)) := (Chg.refl _ _).setCell (.inl (by simp)) _
  obtain ⟨w3, hw3⟩ : ∃ w3, w2.setCell ⟨w.heap.size, 1, none⟩ (.int .i64 a2) = w3 := ⟨_, rfl⟩
  rw [hw3] at hB3 hc3
  have hB4 : Blk w3 w1.heap.size 33 #[.int .i64 kd, .int .i64 a2, .string tx, .int .i64 n] := (hc3.block _ hB2.lt (by rw [List.mem_singleton]; omega)).trans hB2
  have x0 := (hB3.cell 0).trans rfl
  have x1 := (hB3.cell 1).trans rfl
  have x2 := (hB3.cell 2).trans rfl
  have x3 := (hB3.cell 3).trans rfl
  have z0 := (hB4.cell 0).trans rfl
  have z1 := (hB4.cell 1).trans rfl
  have z2 := (hB4.cell 2).trans rfl
  have z3 := (hB4.cell 3).trans rfl
  have HB3 : Hid (Below w.heap.size w w3) := (hb1.trans (hb2.mono hb1.size)).trans (hc3.below (Nat.le_trans hb1.size hb2.size) (by simp))
  clear hB1 hB2 hB1' hb1 hb2 hB3 hB4 hc3 hs1
  go_enter Tryd.func31, Tryd.ntmps31
  go_wp2
  go_ret
  exact ⟨ret_b (by first | rfl | simp), HB3.out⟩

set_option maxHeartbeats 2000000 in
theorem tkSame_any (L M : List Tk) (a b : Option Addr) (c d : Nat) (w : World) (hL : Arr w.heap.size w a (cellsTk L)) (hM : Arr w.heap.size w b (cellsTk M)) (hlen : L.length = M.length) (hbd : L.length ≤ 1000000)
    (hlike : ∀ k (h1 : k < L.length) (h2 : k < M.length), L[k].kd = M[k].kd ∧ L[k].tx = M[k].tx ∧ L[k].n = M[k].n) :
    Calls Tryd.prog 30 #[.slice a L.length c, .slice b M.length d, .func (.func 31) #[] #[]] w fun e w' => e = .returned (.bool true) ∧ Below w.heap.size w w' := by
  obtain ⟨m, hm⟩ : ∃ m, L.length = m := ⟨_, rfl⟩
  have hm2 : M.length = m := hlen.symm.trans hm
  have HL := Lib.hid hL
  have HM := Lib.hid hM
  have HK := Lib.hid hlike
  have HLm := Lib.hid hm
  have HMm := Lib.hid hm2
  have hmm : ((m : Int) != (m : Int)) = false := by simp
  rw [hm] at hbd
  rw [hm, hm2]
  clear hL hM hlen hlike hm hm2
  go_enter Tryd.func30, Tryd.ntmps30
  go_wp2
  clear hmm
  go_loopw [17] (fun i wr => ∃ k : Nat, k ≤ m ∧ i = .int .i64 k ∧ Hid (Below w.heap.size w wr)) (fun i _ => m - (intOf i).toNat)
  case atStart => exact ⟨0, by omega, rfl, Below.refl _ _⟩
  case round =>
    obtain ⟨k, hk, rfl, HBr⟩ := hrel
    by_cases hlt : k < m
    · have hkl : k < L.length := by rw [HLm.out]; exact hlt
      have hkm : k < M.length := by rw [HMm.out]; exact hlt
      obtain ⟨b1, o1, hab, hbN, t0, t1, t2, t3⟩ := tkAt (HL.out.below HBr.out) hkl
      obtain ⟨e1, e2, e3⟩ := HK.out k hkl hkm
      generalize L[k] = x at *
      subst hab
      have hbx := (Below.refl wr.heap.size wr).alloc (Nat.le_refl _) (.cells #[.int .i64 x.kd, .int .i64 x.at_, .string x.tx, .int .i64 x.n] 33)
      obtain ⟨w1, hw1⟩ : ∃ w1, wr.alloc (.cells #[.int .i64 x.kd, .int .i64 x.at_, .string x.tx, .int .i64 x.n] 33) = w1 := ⟨_, rfl⟩
      have hX := Slot4.new wr 33 (.int .i64 x.kd) (.int .i64 x.at_) (.string x.tx) (.int .i64 x.n)
      have hs1 : wr.heap.size < w1.heap.size := by rw [← hw1]; simp
      rw [hw1] at hbx hX
      have hb1 := HBr.out.trans (hbx.mono HBr.out.size)
      obtain ⟨b2, o2, hab2, hbN2, u0, u1, u2, u3⟩ := tkAt (HM.out.below hb1) hkm
      rw [← e1] at u0
      rw [← e2] at u2
      rw [← e3] at u3
      generalize M[k].at_ = y at *
      subst hab2
      have hby := (Below.refl w1.heap.size w1).alloc (Nat.le_refl _) (.cells #[.int .i64 x.kd, .int .i64 y, .string x.tx, .int .i64 x.n] 33)
      have hY := Slot4.new w1 33 (.int .i64 x.kd) (.int .i64 y) (.string x.tx) (.int .i64 x.n)
      obtain ⟨w2, hw2⟩ : ∃ w2, w1.alloc (.cells #[.int .i64 x.kd, .int .i64 y, .string x.tx, .int .i64 x.n] 33) = w2 := ⟨_, rfl⟩
      rw [hw2] at hby hY
      have hX2 := hX.later hs1 hby
      obtain ⟨x0, x1, x2, x3⟩ := hX2
      obtain ⟨y0, y1, y2, y3⟩ := hY
      have HB2 := Lib.hid (hb1.trans (hby.mono hb1.size))
      have HY := Lib.hid (same1_any x.kd x.n x.at_ y x.tx w2)
      clear hbx hby hX hb1 e1 e2 e3 hkl hkm
      go_wp2_with fail
      refine HY.out.mono ?_
      rintro e w3 ⟨rfl, hb3⟩
      have HB3 := Lib.hid (HB2.out.trans (hb3.mono HB2.out.size))
      clear hb3 HY x0 x1 x2 x3 y0 y1 y2 y3 t0 t1 t2 t3 u0 u1 u2 u3
      go_wp2
      go_roundw
      case rel => exact ⟨k + 1, by omega, by go_num, HB3.out⟩
      case measure => simp [intOf]; omega
    · have q0 : decide ((k : Int) < (m : Int)) = false := by simp; omega
      go_wp2
      go_ret
      exact ⟨rfl, HBr.out⟩
theorem tkSm_any (L M : List Tk) (a b : Option Addr) (c d : Nat) (w : World) (hL : Arr w.heap.size w a (cellsTk L)) (hM : Arr w.heap.size w b (cellsTk M)) (hlen : L.length = M.length) (hbd : L.length ≤ 1000000)
    (hlike : ∀ k (h1 : k < L.length) (h2 : k < M.length), L[k].kd = M[k].kd ∧ L[k].tx = M[k].tx ∧ L[k].n = M[k].n) :
    Calls Tryd.prog 11 #[.slice a L.length c, .slice b M.length d] w fun e w' => e = .returned (.bool true) ∧ Below w.heap.size w w' := by
  have HS := Lib.hid (tkSame_any L M a b c d w hL hM hlen hbd hlike)
  clear hL hM hlen hlike hbd
  generalize L.length = m at *
  generalize M.length = q at *
  go_enter Tryd.func11, Tryd.ntmps11
  go_wp2_with fail
  refine HS.out.mono ?_
  rintro e w1 ⟨rfl, hb⟩
  have HB := Lib.hid hb
  clear hb
  go_wp2
  go_ret
  exact ⟨rfl, HB.out⟩
end Go.Proofs.YtbnddpicpomakaaDoor

/- The walk of the law TokenPlaces. -/
set_option linter.unusedSimpArgs false
set_option linter.unusedVariables false
set_option maxRecDepth 100000
namespace Go.Proofs.YtbnddpicpomakaaDoor
open Go.RowKit

theorem blanks_step (n : Nat) : blanksS (n + 1) = blanksS n ++ ⟨#[32]⟩ := by
  unfold blanksS blanksL
  rw [List.replicate_succ']
  apply ByteArray.ext
  unfold strN
  apply Array.toList_inj.1
  simp
theorem blanks_size (n : Nat) : (blanksS n).size = n := by unfold blanksS; rw [strN_size, blanks_len]
/-- What lies there: the tokens, the fault. -/
structure PlE (w W : World) (a : Option Addr) (T : List Tk) (B : Nat) (p c : Int) : Prop where
  arr : Arr W.heap.size W a (cellsTk T)
  f0 : W.cell? ⟨B, 0, none⟩ = some (.int .i64 p)
  f1 : W.cell? ⟨B, 1, none⟩ = some (.int .i64 c)
  lt : B < W.heap.size
  bel : Below w.heap.size w W
theorem PlE.later {w W W' : World} {a : Option Addr} {T : List Tk} {B : Nat} {p c : Int} (h : PlE w W a T B p c) (hb : Below W.heap.size W W') : PlE w W' a T B p c :=
  ⟨(h.arr.below hb).mono hb.size, (hb.cell (p := ⟨B, 0, none⟩) h.lt).trans h.f0, (hb.cell (p := ⟨B, 1, none⟩) h.lt).trans h.f1, Nat.lt_of_lt_of_le h.lt hb.size, h.bel.trans (hb.mono h.bel.size)⟩
theorem PlE.new {w W : World} {a : Option Addr} {T : List Tk} {p c : Int} (hA : Arr W.heap.size W a (cellsTk T)) (hb : Below w.heap.size w W) : PlE w (W.alloc (.cells #[.int .i64 p, .int .i64 c] 26)) a T W.heap.size p c := by
  have b1 := (Below.refl W.heap.size W).alloc (Nat.le_refl _) (.cells #[.int .i64 p, .int .i64 c] 26)
  exact ⟨(hA.below b1).mono b1.size, by rw [World.cell?_alloc_at _ _ _ _ rfl]; rfl, by rw [World.cell?_alloc_at _ _ _ _ rfl]; rfl, by simp, hb.trans (b1.mono hb.size)⟩

set_option maxHeartbeats 16000000 in
theorem places_walk (s : ByteArray) (bl : Int) (w : World) (hT : Pre6 w) (hs : s.size ≤ 140737488351232) :
    Calls Tryd.prog 4 #[.string s, .int .i64 bl] w fun e w' => e = .returned (.bool true) ∧ Below w.heap.size w w' := by
  have HAl := Lib.hid (fun W (hb : Below w.heap.size w W) => alive19_any W (hT.below hb))
  have HRd := Lib.hid (fun (t : ByteArray) W (hb : Below w.heap.size w W) (ht : t.size ≤ 140737488351232) => tkRead_any t W (hT.below hb) ht)
  have HBw : Hid (Below w.heap.size w w) := Below.refl _ _
  clear hT
  by_cases h1 : 1000 < s.size
  · have q1 : decide ((1000 : Int) < (s.size : Int)) = true := by simp; omega
    have q2 : (1000 : Int) < (s.size : Int) := by omega
    go_enter Tryd.func4, Tryd.ntmps4
    go_wp2_with fail
    refine (HAl.out _ HBw.out).mono ?_
    rintro e w1 ⟨rfl, hb1⟩
    have HB1 := Lib.hid hb1
    clear hb1
    go_wp2
    go_ret
    exact ⟨rfl, HB1.out⟩
  have q1 : decide ((1000 : Int) < (s.size : Int)) = false := by simp; omega
  by_cases h2 : bl < 0
  · have q2 : decide (bl < 0) = true := by simpa using h2
    go_enter Tryd.func4, Tryd.ntmps4
    go_wp2_with fail
    refine (HAl.out _ HBw.out).mono ?_
    rintro e w1 ⟨rfl, hb1⟩
    have HB1 := Lib.hid hb1
    clear hb1
    go_wp2
    go_ret
    exact ⟨rfl, HB1.out⟩
  have q2 : decide (bl < 0) = false := by simpa using h2
  by_cases h3 : 50 < bl
  · have q3 : decide (50 < bl) = true := by simpa using h3
    go_enter Tryd.func4, Tryd.ntmps4
    go_wp2_with fail
    refine (HAl.out _ HBw.out).mono ?_
    rintro e w1 ⟨rfl, hb1⟩
    have HB1 := Lib.hid hb1
    clear hb1
    go_wp2
    go_ret
    exact ⟨rfl, HB1.out⟩
  have q3 : decide (50 < bl) = false := by simpa using h3
  obtain ⟨n, rfl⟩ : ∃ n : Nat, bl = (n : Int) := ⟨bl.toNat, by omega⟩
  have hn : n ≤ 50 := by omega
  have hat := read_at s (by omega)
  have hup := read_up s n (by omega)
  have hdec : (decS (bytesU s)).isSome = false → readV19 s = ([], 0, 3) := fun h => by simp only [readV19]; rw [if_neg (by omega), if_pos h]
  have HY := Lib.hid (HRd.out s w HBw.out hs)
  obtain ⟨⟨T, p, c⟩, hv⟩ : ∃ v, readV19 s = v := ⟨_, rfl⟩
  rw [hv] at hat hup hdec HY
  simp only at hat hup
  have HS2 : Hid (∀ W, Below w.heap.size w W → Calls Tryd.prog 9 #[.string (blanksS n ++ s)] W (RetRd19 (readV19 (blanksS n ++ s)) W)) := fun W hb => HRd.out _ W hb (by rw [ByteArray.size_append, blanks_size]; omega)
  have hz : ∀ k, (blanksS k).size = k := blanks_size
  have HBs := Lib.hid (fun k => blanks_step k)
  have HB0 : Hid (blanksS 0 = ⟨#[]⟩) := rfl
  have HPs : Hid (s.size ≤ 1000) := by show _ ≤ _; omega
  by_cases h0 : c = 0
  · rw [if_pos h0] at hup
    have qc0 : (c == 0) = true := by simpa using h0
    have qc1 : (c != 0) = false := by simpa using h0
    have qc4 : (c == 40) = false := by rw [h0]; rfl
    obtain ⟨z0, hz0⟩ : ∃ z0 : Nat, 0 = z0 := ⟨_, rfl⟩
    obtain ⟨z1, hz1'⟩ : ∃ z1 : Int, 0 = z1 := ⟨_, rfl⟩
    have hup2 : readV19 (blanksS n ++ s) = (T.map (Tk.up n), z0, z1) := by rw [hup, ← hz0, ← hz1']
    rw [hup2] at HS2
    have hz1 : z1 = 0 := hz1'.symm
    have hcz : c = 0 := h0
    have qz : (z1 != c) = false := by rw [hz1, hcz]; rfl
    have qz2 : (z1 == c) = true := by rw [hz1, hcz]; rfl
    obtain ⟨L, hL, h0s, hpw⟩ := hat.1 h0
    obtain ⟨q, hq⟩ : ∃ q, L.length = q := ⟨_, rfl⟩
    have hTl : T.length = q + 1 := by rw [hL, List.length_append, hq]; rfl
    have hTq : ∀ h : q < T.length, T[q] = ⟨0, (s.size : Int), ⟨#[]⟩, 0⟩ := fun h => by
      have : (L ++ [(⟨0, (s.size : Int), ⟨#[]⟩, 0⟩ : Tk)])[q]? = some ⟨0, (s.size : Int), ⟨#[]⟩, 0⟩ := by rw [List.getElem?_append_right (by omega), hq, Nat.sub_self]; rfl
      rw [← hL, List.getElem?_eq_getElem h] at this
      injection this
    have HT0 : Hid (∀ k (h : k < T.length), 0 ≤ T[k].at_) := fun k h => h0s _ (List.getElem_mem h)
    have HTr : Hid (∀ k (h : k + 1 < T.length), T[k].at_ < T[k + 1].at_) := fun k h => List.pairwise_iff_getElem.1 hpw k (k + 1) (by omega) h (by omega)
    have hsmall : T.length ≤ 100000 := by
      have : ∀ k (h : k < T.length), (k : Int) ≤ T[k].at_ := fun k => by
        induction k with
        | zero => intro h; have := HT0.out 0 h; omega
        | succ k ih => intro h; have := HTr.out k h; have := ih (by omega); omega
      have h5 := this q (by omega)
      rw [hTq (by omega)] at h5
      simp only at h5
      omega
    have hlk : ∀ k (h1 : k < T.length) (h2 : k < (T.map (Tk.up n)).length), T[k].kd = (T.map (Tk.up n))[k].kd ∧ T[k].tx = (T.map (Tk.up n))[k].tx ∧ T[k].n = (T.map (Tk.up n))[k].n := fun k h1 h2 => by
      rw [List.getElem_map]; exact ⟨rfl, rfl, rfl⟩
    have HSm : Hid (∀ (a b : Option Addr) (c d : Nat) W, Arr W.heap.size W a (cellsTk T) → Arr W.heap.size W b (cellsTk (T.map (Tk.up n))) → Calls Tryd.prog 11 #[.slice a (q + 1) c, .slice b (q + 1) d] W fun e w' => e = .returned (.bool true) ∧ Below W.heap.size W w') := fun a b c d W hA hB => by
      have := tkSm_any T (T.map (Tk.up n)) a b c d W hA hB (by rw [List.length_map]) (by omega) hlk
      rw [List.length_map, hTl] at this; exact this
    have hml : (T.map (Tk.up n)).length = q + 1 := by rw [List.length_map]; exact hTl
    have HTl := Lib.hid hTl
    have HTq := Lib.hid hTq
    generalize T.map (Tk.up n) = M at *
    have hqb : q + 1 ≤ 100000 := by omega
    clear hz1 hz1' hcz hz0 hup2 h0 hat hup hdec hv hL h0s hpw hq hlk hTq h1 h2 h3 HRd
    unfold RetRd19 at HY HS2
    simp only at HY HS2
    rw [hTl] at HY
    rw [hml] at HS2
    have wqf : IntKind.i64.wrap (((q + 1 : Nat) : Int) - 1) = (q : Int) := by rw [show ((q + 1 : Nat) : Int) - 1 = (q : Int) by omega]; exact IntWalk.i64_in _ (by omega)
    have qm0 : (((q + 1 : Nat) : Int) == 0) = false := by simp; omega
    clear hTl hml hsmall
    generalize hm : q + 1 = m at *
    have hqm : q < m := by omega
    have HMq := Lib.hid hm
    clear hm
    go_enter Tryd.func4, Tryd.ntmps4
    go_wp2_with fail
    refine HY.out.mono ?_
    rintro e w1 ⟨a1, c1, rfl, hc1, hm1, hA1, hb1⟩
    have HE1 := Lib.hid (PlE.new (p := (p : Int)) (c := c) hA1 hb1)
    obtain ⟨B, hB⟩ : ∃ B, w1.heap.size = B := ⟨_, rfl⟩
    obtain ⟨w2, hw2⟩ : ∃ w2, w1.alloc (.cells #[.int .i64 (p : Int), .int .i64 c] 26) = w2 := ⟨_, rfl⟩
    rw [hw2, hB] at HE1
    obtain ⟨b1, o1, hab, hbN, t0, t1, t2, t3⟩ := tkAt HE1.out.arr (k := q) (by rw [HTl.out]; have := HMq.out; omega)
    rw [HTq.out _] at t0 t1
    simp only at t0 t1
    have f1 := HE1.out.f1
    subst hab
    clear hA1 hb1 hbN t2 t3
    go_wp2
    clear t0 t1 f1 hw2 hB HY
    go_loopw [7] (fun i wr => ∃ k : Nat, k ≤ m ∧ i = .int .i64 (k : Int) ∧ Hid (PlE w wr (some ⟨b1, o1, none⟩) T B (p : Int) c)) (fun i _ => m - (intOf i).toNat)
    case atStart => exact ⟨0, by omega, rfl, HE1.out⟩
    case round =>
      obtain ⟨k, hk, rfl, HE⟩ := hrel
      by_cases hlt : k < m
      · have hkl : k < T.length := by rw [HTl.out]; have := HMq.out; omega
        obtain ⟨b2, o2, hab, hbN, -, t1, -, -⟩ := tkAt HE.out.arr hkl
        injection hab with hab
        injection hab with e1 e2
        subst e1 e2
        have hx0 := HT0.out k hkl
        have qx0 : decide (T[k].at_ < 0) = false := by simp; omega
        by_cases hk0 : k = 0
        · subst hk0
          generalize T[0].at_ = x at *
          rw [Nat.zero_mul] at t1
          have T1 : ∀ V, Later wr.drew V → V.cell? ⟨b1, o1 + 0 + 1, none⟩ = some (.int .i64 x) := fun V hV => ((Later.undrew hV).cell (p := ⟨b1, o1 + 0 + 1, none⟩) hbN).trans t1
          have T1' : ∀ V, Later wr.drew V → V.cell? ⟨b1, o1 + 1, none⟩ = some (.int .i64 x) := fun V hV => by have := T1 V hV; rw [Nat.add_zero] at this; exact this
          clear t1
          go_wp2_with fail
          refine wp_region_ord [(0, true), (1, true), (2, true), (3, true), (4, true), (5, true), (6, true), (7, true), (8, true), (9, true), (10, true), (11, true), (12, true), (13, true), (14, true), (15, true), (16, true), (17, true), (18, true), (19, true), (20, true), (21, true), (22, true), (23, true)] (by kernel_rfl) (by kernel_rfl) (by kernel_rfl) (by kernel_rfl) ?_
          repeat (first | (refine wpO_F (v := ?_) rfl (by rfl) (fun w' hL => ?_) ?_; rotate_left; (solve | (go_simp; with_reducible rfl) | go_simp); try simp only [Act.put, List.setIfInBounds_toArray, List.set_cons_zero, List.set_cons_succ]) | (refine wpO_G rfl (by rfl) ?_; try simp only [Act.put, List.setIfInBounds_toArray, List.set_cons_zero, List.set_cons_succ]))
          refine wpO_nil ?_
          have HE2 := Lib.hid (HE.out.later (Below.refl _ wr).drew)
          clear T1 T1'
          go_wp2
          go_roundw
          case rel => exact ⟨1, by omega, by go_num, HE2.out⟩
          case measure => (simp [intOf] <;> try omega)
        · obtain ⟨j, rfl⟩ : ∃ j, k = j + 1 := ⟨k - 1, by omega⟩
          have hjl : j < T.length := by omega
          obtain ⟨b3, o3, hab, hbN3, -, u1, -, -⟩ := tkAt HE.out.arr hjl
          injection hab with hab
          injection hab with e1 e2
          subst e1 e2
          have hr := HTr.out j hkl
          have qr : decide (T[j + 1].at_ ≤ T[j].at_) = false := by simp; omega
          generalize T[j + 1].at_ = x at *
          generalize T[j].at_ = y at *
          have qg : decide ((0 : Int) < ((j + 1 : Nat) : Int)) = true := decide_eq_true (by omega)
          have wj : IntKind.i64.wrap (((j + 1 : Nat) : Int) - 1) = (j : Int) := by rw [show ((j + 1 : Nat) : Int) - 1 = (j : Int) by omega]; exact IntWalk.i64_in _ (by omega)
          have hjm : j < m := by omega
          obtain ⟨K, hK⟩ : ∃ K, j + 1 = K := ⟨_, rfl⟩
          rw [hK] at t1 qg wj hlt
          have T1 : ∀ V, Later wr.drew V → V.cell? ⟨b1, o1 + K * 4 + 1, none⟩ = some (.int .i64 x) := fun V hV => ((Later.undrew hV).cell (p := ⟨b1, o1 + K * 4 + 1, none⟩) hbN).trans t1
          have U1 : ∀ V, Later wr.drew V → V.cell? ⟨b1, o1 + j * 4 + 1, none⟩ = some (.int .i64 y) := fun V hV => ((Later.undrew hV).cell (p := ⟨b1, o1 + j * 4 + 1, none⟩) hbN).trans u1
          have qK : 0 < K := by omega
          have HK := Lib.hid hK
          rw [hK]
          clear t1 u1 hK
          go_wp2_with fail
          refine wp_region_ord [(0, true), (1, true), (2, true), (3, true), (4, true), (5, true), (6, true), (7, true), (8, true), (9, true), (10, true), (11, true), (12, true), (13, true), (14, true), (15, true), (16, true), (17, true), (18, true), (19, true), (20, true), (21, true), (22, true), (23, true)] (by kernel_rfl) (by kernel_rfl) (by kernel_rfl) (by kernel_rfl) ?_
          repeat (first | (refine wpO_F (v := ?_) rfl (by rfl) (fun w' hL => ?_) ?_; rotate_left; (solve | (go_simp; with_reducible rfl) | go_simp); try simp only [Act.put, List.setIfInBounds_toArray, List.set_cons_zero, List.set_cons_succ]) | (refine wpO_G rfl (by rfl) ?_; try simp only [Act.put, List.setIfInBounds_toArray, List.set_cons_zero, List.set_cons_succ]))
          refine wpO_nil ?_
          have HE2 := Lib.hid (HE.out.later (Below.refl _ wr).drew)
          clear T1 U1
          go_wp2
          go_roundw
          case rel => exact ⟨K + 1, by omega, by go_num, HE2.out⟩
          case measure => (simp [intOf] <;> try omega)
      · have q0 : decide ((k : Int) < (m : Int)) = false := by simp; omega
        clear hk
        go_wp2
        clear q0
        go_loopw [8, 9] (fun v i wq => ∃ k2 : Nat, k2 ≤ n ∧ v = .string (blanksS k2) ∧ i = .int .i64 (k2 : Int) ∧ wq = wr) (fun _ i _ => n - (intOf i).toNat)
        case atStart => exact ⟨0, by omega, by rw [HB0.out], rfl, rfl⟩
        case round =>
          obtain ⟨k2, hk2, rfl, rfl, rfl⟩ := hrel
          by_cases hlt2 : k2 < n
          · have hz2 := hz k2
            have HSt := Lib.hid (HBs.out k2)
            generalize blanksS k2 = O at *
            have s1 : ¬ 9223372036854775807 < O.size + 1 := by omega
            have s2 : ¬ 9223372036854775807 < k2 + 1 := by omega
            have ql : decide ((k2 : Int) < (n : Int)) = true := by simp; omega
            clear hz
            go_wp2
            go_roundw
            case rel => exact ⟨k2 + 1, by omega, by rw [HSt.out], by go_num, (by first | rfl | trivial)⟩
            case measure => (simp [intOf] <;> try omega)
          · have hkn : k2 = n := by omega
            subst hkn
            have ql : decide ((k2 : Int) < (k2 : Int)) = false := by simp
            have hzn := hz k2
            have hPs := HPs.out
            have HY2 := Lib.hid (HS2.out _ HE.out.bel)
            generalize blanksS k2 = O at *
            have s1 : ¬ 9223372036854775807 < O.size + s.size := by omega
            have s2 : ¬ 9223372036854775807 < k2 + s.size := by omega
            clear hz HS2 hk2 hlt2
            go_wp2_with fail
            refine HY2.out.mono ?_
            rintro e w3 ⟨a3, c3, rfl, hc3, hm3, hA3, hb3⟩
            have HEa := Lib.hid (HE.out.later hb3)
            have HGa := Lib.hid (PlE.new (w := w) (p := (z0 : Int)) (c := z1) hA3 HEa.out.bel)
            obtain ⟨w4, hw4⟩ : ∃ w4, w3.alloc (.cells #[.int .i64 (z0 : Int), .int .i64 z1] 26) = w4 := ⟨_, rfl⟩
            have hbA : Below w3.heap.size w3 w4 := by rw [← hw4]; exact (Below.refl _ w3).alloc (Nat.le_refl _) _
            rw [hw4] at HGa
            have HEb := Lib.hid (HEa.out.later hbA)
            have f0 := HEb.out.f0
            have f1 := HEb.out.f1
            have g0 := HGa.out.f0
            have g1 := HGa.out.f1
            obtain ⟨C, hC⟩ : ∃ C, w3.heap.size = C := ⟨_, rfl⟩
            rw [hC] at HGa g0 g1
            clear hA3 hb3 hbA HY2 s1 s2
            have qmm : ((m : Int) != (m : Int)) = false := by simp
            go_wp2_with fail
            refine (HAl.out _ HGa.out.bel).mono ?_
            rintro e w5 ⟨rfl, hb5⟩
            have HEc := Lib.hid (HEb.out.later hb5)
            have HGc := Lib.hid (HGa.out.later hb5)
            clear hb5 f0 f1 g0 g1 hw4 hC
            have f1 := HEc.out.f1
            have HY3 := Lib.hid (HSm.out _ _ c1 c3 w5 HEc.out.arr HGc.out.arr)
            go_wp2_with fail
            refine HY3.out.mono ?_
            rintro e w6 ⟨rfl, hb6⟩
            have HB6 := Lib.hid (HEc.out.bel.trans (hb6.mono HEc.out.bel.size))
            clear hb6 HY3 f1
            go_wp2
            go_ret
            exact ⟨ret_b (by first | rfl | simp), HB6.out⟩
  · have qc1 : (c != 0) = true := by simpa using h0
    have qc0 : (c == 0) = false := by simpa using h0
    rw [if_neg h0] at hup
    have hT0 := hat.2.1 h0
    have hps := hat.2.2
    subst hT0
    have hv2 : ∃ p2, readV19 (blanksS n ++ s) = ([], p2, c) ∧ (c = 40 → p2 = n + p) := by
      rw [hup]
      by_cases hd : (decS (bytesU s)).isSome = false
      · rw [if_pos hd]
        have := hdec hd
        injection this with _ h5
        injection h5 with h6 h7
        exact ⟨0, by rw [h7], fun h => by rw [h7] at h; cases h⟩
      · rw [if_neg hd]; exact ⟨_, rfl, fun _ => rfl⟩
    obtain ⟨p2, hv2, hp2⟩ := hv2
    rw [hv2] at HS2
    have qp0 : decide ((p : Int) < 0) = false := by simp
    have qps : decide ((s.size : Int) < (p : Int)) = false := by simp; omega
    clear h0 hat hup hdec hv h1 h2 h3 HRd hv2
    unfold RetRd19 at HY HS2
    try simp only [List.length_nil] at HY
    try simp only [List.length_nil] at HS2
    go_enter Tryd.func4, Tryd.ntmps4
    go_wp2_with fail
    refine HY.out.mono ?_
    rintro e w1 ⟨a1, c1, rfl, hc1, hm1, hA1, hb1⟩
    have HE := Lib.hid (PlE.new (p := (p : Int)) (c := c) hA1 hb1)
    obtain ⟨B, hB⟩ : ∃ B, w1.heap.size = B := ⟨_, rfl⟩
    obtain ⟨wr, hw2⟩ : ∃ w2, w1.alloc (.cells #[.int .i64 (p : Int), .int .i64 c] 26) = w2 := ⟨_, rfl⟩
    rw [hw2, hB] at HE
    have f0 := HE.out.f0
    have f1 := HE.out.f1
    clear hA1 hb1 HY
    go_wp2
    clear f0 f1 hw2 hB
    go_loopw [8, 9] (fun v i wq => ∃ k2 : Nat, k2 ≤ n ∧ v = .string (blanksS k2) ∧ i = .int .i64 (k2 : Int) ∧ wq = wr) (fun _ i _ => n - (intOf i).toNat)
    case atStart => exact ⟨0, by omega, by rw [HB0.out], rfl, rfl⟩
    case round =>
      obtain ⟨k2, hk2, rfl, rfl, rfl⟩ := hrel
      by_cases hlt2 : k2 < n
      · have hz2 := hz k2
        have HSt := Lib.hid (HBs.out k2)
        generalize blanksS k2 = O at *
        have s1 : ¬ 9223372036854775807 < O.size + 1 := by omega
        have s2 : ¬ 9223372036854775807 < k2 + 1 := by omega
        have ql : decide ((k2 : Int) < (n : Int)) = true := by simp; omega
        clear hz
        go_wp2
        go_roundw
        case rel => exact ⟨k2 + 1, by omega, by rw [HSt.out], by go_num, (by first | rfl | trivial)⟩
        case measure => (simp [intOf] <;> try omega)
      · have hkn : k2 = n := by omega
        subst hkn
        have ql : decide ((k2 : Int) < (k2 : Int)) = false := by simp
        have hzn := hz k2
        have hPs := HPs.out
        have HY2 := Lib.hid (HS2.out _ HE.out.bel)
        generalize blanksS k2 = O at *
        have s1 : ¬ 9223372036854775807 < O.size + s.size := by omega
        have s2 : ¬ 9223372036854775807 < k2 + s.size := by omega
        clear hz HS2 hk2 hlt2
        go_wp2_with fail
        refine HY2.out.mono ?_
        rintro e w3 ⟨a3, c3, rfl, hc3, hm3, hA3, hb3⟩
        have HEa := Lib.hid (HE.out.later hb3)
        have HGa := Lib.hid (PlE.new (w := w) (p := (p2 : Int)) (c := c) hA3 HEa.out.bel)
        obtain ⟨w4, hw4⟩ : ∃ w4, w3.alloc (.cells #[.int .i64 (p2 : Int), .int .i64 c] 26) = w4 := ⟨_, rfl⟩
        have hbA : Below w3.heap.size w3 w4 := by rw [← hw4]; exact (Below.refl _ w3).alloc (Nat.le_refl _) _
        rw [hw4] at HGa
        have HEb := Lib.hid (HEa.out.later hbA)
        have f0 := HEb.out.f0
        have f1 := HEb.out.f1
        have g0 := HGa.out.f0
        have g1 := HGa.out.f1
        obtain ⟨C, hC⟩ : ∃ C, w3.heap.size = C := ⟨_, rfl⟩
        rw [hC] at HGa g0 g1
        clear hA3 hb3 hbA HY2 s1 s2
        have qcc : (c != c) = false := by simp
        by_cases hc40 : c = 40
        · have q40 : (c == 40) = true := by simpa using hc40
          have hpp := hp2 hc40
          have wp : IntKind.i64.wrap ((p2 : Int) - (k2 : Int)) = (p : Int) := by rw [show (p2 : Int) - (k2 : Int) = (p : Int) by omega]; exact IntWalk.i64_in _ (by omega)
          have wp2 : (p2 : Int) - (k2 : Int) = (p : Int) := by omega
          have qpp : ((p : Int) != (p : Int)) = false := by simp
          clear hc40 hp2 hpp
          go_wp2_with fail
          refine (HAl.out _ HGa.out.bel).mono ?_
          rintro e w5 ⟨rfl, hb5⟩
          have HEc := Lib.hid (HEb.out.later hb5)
          clear hb5 f0 f1 g0 g1 hw4 hC
          have f1 := HEc.out.f1
          go_wp2
          go_ret
          exact ⟨ret_b (by first | rfl | simp), HEc.out.bel⟩
        · have q40 : (c == 40) = false := by simpa using hc40
          clear hc40 hp2
          go_wp2_with fail
          refine (HAl.out _ HGa.out.bel).mono ?_
          rintro e w5 ⟨rfl, hb5⟩
          have HEc := Lib.hid (HEb.out.later hb5)
          clear hb5 f0 f1 g0 g1 hw4 hC
          have f1 := HEc.out.f1
          go_wp2
          go_ret
          exact ⟨ret_b (by first | rfl | simp), HEc.out.bel⟩
end Go.Proofs.YtbnddpicpomakaaDoor

/- Rows of values that came in, element by element. -/
set_option linter.unusedSimpArgs false
set_option linter.unusedVariables false
set_option maxRecDepth 100000
namespace Go.Proofs.YtbnddpicpomakaaDoor
open Go.RowKit Go.ChangeShapes Go.WideShapes Go.Deep Go.Joins

theorem cellsOf_at {α : Type} (f : α → List Value) (z : Nat) (hz : 0 < z) (hf : ∀ x, (f x).length = z) : ∀ (l : List α) (i : Nat) (v : Value), (cellsOf f l)[i]? = some v → ∃ y, l[i / z]? = some y ∧ (f y)[i % z]? = some v
  | [], i, v, h => by simp [cellsOf] at h
  | x :: r, i, v, h => by
    have e : cellsOf f (x :: r) = f x ++ cellsOf f r := rfl
    rw [e] at h
    by_cases hi : i < z
    · rw [List.getElem?_append_left (by rw [hf]; exact hi)] at h
      exact ⟨x, by rw [Nat.div_eq_of_lt hi]; rfl, by rw [Nat.mod_eq_of_lt hi]; exact h⟩
    · rw [List.getElem?_append_right (by rw [hf]; omega), hf] at h
      obtain ⟨y, h1, h2⟩ := cellsOf_at f z hz hf r (i - z) v h
      have e1 : i = (i - z) + z := by omega
      refine ⟨y, ?_, ?_⟩
      · rw [e1, Nat.add_div_right _ hz]; exact h1
      · rw [e1, Nat.add_mod_right]; exact h2

/-- A row of values that came in, element by element. -/
theorem row_of {α : Type} (f : α → List Value) (z : Nat) (hz : 0 < z) (hf : ∀ x, (f x).length = z) (Q : α → Prop) (w : World) (x : Addr) (len : Nat)
    (hex : ∀ i : Fin len, ∃ y, Q y ∧ ∀ (j : Nat) (v : Value), (f y)[j]? = some v → w.cell? ((x.add (i.1 * z)).add j) = some v) :
    ∃ L : List α, L.length = len ∧ Arr w.heap.size w (some x) (cellsOf f L) ∧ ∀ y ∈ L, Q y := by
  obtain ⟨g, hg⟩ := Classical.axiomOfChoice hex
  refine ⟨List.ofFn g, by simp, ?_, ?_⟩
  · by_cases h0 : len = 0
    · left; subst h0; simp [cellsOf]
    · right
      obtain ⟨b, o, spot⟩ := x
      have hlen0 : 0 < (f (g ⟨0, by omega⟩)).length := by rw [hf]; exact hz
      have hc0 := (hg ⟨0, by omega⟩).2 0 _ (List.getElem?_eq_getElem hlen0)
      have hspot : spot = none := by
        have := World.cell?_spot hc0
        simpa [Addr.add] using this
      subst hspot
      have hblk := World.block_lt_of_cell? _ _ hc0
      refine ⟨b, o, rfl, by simpa [Addr.add] using hblk, fun i v hv => ?_⟩
      obtain ⟨y, h1, h2⟩ := cellsOf_at f z hz hf _ i v hv
      rw [List.getElem?_ofFn] at h1
      split at h1
      · rename_i hlt
        simp only [Option.some.injEq] at h1
        subst h1
        have hh := (hg ⟨i / z, hlt⟩).2 _ v h2
        have e1 : ((⟨b, o, none⟩ : Addr).add (i / z * z)).add (i % z) = ⟨b, o + i, none⟩ := by
          have : i / z * z + i % z = i := Nat.div_add_mod' i z
          simp only [Addr.add]
          split <;> split <;> simp_all <;> omega
        rw [e1] at hh
        exact hh
      · cases h1
  · intro y hy
    rw [List.mem_ofFn] at hy
    obtain ⟨i, rfl⟩ := hy
    exact (hg i).1

set_option maxRecDepth 100000 in
theorem trod_nums {H : Type} {enc : TypeId × Value → H} {w : World} {fuel : Nat} {cs : List Value} {x : DataW H × List MemPlace}
    (h : DataW.trod enc Tryd.prog w 0 (fun _ => true) true fuel 71 cs = some x) :
    ∃ (a : Option Addr) (len cap : Nat) (L : List Int), cs = [.slice a len cap] ∧ L.length = len ∧ len ≤ cap ∧ cap ≤ 9223372036854775807 ∧ Arr w.heap.size w a (cellsI L) ∧ ∀ p ∈ L, -9223372036854775808 ≤ p ∧ p ≤ 9223372036854775807 := by
  rcases open_slice Tryd.underlying71 h with ⟨hcs, _⟩ | ⟨x, l, c, m, n, D, Pl, hcs, _, hl, hm, hmm, _, hi⟩
  · exact ⟨none, 0, 0, [], hcs, rfl, by omega, by omega, .inl rfl, by simp⟩
  · have hmc : m = c := by simpa using hmm
    have hC : Tryd.prog.cellsOf 3 = 1 := by kernel_rfl
    unfold maxLen at hm
    obtain ⟨L, h1, h2, h3⟩ := row_of (fun n : Int => [Value.int .i64 n]) 1 (by omega) (fun _ => rfl) (fun p => -9223372036854775808 ≤ p ∧ p ≤ 9223372036854775807) w x l (fun i => by
      obtain ⟨cs', hc', ht'⟩ := hi i.1 (by have := i.2; omega)
      rw [hC] at hc'
      obtain ⟨_, hlen, hat⟩ := World.cells?_some hc'
      obtain ⟨s, e0, -, w0⟩ := DataW.trod_int Tryd.underlying3 ht'
      subst e0
      exact ⟨s, bd_i64 w0, fun j v hj => by rw [hat j (by have := (List.getElem?_eq_some_iff.1 hj).1; simpa using this)]; exact hj⟩)
    exact ⟨some x, l, c, L, hcs, h1, hl, by omega, h2, h3⟩
end Go.Proofs.YtbnddpicpomakaaDoor
