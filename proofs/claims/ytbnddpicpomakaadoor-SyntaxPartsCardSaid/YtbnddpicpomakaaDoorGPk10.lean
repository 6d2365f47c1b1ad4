/- Several texts of one proof, one behind the other. -/
import Derived.Test.YtbnddpicpomakaaDoorGPk9
import Derived.Shelf.Strings.OnBuilder
import Derived.Lib.ItoaLen
set_option linter.unusedSimpArgs false
set_option linter.unusedVariables false

/- The walk of token.Write. -/
set_option linter.unusedSimpArgs false
set_option linter.unusedVariables false
set_option maxRecDepth 100000
namespace Go.Proofs.YtbnddpicpomakaaDoor
open Go.RowKit

theorem extraJoin : Builder.Extra Tryd.prog Tryd.laysJoin_ren := {
  sizeBuilder := by kernel_rfl
  liesBuilder := by kernel_rfl
  t5 := Tryd.underlying5
  a5 := Tryd.isAgg5
  z5 := Tryd.sizeOf5
  v5 := Tryd.zeroValue5
  infoByte := by kernel_rfl
  cellsByte := by kernel_rfl
  sizeByte := by kernel_rfl
  neB5 := by decide }

/-- Strings with another one between them. -/
def joinL (xs : List ByteArray) (sep : ByteArray) : List UInt8 := Lib.join (xs.map (·.data.toList)) sep.data.toList
def joinS (xs : List ByteArray) (sep : ByteArray) : ByteArray := baL (joinL xs sep)

theorem Join_any (xs : List ByteArray) (sep : ByteArray) (a : Option Addr) (c : Nat) (w : World) (hA : Arr w.heap.size w a (cellsS xs)) (hc : xs.length ≤ c) (hn : xs.length ≤ 100000000) (hl : (joinL xs sep).length ≤ 140737488355328) :
    Calls Tryd.prog 29 #[.slice a xs.length c, .string sep] w fun e w' => e = .returned (.string (joinS xs sep)) ∧ Below w.heap.size w w' := by
  by_cases h0 : xs = []
  · subst h0
    refine (Any.strings_Join_none { Tryd.laysJoin with } extraJoin a c sep w).mono ?_
    rintro e w' ⟨rfl, rfl⟩
    exact ⟨rfl, Below.refl _ _⟩
  · have hk : 0 < xs.length := by cases xs with | nil => exact absurd rfl h0 | cons x r => simp
    obtain ⟨b, o, rfl, hb, -⟩ := strAt hA hk
    refine (Any.strings_Join { Tryd.laysJoin with } extraJoin b o c xs sep w ?_ hb (by omega) hc hl).mono fun e w' h => h
    intro j x hj
    have hjl : j < xs.length := (List.getElem?_eq_some_iff.1 hj).1
    obtain ⟨b', o', he, -, hcell⟩ := strAt hA hjl
    injection he with he
    injection he with e1 e2
    subst e1 e2
    rw [List.getElem?_eq_getElem hjl] at hj
    injection hj with hj
    subst hj
    exact hcell

/-- The texts of tokens. -/
def textsTk (l : List Tk) : List ByteArray := l.filterMap fun t => if t.text.2 then some t.text.1 else none
theorem textsTk_take {l : List Tk} {k : Nat} (h : k < l.length) : textsTk (l.take (k + 1)) = textsTk (l.take k) ++ (if l[k].text.2 then [l[k].text.1] else []) := by
  unfold textsTk; rw [List.take_succ_eq_append_getElem h, List.filterMap_append]
  congr 1
  simp only [List.filterMap_cons, List.filterMap_nil]
  split <;> split at * <;> simp_all
theorem textsTk_len (l : List Tk) : (textsTk l).length ≤ l.length := List.length_filterMap_le _ _
theorem cellsS_snoc (l : List ByteArray) (s : ByteArray) : cellsS (l ++ [s]) = cellsS l ++ [.string s] := cellsOf_snoc _ _ _
theorem info_strT : (Tryd.prog.info? 9).map (fun i => (i.zero, i.size, i.bytes)) = some (some (.string ⟨#[]⟩), 1, 16) := by kernel_rfl
def spS : ByteArray := ⟨#[32]⟩

set_option maxHeartbeats 2000000 in
theorem tkWrite_any (l : List Tk) (a : Option Addr) (len cap : Nat) (w : World) (hT : Pre4 w) (hA : Arr w.heap.size w a (cellsTk l)) (hlen : len = l.length) (hmax : len ≤ 1000000) (hF : ∀ t ∈ l, t.fair ∧ t.tx.size ≤ 400000) (hj : (joinL (textsTk l) spS).length ≤ 140737488355328) :
    Calls Tryd.prog 10 #[.slice a len cap] w fun e w' => e = .returned (.string (joinS (textsTk l) spS)) ∧ Below w.heap.size w w' := by
  obtain ⟨iS, hiS, hzS, hsS, hbS⟩ := info_parts info_strT
  have HA := Lib.hid hA
  have HL := Lib.hid hlen
  have HF := Lib.hid hF
  have HJ := Lib.hid hj
  obtain ⟨R, hR⟩ : ∃ R, joinS (textsTk l) spS = R := ⟨_, rfl⟩
  rw [hR]
  have HR := Lib.hid hR
  clear hR
  have HP := Lib.hid (fun W (hb : Below w.heap.size w W) => hT.below hb)
  have HV0 : Hid (w.ownsRow w.heap.size 9 1 (.slice none 0 0) 0 (cellsS (textsTk (l.take 0)))) := World.ownsRow_nil _ _ _ _
  clear hA hlen hF hT hj
  go_enter Tryd.func10, Tryd.ntmps10
  go_wp2
  go_loopw [3, 10] (fun v i wr => ∃ (k n : Nat) (cv : Value), cv = v ∧ k ≤ len ∧ n ≤ k ∧ i = .int .i64 (k : Int) ∧ Hid (n = (textsTk (l.take k)).length) ∧ Hid (wr.ownsRow w.heap.size 9 1 cv n (cellsS (textsTk (l.take k)))) ∧ Hid (Below w.heap.size w wr)) (fun _ i _ => len - (intOf i).toNat)
  case atStart => exact ⟨0, 0, _, rfl, by omega, by omega, rfl, rfl, HV0, Below.refl _ _⟩
  case round =>
    clear HV0
    obtain ⟨k, n, cv, rfl, hk, hnk, rfl, HN, HV, HB⟩ := hrel
    by_cases hlt : k < len
    · have hkl : k < l.length := by have := HL.out; omega
      obtain ⟨b, o, rfl, hbN, c0, c1, c2, c3⟩ := tkAt (HA.out.below HB.out) hkl
      have hTk := textsTk_take hkl
      have hft := HF.out l[k] (List.getElem_mem hkl)
      obtain ⟨t, ht⟩ : ∃ t, l[k] = t := ⟨_, rfl⟩
      rw [ht] at c0 c1 c2 c3 hTk hft
      have HTk := Lib.hid hTk
      have HX : Hid (∀ W, Below w.heap.size w W → Calls Tryd.prog 28 #[.agg #[.int .i64 t.kd, .int .i64 t.at_, .string t.tx, .int .i64 t.n]] W fun e w' => e = .returned (.tuple #[.string t.text.1, .bool t.text.2]) ∧ Below W.heap.size W w') := fun W hb => tkText_any t W (HP.out W hb) hft.1 hft.2
      obtain ⟨⟨x, q⟩, hxq⟩ : ∃ X, t.text = X := ⟨_, rfl⟩
      rw [hxq] at HX HTk
      simp only at HX HTk
      have HBs := Lib.hid HB.out.size
      have HY := Lib.hid (HX.out (wr.alloc (.cells #[.int .i64 t.kd, .int .i64 t.at_, .string t.tx, .int .i64 t.n] 33)) (HB.out.trans ((Below.refl w.heap.size wr).alloc HBs.out _)))
      clear ht hft hTk hxq hkl HX hbN
      go_wp2_with fail
      refine HY.out.mono ?_
      rintro e w2 ⟨rfl, hb2⟩
      have HB1 : Hid (Below wr.heap.size wr w2) := ((Below.refl _ wr).alloc (Nat.le_refl _) _).trans (hb2.mono (by simp))
      have HB2 := Lib.hid (HB.out.trans (HB1.out.mono HBs.out))
      have HBs2 := Lib.hid HB2.out.size
      have HV2 := Lib.hid (own_below HV.out (Nat.le_refl _) HB1.out)
      clear hb2 HY c0 c1 c2 c3 HV HB HB1 HBs
      cases q with
      | false =>
        go_wp2
        go_roundw
        case rel => exact ⟨k + 1, n, cv, rfl, by omega, by omega, by go_num, by rw [HTk.out]; simpa [Hid] using HN.out, by rw [HTk.out]; simpa [Hid] using HV2.out, HB2.out⟩
        case measure => simp [intOf]; omega
      | true =>
        have HTk2 : Hid (textsTk (l.take (k + 1)) = textsTk (l.take k) ++ [x]) := by rw [HTk.out]; rfl
        clear HTk
        go_wp2_with (first | (at_builtin; refine wpList_appC rfl _ _ 58 rfl w.heap.size 9 iS (.string ⟨#[]⟩) 1 16 Tryd.underlying58 hiS hzS rfl hsS (by omega) hbS (by omega) cv n _ [.string x] w2 HV2.out rfl _ rfl rfl (by simp [Value.oneCell']) rfl (by omega) HBs2.out ?_; intro v5 w5 hown5 hc5 hsz5; have HO5 := Lib.hid hown5; have HC5 := Lib.hid hc5; clear hown5 hc5 hsz5))
        have HB5 : Hid (Below w.heap.size w w5) := HB2.out.trans (((Below.refl w.heap.size w2).alloc HBs2.out _).trans (HC5.out.below (by have := HBs2.out; simp; omega) (fun g hg => (HV2.out.lt g (by simpa using hg)).1)))
        go_roundw
        case rel => exact ⟨k + 1, n + 1, v5, rfl, by omega, by omega, by go_num, by rw [HTk2.out, List.length_append, ← HN.out]; rfl, by rw [HTk2.out, cellsS_snoc]; exact HO5.out, HB5.out⟩
        case measure => simp [intOf]; omega
    · have hke : k = l.length := by have := HL.out; omega
      have HO := HV.out
      have hN := HN.out
      rw [hke, List.take_length] at HO hN
      obtain ⟨ac, cc, hcv, hcc, hcm, hA2⟩ := own_slice HO
      have htl := textsTk_len l
      have hll := HL.out
      have HY := Lib.hid (Join_any (textsTk l) spS ac cc wr hA2 (by omega) (by omega) HJ.out)
      rw [← hN] at HY
      rw [HR.out] at HY
      unfold spS at HY
      subst hcv
      clear HO hA2 hcc hcm hN htl hll hke HV HN HA HF HJ
      go_wp2_with fail
      refine HY.out.mono ?_
      rintro e w2 ⟨rfl, hb2⟩
      have HB2 := Lib.hid (HB.out.trans (hb2.mono HB.out.size))
      clear hb2 HY
      go_wp2
      go_ret
      exact ⟨rfl, HB2.out⟩
end Go.Proofs.YtbnddpicpomakaaDoor

/- The texts of expressions; the walks of literal and column. -/
set_option linter.unusedSimpArgs false
set_option linter.unusedVariables false
set_option maxRecDepth 100000
namespace Go.Proofs.YtbnddpicpomakaaDoor
open Go.RowKit

/-- The token of a literal. -/
def Vl.tk (v : Vl) : Tk := if v.k = 1 then ⟨2, 0, ⟨#[]⟩, v.n⟩ else if v.k = 2 then ⟨3, 0, v.s, 0⟩ else if v.k = 3 then ⟨4, 0, v.s, 0⟩ else ⟨1, 0, ⟨#[110, 117, 108, 108]⟩, 0⟩
def Vl.litS (v : Vl) : ByteArray := joinS (textsTk [v.tk]) spS
def Lb.colS (l : Lb) : ByteArray := if l.tb.toList.isEmpty then l.nm else l.tb ++ ⟨#[46]⟩ ++ l.nm
/-- The text of a label, of which the arguments have these texts. -/
def Lb.textOf (l : Lb) (ts : List ByteArray) : ByteArray :=
  if l.kd = 1 then l.v.litS
  else if l.kd = 2 then l.colS
  else if l.kd = 3 then (⟨#[40]⟩ : ByteArray) ++ l.op ++ ⟨#[32]⟩ ++ ts.getD 0 ⟨#[]⟩ ++ ⟨#[41]⟩
  else if l.kd = 4 then (⟨#[40]⟩ : ByteArray) ++ ts.getD 0 ⟨#[]⟩ ++ ⟨#[32]⟩ ++ l.op ++ ⟨#[32]⟩ ++ ts.getD 1 ⟨#[]⟩ ++ ⟨#[41]⟩
  else if l.kd = 5 then (⟨#[40]⟩ : ByteArray) ++ ts.getD 0 ⟨#[]⟩ ++ ⟨#[32]⟩ ++ l.op ++ ⟨#[41]⟩
  else if ts.isEmpty then l.op ++ ⟨#[40, 42, 41]⟩
  else l.op ++ ⟨#[40]⟩ ++ joinS ts ⟨#[44, 32]⟩ ++ ⟨#[41]⟩
def textX : Ex → ByteArray
  | .mk l args => l.textOf (args.attach.map fun x => textX x.1)
termination_by e => SizeOf.sizeOf e
decreasing_by exact Rose.size_arg x.2
theorem textX_eq (e : Ex) : textX e = e.lab.textOf (e.args.map textX) := by
  obtain ⟨l, args⟩ := e
  rw [textX, Rose.args, Rose.lab]
  congr 1
  rw [List.attach_map_val (f := textX)]

theorem lit_one (t : Tk) (h : t.text.2 = true) : joinS (textsTk [t]) spS = t.text.1 := by
  have : textsTk [t] = [t.text.1] := by unfold textsTk; simp [h]
  rw [this]
  unfold joinS joinL
  rw [List.map_cons, List.map_nil, Lib.join_one, baL_data]
theorem Vl.litS_eq (v : Vl) : v.litS = v.tk.text.1 := by
  unfold Vl.litS
  rw [lit_one]
  unfold Vl.tk
  split
  · rfl
  · split
    · rfl
    · split
      · rfl
      · rfl

theorem itoa_len (n : Int) (h0 : -9223372036854775808 ≤ n) (h1 : n ≤ 9223372036854775807) : (Lib.itoa n).length ≤ 30 := by
  have := Lib.itoa_length_le n h0 h1
  omega

theorem litS_size (v : Vl) (hs : v.s.size ≤ 200) (h0 : -9223372036854775808 ≤ v.n) (h1 : v.n ≤ 9223372036854775807) : v.litS.size ≤ 900 := by
  rw [Vl.litS_eq]
  unfold Vl.tk
  split
  · show (baL (Lib.itoa v.n)).size ≤ 900
    rw [baL_size]; have := itoa_len v.n h0 h1; omega
  · split
    · show (quoteS v.s).size ≤ 900
      have := quoteS_size v.s; omega
    · split
      · show ((⟨#[120]⟩ : ByteArray) ++ quoteS (hexS v.s)).size ≤ 900
        rw [ByteArray.size_append]
        have := quoteS_size (hexS v.s)
        have := hexS_size v.s
        have : (⟨#[120]⟩ : ByteArray).size = 1 := rfl
        omega
      · show (⟨#[110, 117, 108, 108]⟩ : ByteArray).size ≤ 900
        decide


theorem tk_fair (t : Tk) (hk : -9223372036854775808 ≤ t.kd ∧ t.kd ≤ 9223372036854775807) (ha : t.at_ = 0) (hs : t.tx.size ≤ 400) (hn : -9223372036854775808 ≤ t.n ∧ t.n ≤ 9223372036854775807) : ∀ u ∈ [t], u.fair ∧ u.tx.size ≤ 400000 := by
  intro u hu
  rw [List.mem_singleton.1 hu]
  exact ⟨⟨hk, by omega, by omega, hn⟩, by omega⟩

/-- Write of one token that has just been laid. -/
theorem tkWrite_one (t : Tk) (w : World) (b : Nat) (hT : Pre4 w) (hF : ∀ u ∈ [t], u.fair ∧ u.tx.size ≤ 400000) (hb : b < w.heap.size)
    (c0 : w.cell? ⟨b, 0, none⟩ = some (.int .i64 t.kd)) (c1 : w.cell? ⟨b, 1, none⟩ = some (.int .i64 t.at_)) (c2 : w.cell? ⟨b, 2, none⟩ = some (.string t.tx)) (c3 : w.cell? ⟨b, 3, none⟩ = some (.int .i64 t.n)) (hj : (joinS (textsTk [t]) spS).size ≤ 1000000) :
    Calls Tryd.prog 10 #[.slice (some ⟨b, 0, none⟩) 1 1] w fun e w' => e = .returned (.string (joinS (textsTk [t]) spS)) ∧ Below w.heap.size w w' := by
  refine tkWrite_any [t] _ 1 1 w hT (.inr ⟨b, 0, rfl, hb, fun i v hi => ?_⟩) rfl (by omega) hF (by unfold joinS at hj; rw [baL_size] at hj; omega)
  have hi' : t.cells[i]? = some v := by simpa [cellsTk, cellsOf] using hi
  rw [Nat.zero_add]
  match i, hi' with
  | 0, h => rw [c0]; exact h
  | 1, h => rw [c1]; exact h
  | 2, h => rw [c2]; exact h
  | 3, h => rw [c3]; exact h
  | n + 4, h => simp [Tk.cells] at h

set_option maxHeartbeats 2000000 in
theorem literal_any (v : Vl) (w : World) (hT : Pre4 w) (hk : v.k < 256) (hn : -9223372036854775808 ≤ v.n ∧ v.n ≤ 9223372036854775807) (hs : v.s.size ≤ 200) :
    Calls Tryd.prog 68 #[.agg #[.int .u8 v.k, .int .i64 v.n, .string v.s]] w fun e w' => e = .returned (.string v.litS) ∧ Below w.heap.size w w' := by
  have hsz := litS_size v hs hn.1 hn.2
  obtain ⟨k, n, s⟩ := v
  simp only at hk hn hs ⊢
  have HW : Hid (∀ (t : Tk) (o1 o2 : Obj) , t.at_ = 0 → (-9223372036854775808 ≤ t.kd ∧ t.kd ≤ 9223372036854775807) → t.tx.size ≤ 400 → (-9223372036854775808 ≤ t.n ∧ t.n ≤ 9223372036854775807) → (joinS (textsTk [t]) spS).size ≤ 1000000 →
      Calls Tryd.prog 10 #[.slice (some ⟨w.heap.size + 1 + 1, 0, none⟩) 1 1] (((w.alloc o1).alloc o2).alloc (.cells #[.int .i64 t.kd, .int .i64 t.at_, .string t.tx, .int .i64 t.n] 33)) fun e w' => e = .returned (.string (joinS (textsTk [t]) spS)) ∧ Below w.heap.size w w') := by
    intro t o1 o2 ha hkd htx htn hj
    have hB : Below w.heap.size w (((w.alloc o1).alloc o2).alloc (.cells #[.int .i64 t.kd, .int .i64 t.at_, .string t.tx, .int .i64 t.n] 33)) := (((Below.refl _ w).alloc (Nat.le_refl _) _).alloc (by simp) _).alloc (by simp; omega) _
    have h4 := Slot4.new ((w.alloc o1).alloc o2) 33 (.int .i64 t.kd) (.int .i64 t.at_) (.string t.tx) (.int .i64 t.n)
    rw [show ((w.alloc o1).alloc o2).heap.size = w.heap.size + 1 + 1 by simp] at h4
    refine (tkWrite_one t _ _ (hT.below hB) (tk_fair t hkd ha htx htn) (by simp) h4.c0 h4.c1 h4.c2 h4.c3 hj).mono ?_
    · rintro e w' ⟨he, hb⟩
      exact ⟨he, hB.trans (hb.mono hB.size)⟩
  clear hT
  unfold Vl.litS Vl.tk at hsz
  have HR : Hid (Vl.litS ⟨k, n, s⟩ = joinS (textsTk [if k = 1 then ⟨2, 0, ⟨#[]⟩, n⟩ else if k = 2 then ⟨3, 0, s, 0⟩ else if k = 3 then ⟨4, 0, s, 0⟩ else ⟨1, 0, ⟨#[110, 117, 108, 108]⟩, 0⟩]) spS) := rfl
  simp only at hsz
  rw [HR.out]
  clear HR
  have hcase : k = 1 ∨ k = 2 ∨ k = 3 ∨ (k ≠ 1 ∧ k ≠ 2 ∧ k ≠ 3) := by omega
  rcases hcase with rfl | rfl | rfl | ⟨h1, h2, h3⟩
  · have HY := Lib.hid (fun o1 o2 => HW.out ⟨2, 0, ⟨#[]⟩, n⟩ o1 o2 rfl (by simp) (show (⟨#[]⟩ : ByteArray).size ≤ 400 by decide) (by simp; try omega) (Nat.le_trans hsz (by omega)))
    clear HW hsz
    simp only [if_true, if_false, Nat.reduceEqDiff] at HY ⊢
    generalize joinS (textsTk [⟨2, 0, ⟨#[]⟩, n⟩]) spS = R at *
    go_enter Tryd.func68, Tryd.ntmps68
    go_wp2_with fail
    refine (HY.out _ _).mono ?_
    rintro e w1 ⟨rfl, hb1⟩
    have HB1 := Lib.hid hb1
    clear hb1 HY
    go_wp2
    go_ret
    exact ⟨rfl, HB1.out⟩
  · have HY := Lib.hid (fun o1 o2 => HW.out ⟨3, 0, s, 0⟩ o1 o2 rfl (by simp) (by simp only; omega) (by simp; try omega) (Nat.le_trans hsz (by omega)))
    clear HW hsz
    simp only [if_true, if_false, Nat.reduceEqDiff] at HY ⊢
    generalize joinS (textsTk [⟨3, 0, s, 0⟩]) spS = R at *
    go_enter Tryd.func68, Tryd.ntmps68
    go_wp2_with fail
    refine (HY.out _ _).mono ?_
    rintro e w1 ⟨rfl, hb1⟩
    have HB1 := Lib.hid hb1
    clear hb1 HY
    go_wp2
    go_ret
    exact ⟨rfl, HB1.out⟩
  · have HY := Lib.hid (fun o1 o2 => HW.out ⟨4, 0, s, 0⟩ o1 o2 rfl (by simp) (by simp only; omega) (by simp; try omega) (Nat.le_trans hsz (by omega)))
    clear HW hsz
    simp only [if_true, if_false, Nat.reduceEqDiff] at HY ⊢
    generalize joinS (textsTk [⟨4, 0, s, 0⟩]) spS = R at *
    go_enter Tryd.func68, Tryd.ntmps68
    go_wp2_with fail
    refine (HY.out _ _).mono ?_
    rintro e w1 ⟨rfl, hb1⟩
    have HB1 := Lib.hid hb1
    clear hb1 HY
    go_wp2
    go_ret
    exact ⟨rfl, HB1.out⟩
  · rw [if_neg h1, if_neg h2, if_neg h3] at hsz ⊢
    have HY := Lib.hid (fun o1 o2 => HW.out ⟨1, 0, ⟨#[110, 117, 108, 108]⟩, 0⟩ o1 o2 rfl (by simp) (by decide) (by simp) (Nat.le_trans hsz (by omega)))
    have q1 : ((k : Int) == 1) = false := by simp; omega
    have q2 : ((k : Int) == 2) = false := by simp; omega
    have q3 : ((k : Int) == 3) = false := by simp; omega
    clear HW hsz h1 h2 h3
    generalize joinS (textsTk [⟨1, 0, ⟨#[110, 117, 108, 108]⟩, 0⟩]) spS = R at *
    go_enter Tryd.func68, Tryd.ntmps68
    go_wp2_with fail
    refine (HY.out _ _).mono ?_
    rintro e w1 ⟨rfl, hb1⟩
    have HB1 := Lib.hid hb1
    clear hb1 HY
    go_wp2
    go_ret
    exact ⟨rfl, HB1.out⟩

set_option maxHeartbeats 1000000 in
theorem column_any (x : XM) (w : World) (h4 : x.t.lab.tb.size ≤ 1000000) (h5 : x.t.lab.nm.size ≤ 1000000) :
    Calls Tryd.prog 69 #[x.v] w fun e w' => e = .returned (.string x.t.lab.colS) ∧ Below w.heap.size w w' := by
  rw [XM.v_eq]
  obtain ⟨⟨⟨kd, ⟨vk, vn, vs⟩, tb, nm, op⟩, args⟩, a, cap⟩ := x
  simp only [Rose.lab, Rose.args] at h4 h5 ⊢
  generalize args.length = n at *
  obtain ⟨x0, x1, x2, x3, x4, x5, x6, x7⟩ := Slot8.new w 39 (.int .i64 kd) (.int .u8 vk) (.int .i64 vn) (.string vs) (.string tb) (.string nm) (.string op) (.slice a n cap)
  have HB0 : Hid (∀ o, Below w.heap.size w (w.alloc o)) := fun o => (Below.refl _ w).alloc (Nat.le_refl _) _
  by_cases ht : tb.toList = []
  · have ht2 : tb.toList.isEmpty = true := by rw [ht]; rfl
    have HR : Hid (Lb.colS ⟨kd, ⟨vk, vn, vs⟩, tb, nm, op⟩ = nm) := by unfold Lb.colS; simp [ht2, Hid]
    rw [HR.out]
    go_enter Tryd.func69, Tryd.ntmps69
    go_wp2
    go_ret
    exact ⟨rfl, HB0.out _⟩
  · have ht2 : tb.toList.isEmpty = false := by simpa using ht
    have ht3 : (!tb.toList.isEmpty) = true := by rw [ht2]; rfl
    have HR : Hid (Lb.colS ⟨kd, ⟨vk, vn, vs⟩, tb, nm, op⟩ = tb ++ ⟨#[46]⟩ ++ nm) := by unfold Lb.colS; simp [ht2, Hid]
    have s1 : ¬ 9223372036854775807 < tb.size + 1 := by omega
    have s2 : ¬ 9223372036854775807 < tb.size + 1 + nm.size := by omega
    rw [HR.out]
    go_enter Tryd.func69, Tryd.ntmps69
    go_wp2
    go_ret
    exact ⟨rfl, HB0.out _⟩
end Go.Proofs.YtbnddpicpomakaaDoor

/- How long the texts of expressions are. -/
set_option linter.unusedSimpArgs false
set_option linter.unusedVariables false
set_option maxRecDepth 100000
namespace Go.Proofs.YtbnddpicpomakaaDoor
open Go.RowKit

theorem joinTail_len (sep : List UInt8) (r : List (List UInt8)) : (Lib.joinTail sep r).length = (r.map List.length).sum + r.length * sep.length := by
  induction r with
  | nil => simp [Lib.joinTail]
  | cons x r ih =>
    have e : Lib.joinTail sep (x :: r) = (sep ++ x) ++ Lib.joinTail sep r := by simp [Lib.joinTail]
    rw [e, List.length_append, List.length_append, ih, List.map_cons, List.sum_cons, List.length_cons, Nat.add_mul]; omega
theorem joinS_size (xs : List ByteArray) (sep : ByteArray) : (joinS xs sep).size ≤ (xs.map ByteArray.size).sum + xs.length * sep.size := by
  unfold joinS joinL
  rw [baL_size]
  cases xs with
  | nil => simp [Lib.join_nil]
  | cons x r =>
    rw [List.map_cons, Lib.join_cons, List.length_append, joinTail_len, List.map_cons, List.sum_cons, List.length_cons, List.map_map, List.length_map, Nat.add_mul]
    have e1 : (List.map (List.length ∘ fun x : ByteArray => x.data.toList) r).sum = (List.map ByteArray.size r).sum := by
      congr 1
    have e2 : x.data.toList.length = x.size := by simp
    have e3 : sep.data.toList.length = sep.size := by simp
    rw [e1, e2, e3]; omega

/-- Good for a text: valid, and no label too much. -/
def Lb.good (l : Lb) (n : Nat) : Bool := l.ok n && !l.big n
def GoodX (e : Ex) : Prop := e.allB Lb.good = true
theorem GoodX.lab {e : Ex} (h : GoodX e) : e.lab.ok e.args.length = true ∧ e.lab.big e.args.length = false := by
  unfold GoodX at h
  rw [Rose.allB_eq] at h
  simp only [Lb.good, Bool.and_eq_true, Bool.not_eq_true'] at h
  exact h.1
theorem GoodX.arg {e x : Ex} (h : GoodX e) (hx : x ∈ e.args) : GoodX x := by
  unfold GoodX at h
  rw [Rose.allB_eq, Bool.and_eq_true, List.all_eq_true] at h
  exact h.2 x hx
structure Lb.Small (l : Lb) (n : Nat) : Prop where
  n : n ≤ 6
  nm : l.nm.size ≤ 100
  tb : l.tb.size ≤ 100
  op : l.op.size ≤ 100
  s : l.v.s.size ≤ 200
theorem Lb.small {l : Lb} {n : Nat} (h : l.big n = false) : l.Small n := by
  unfold Lb.big at h
  simp only [Bool.or_eq_false_iff, decide_eq_false_iff_not] at h
  exact ⟨by omega, by omega, by omega, by omega, by omega⟩
theorem getD_size (ts : List ByteArray) (i : Nat) : (ts.getD i ⟨#[]⟩).size ≤ (ts.map ByteArray.size).sum := by
  induction ts generalizing i with
  | nil => exact Nat.zero_le 0
  | cons x r ih =>
    cases i with
    | zero => simp
    | succ i => have := ih i; simp only [List.getD_cons_succ, List.map_cons, List.sum_cons]; omega
theorem getD2_size (ts : List ByteArray) : (ts.getD 0 ⟨#[]⟩).size + (ts.getD 1 ⟨#[]⟩).size ≤ (ts.map ByteArray.size).sum := by
  cases ts with
  | nil => exact Nat.zero_le 0
  | cons x r =>
    have := getD_size r 0
    simp only [List.getD_cons_zero, List.getD_cons_succ, List.map_cons, List.sum_cons]; omega

theorem textOf_size (l : Lb) (ts : List ByteArray) (n : Nat) (hn : ts.length = n) (hs : l.Small n) (h0 : -9223372036854775808 ≤ l.v.n ∧ l.v.n ≤ 9223372036854775807) : (l.textOf ts).size ≤ 900 + (ts.map ByteArray.size).sum := by
  have e1 : (⟨#[40]⟩ : ByteArray).size = 1 := rfl
  have e2 : (⟨#[41]⟩ : ByteArray).size = 1 := rfl
  have e3 : (⟨#[32]⟩ : ByteArray).size = 1 := rfl
  have e4 : (⟨#[46]⟩ : ByteArray).size = 1 := rfl
  have e5 : (⟨#[40, 42, 41]⟩ : ByteArray).size = 3 := rfl
  have e6 : (⟨#[44, 32]⟩ : ByteArray).size = 2 := rfl
  have a0 := getD_size ts 0
  have a2 := getD2_size ts
  have h1 := hs.n; have h2 := hs.nm; have h3 := hs.tb; have h4 := hs.op
  unfold Lb.textOf
  split
  · have := litS_size l.v hs.s h0.1 h0.2; omega
  split
  · unfold Lb.colS
    split
    · omega
    · rw [ByteArray.size_append, ByteArray.size_append]; omega
  split
  · simp only [ByteArray.size_append]; omega
  split
  · simp only [ByteArray.size_append]; omega
  split
  · simp only [ByteArray.size_append]; omega
  split
  · simp only [ByteArray.size_append]; omega
  · have := joinS_size ts ⟨#[44, 32]⟩
    rw [e6] at this
    simp only [ByteArray.size_append]; omega

theorem textX_size : ∀ (N n : Nat) (w : World) (x : XM), XAt N w n x → GoodX x.t → (textX x.t).size ≤ 1000 * x.t.count
  | _, 0, _, _, h, _ => h.elim
  | N, n + 1, w, x, h, hg => by
    have hs := Lb.small hg.lab.2
    have hf := h.fair.1.n
    have hk : ∀ y ∈ x.t.args, (textX y).size ≤ 1000 * y.count := by
      intro y hy
      obtain ⟨k, hk, rfl⟩ := List.getElem_of_mem hy
      obtain ⟨z, hz, hzA, _⟩ := h.kid hk
      have := textX_size N n w z hzA (by rw [hz]; exact hg.arg hy)
      rw [hz] at this; exact this
    rw [textX_eq, Rose.count_eq]
    have h1 := textOf_size x.t.lab (x.t.args.map textX) _ (by simp) hs hf
    have h2 : ((x.t.args.map textX).map ByteArray.size).sum ≤ 1000 * (x.t.args.map Rose.count).sum := by
      generalize x.t.args = l at hk
      induction l with
      | nil => simp
      | cons y r ih =>
        have := hk y List.mem_cons_self
        have := ih (fun z hz => hk z (List.mem_cons_of_mem _ hz))
        simp only [List.map_cons, List.sum_cons]; omega
    omega
end Go.Proofs.YtbnddpicpomakaaDoor

/- The walks of call and text, and of Write. -/
set_option linter.unusedSimpArgs false
set_option linter.unusedVariables false
set_option maxRecDepth 100000
namespace Go.Proofs.YtbnddpicpomakaaDoor
open Go.RowKit

/-- What is known of text, of trees of so many levels. -/
def TextIs (n : Nat) : Prop := ∀ (y : XM) (W : World), Pre4 W → XAt W.heap.size W n y → GoodX y.t → y.t.count ≤ 100000 → Calls Tryd.prog 43 #[y.v] W fun e w' => e = .returned (.string (textX y.t)) ∧ Below W.heap.size W w'

theorem count_arg {e x : Ex} (h : x ∈ e.args) : x.count < e.count := by
  rw [Rose.count_eq e]
  have : x.count ≤ (e.args.map Rose.count).sum := by
    generalize e.args = l at h
    induction l with
    | nil => cases h
    | cons y r ih =>
      rw [List.map_cons, List.sum_cons]
      rcases List.mem_cons.1 h with rfl | h
      · omega
      · have := ih h; omega
  omega
theorem sum_textX (N n : Nat) (w : World) (x : XM) (h : XAt N w n x) (hg : GoodX x.t) : ((x.t.args.map textX).map ByteArray.size).sum ≤ 1000 * x.t.count := by
  cases n with
  | zero => exact h.elim
  | succ n =>
    have hk : ∀ y ∈ x.t.args, (textX y).size ≤ 1000 * y.count := by
      intro y hy
      obtain ⟨k, hk, rfl⟩ := List.getElem_of_mem hy
      obtain ⟨z, hz, hzA, _⟩ := h.kid hk
      have := textX_size N n w z hzA (by rw [hz]; exact hg.arg hy)
      rw [hz] at this; exact this
    rw [Rose.count_eq]
    have h2 : ((x.t.args.map textX).map ByteArray.size).sum ≤ 1000 * (x.t.args.map Rose.count).sum := by
      generalize x.t.args = l at hk
      induction l with
      | nil => simp
      | cons y r ih =>
        have := hk y List.mem_cons_self
        have := ih (fun z hz => hk z (List.mem_cons_of_mem _ hz))
        simp only [List.map_cons, List.sum_cons]; omega
    omega

set_option maxHeartbeats 2000000 in
theorem call_any (n : Nat) (IH : TextIs n) (x : XM) (w : World) (hT : Pre4 w) (h : XAt w.heap.size w (n + 1) x) (hg : GoodX x.t) (hc : x.t.count ≤ 100000) (hk : x.t.lab.kd ≠ 1 ∧ x.t.lab.kd ≠ 2 ∧ x.t.lab.kd ≠ 3 ∧ x.t.lab.kd ≠ 4 ∧ x.t.lab.kd ≠ 5) :
    Calls Tryd.prog 70 #[x.v] w fun e w' => e = .returned (.string (textX x.t)) ∧ Below w.heap.size w w' := by
  have hsum := sum_textX _ _ w x h hg
  have hsm := Lb.small hg.lab.2
  have hTx : textX x.t = if (x.t.args.map textX).isEmpty then x.t.lab.op ++ ⟨#[40, 42, 41]⟩ else x.t.lab.op ++ ⟨#[40]⟩ ++ joinS (x.t.args.map textX) ⟨#[44, 32]⟩ ++ ⟨#[41]⟩ := by
    rw [textX_eq]; unfold Lb.textOf
    rw [if_neg hk.1, if_neg hk.2.1, if_neg hk.2.2.1, if_neg hk.2.2.2.1, if_neg hk.2.2.2.2]
  have HA := Lib.hid h
  have HG := Lib.hid hg
  have HCt := Lib.hid hc
  rw [hTx, XM.v_eq]
  obtain ⟨t, a, cap⟩ := x
  simp only at hsum hsm HA HG HCt hc ⊢
  have hop := hsm.op
  have hn6 := hsm.n
  obtain ⟨m, hm⟩ : ∃ m, t.args.length = m := ⟨_, rfl⟩
  have HM := Lib.hid hm
  rw [hm] at hn6 ⊢
  have HP := Lib.hid (fun W (hb : Below w.heap.size w W) => hT.below hb)
  have HS := Lib.hid (Slot8.new w 39 (.int .i64 t.lab.kd) (.int .u8 t.lab.v.k) (.int .i64 t.lab.v.n) (.string t.lab.v.s) (.string t.lab.tb) (.string t.lab.nm) (.string t.lab.op) (.slice a m cap))
  have HB0 : Hid (∀ o, Below w.heap.size w (w.alloc o)) := fun o => (Below.refl _ w).alloc (Nat.le_refl _) _
  by_cases h0 : m = 0
  · have he : (t.args.map textX).isEmpty = true := by
      rw [List.isEmpty_iff, List.map_eq_nil_iff, ← List.length_eq_zero_iff, hm, h0]
    rw [if_pos he]
    subst h0
    have s1 : ¬ 9223372036854775807 < t.lab.op.size + 3 := by omega
    clear h hg hc hk hTx hsum hsm he hm hT
    obtain ⟨x0, x1, x2, x3, x4, x5, x6, x7⟩ := HS.out
    go_enter Tryd.func70, Tryd.ntmps70
    go_wp2
    go_ret
    exact ⟨rfl, HB0.out _⟩
  · have he : ¬ (t.args.map textX).isEmpty = true := by
      rw [List.isEmpty_iff, List.map_eq_nil_iff, ← List.length_eq_zero_iff, hm]; exact h0
    rw [if_neg he]
    obtain ⟨iS, hiS, hzS, hsS, hbS⟩ := info_parts info_strT
    have q0 : ((m : Int) == 0) = false := by simp; omega
    have hjs := joinS_size (t.args.map textX) ⟨#[44, 32]⟩
    have e6 : (⟨#[44, 32]⟩ : ByteArray).size = 2 := rfl
    rw [e6, List.length_map, hm] at hjs
    have HJ : Hid ((joinL (t.args.map textX) ⟨#[44, 32]⟩).length ≤ 140737488355328) := by
      unfold joinS at hjs; rw [baL_size] at hjs; show _ ≤ _; omega
    obtain ⟨R, hR⟩ : ∃ R, joinS (t.args.map textX) ⟨#[44, 32]⟩ = R := ⟨_, rfl⟩
    rw [hR] at hjs ⊢
    have HR := Lib.hid hR
    have hRs : R.size ≤ 200000000 := by omega
    have s1 : ¬ 9223372036854775807 < t.lab.op.size + 1 := by omega
    have s2 : ¬ 9223372036854775807 < t.lab.op.size + 1 + R.size := by omega
    have s3 : ¬ 9223372036854775807 < t.lab.op.size + 1 + R.size + 1 := by omega
    have IHx : Hid (∀ (y : XM) (W : World), Below w.heap.size w W → XAt W.heap.size W n y → GoodX y.t → y.t.count ≤ 100000 → Calls Tryd.prog 43 #[.agg #[.int .i64 y.t.lab.kd, .int .u8 y.t.lab.v.k, .int .i64 y.t.lab.v.n, .string y.t.lab.v.s, .string y.t.lab.tb, .string y.t.lab.nm, .string y.t.lab.op, .slice y.a y.t.args.length y.cap]] W fun e w' => e = .returned (.string (textX y.t)) ∧ Below W.heap.size W w') := fun y W hb hy hg hc => by
      have := IH y W (HP.out W hb) hy hg hc
      rw [XM.v_eq] at this; exact this
    obtain ⟨w0, hw0⟩ : ∃ w0, w.alloc (.cells #[.int .i64 t.lab.kd, .int .u8 t.lab.v.k, .int .i64 t.lab.v.n, .string t.lab.v.s, .string t.lab.tb, .string t.lab.nm, .string t.lab.op, .slice a m cap] 39) = w0 := ⟨_, rfl⟩
    have HB1 : Hid (Below w.heap.size w w0) := by rw [← hw0]; exact HB0.out _
    have hs0 : w0.heap.size = w.heap.size + 1 := by rw [← hw0]; simp
    rw [hw0] at HS
    have HZ := Lib.hid hs0
    have HV0 : Hid (w0.ownsRow w0.heap.size 9 1 (.slice none 0 0) 0 (cellsS ((t.args.take 0).map textX))) := World.ownsRow_nil _ _ _ _
    clear h hg hc hk hTx hsum hsm he hm hT hR HB0 hs0 IH h0 hjs e6
    obtain ⟨x0, x1, x2, x3, x4, x5, x6, x7⟩ := HS.out
    go_enter Tryd.func70, Tryd.ntmps70
    go_wp2
    clear x0 x1 x2 x3 x4 x5 x6 x7
    go_loopw [3, 16] (fun v i wr => ∃ (k : Nat) (cv : Value), cv = v ∧ k ≤ m ∧ i = .int .i64 (k : Int) ∧ Hid (wr.ownsRow w0.heap.size 9 1 cv k (cellsS ((t.args.take k).map textX))) ∧ Hid (Below w0.heap.size w0 wr)) (fun _ i _ => m - (intOf i).toNat)
    case atStart => exact ⟨0, _, rfl, by omega, rfl, HV0, Below.refl _ _⟩
    case round =>
      clear HV0
      obtain ⟨k, cv, rfl, hk, rfl, HV, HBr⟩ := hrel
      have HBw := Lib.hid (HB1.out.trans (HBr.out.mono HB1.out.size))
      have HBs := Lib.hid HBr.out.size
      by_cases hlt : k < m
      · have hkl : k < t.args.length := by rw [HM.out]; exact hlt
        obtain ⟨y, hy, hAy, b, o, hab, hbN, hKid⟩ := (HA.out.later HBw.out).kid8 (k := k) hkl
        simp only at hab hy
        subst hab
        obtain ⟨y0, y1, y2, y3, y4, y5, y6, y7⟩ := hKid
        have HTk : Hid ((t.args.take (k + 1)).map textX = (t.args.take k).map textX ++ [textX y.t]) := by
          rw [List.take_succ_eq_append_getElem hkl, List.map_append, ← hy]; rfl
        have hyg : GoodX y.t := by rw [hy]; exact HG.out.arg (List.getElem_mem hkl)
        have hyc : y.t.count ≤ 100000 := by have h1 := count_arg (List.getElem_mem hkl); rw [← hy] at h1; have := HCt.out; omega
        have HY := Lib.hid (IHx.out y (wr.alloc (.cells #[.int .i64 y.t.lab.kd, .int .u8 y.t.lab.v.k, .int .i64 y.t.lab.v.n, .string y.t.lab.v.s, .string y.t.lab.tb, .string y.t.lab.nm, .string y.t.lab.op, .slice y.a y.t.args.length y.cap] 39)) (HBw.out.trans ((Below.refl w.heap.size wr).alloc HBw.out.size _)) (hAy.later ((Below.refl _ wr).alloc (Nat.le_refl _) _)) hyg hyc)
        generalize textX y.t = R1 at *
        clear hy hAy hkl hyg hyc HA IHx HG
        go_wp2_with (first | (at_builtin; fail) | fail)
        refine HY.out.mono ?_
        rintro e w2 ⟨rfl, hb2⟩
        have HB1' : Hid (Below wr.heap.size wr w2) := ((Below.refl _ wr).alloc (Nat.le_refl _) _).trans (hb2.mono (by simp))
        have HB2 := Lib.hid (HBr.out.trans (HB1'.out.mono HBs.out))
        have HBs2 := Lib.hid HB2.out.size
        have HV2 := Lib.hid (own_below HV.out (Nat.le_refl _) HB1'.out)
        clear hb2 HY y0 y1 y2 y3 y4 y5 y6 y7 HV HB1'
        go_wp2_with (first | (at_builtin; refine wpList_appC rfl _ _ 58 rfl w0.heap.size 9 iS (.string ⟨#[]⟩) 1 16 Tryd.underlying58 hiS hzS rfl hsS (by omega) hbS (by omega) cv k _ [.string R1] w2 HV2.out rfl _ rfl rfl (by simp [Value.oneCell']) rfl (by omega) HBs2.out ?_; intro v5 w5 hown5 hc5 hsz5; have HO5 := Lib.hid hown5; have HC5 := Lib.hid hc5; clear hown5 hc5 hsz5))
        have HB5 : Hid (Below w0.heap.size w0 w5) := HB2.out.trans (((Below.refl w0.heap.size w2).alloc HBs2.out _).trans (HC5.out.below (by have := HBs2.out; simp; omega) (fun g hg => (HV2.out.lt g (by simpa using hg)).1)))
        go_roundw
        case rel => exact ⟨k + 1, v5, rfl, by omega, by go_num, by rw [HTk.out, cellsS_snoc]; exact HO5.out, HB5.out⟩
        case measure => simp [intOf]; omega
      · have hke : k = m := by omega
        have HO := HV.out
        rw [hke, ← HM.out, List.take_length] at HO
        obtain ⟨ac, cc, hcv, hcc, hcm, hA2⟩ := own_slice HO
        have hml := HM.out
        have HY := Lib.hid (fun W (hb : Below wr.heap.size wr W) => Join_any (t.args.map textX) ⟨#[44, 32]⟩ ac cc W (hA2.later (N := 0) hb) (by rw [List.length_map]; omega) (by rw [List.length_map]; omega) HJ.out)
        rw [HR.out, List.length_map, HM.out] at HY
        rw [HM.out] at hcv
        subst hcv
        have HSr := Lib.hid (HS.out.later (by have := HZ.out; omega) HBr.out)
        have l6 : ∀ W, Later wr.drew W → W.cell? ⟨w.heap.size, 6, none⟩ = some (.string t.lab.op) := fun W hW => (HSr.out.later (N := wr.heap.size) (by have := HZ.out; have := HBs.out; omega) (Later.undrew hW)).c6
        clear HO hA2 hcc hcm hml HV HA HG IHx HS HR HJ
        go_wp2_with fail
        refine wp_region_ord [(0, true), (1, true), (2, true), (3, true), (4, false), (5, true), (6, true), (7, true)] (by kernel_rfl) (by kernel_rfl) (by kernel_rfl) (by kernel_rfl) ?_
        repeat (first | (refine wpO_F (v := ?_) rfl (by rfl) (fun w' hL => ?_) ?_; rotate_left; (solve | (go_simp; with_reducible rfl) | go_simp); try simp only [Act.put, List.setIfInBounds_toArray, List.set_cons_zero, List.set_cons_succ]) | (refine wpO_G rfl (by rfl) ?_; try simp only [Act.put, List.setIfInBounds_toArray, List.set_cons_zero, List.set_cons_succ]))
        refine wpO_C rfl (by rfl) ?_
        go_simp
        refine (HY.out _ (Below.refl _ _).drew).mono ?_
        rintro e w2 ⟨rfl, hb2⟩
        refine ⟨hb2, ?_⟩
        try simp only [Act.put, List.setIfInBounds_toArray, List.set_cons_zero, List.set_cons_succ]
        repeat (first | (refine wpO_F (v := ?_) rfl (by rfl) (fun w' hL => ?_) ?_; rotate_left; (solve | (go_simp; with_reducible rfl) | go_simp); try simp only [Act.put, List.setIfInBounds_toArray, List.set_cons_zero, List.set_cons_succ]) | (refine wpO_G rfl (by rfl) ?_; try simp only [Act.put, List.setIfInBounds_toArray, List.set_cons_zero, List.set_cons_succ]))
        refine wpO_nil ?_
        have HB2 := Lib.hid (HBw.out.trans (((Below.refl _ wr).drew.trans hb2).mono HBw.out.size))
        clear hb2 HY l6
        go_wp2
        go_ret
        exact ⟨rfl, HB2.out⟩
end Go.Proofs.YtbnddpicpomakaaDoor

/- The walks of text and Write. -/
set_option linter.unusedSimpArgs false
set_option linter.unusedVariables false
set_option maxRecDepth 100000
namespace Go.Proofs.YtbnddpicpomakaaDoor
open Go.RowKit

theorem KidAt.later {w W : World} {b o : Nat} {y : XM} {N : Nat} (h : KidAt w b o y) (hb : b < N) (hB : Below N w W) : KidAt W b o y :=
  ⟨(hB.cell (p := ⟨b, o, none⟩) hb).trans h.c0, (hB.cell (p := ⟨b, o + 1, none⟩) hb).trans h.c1, (hB.cell (p := ⟨b, o + 2, none⟩) hb).trans h.c2, (hB.cell (p := ⟨b, o + 3, none⟩) hb).trans h.c3, (hB.cell (p := ⟨b, o + 4, none⟩) hb).trans h.c4, (hB.cell (p := ⟨b, o + 5, none⟩) hb).trans h.c5, (hB.cell (p := ⟨b, o + 6, none⟩) hb).trans h.c6, (hB.cell (p := ⟨b, o + 7, none⟩) hb).trans h.c7⟩

theorem ok_len {l : Lb} {n : Nat} (h : l.ok n = true) : (l.kd = 3 → n = 1) ∧ (l.kd = 4 → n = 2) ∧ (l.kd = 5 → n = 1) := by
  unfold Lb.ok takesB at h
  refine ⟨fun hk => ?_, fun hk => ?_, fun hk => ?_⟩ <;>
  · rw [hk] at h
    simp at h
    omega

set_option maxHeartbeats 4000000 in
theorem text_is : ∀ n, TextIs n
  | 0 => fun _ _ _ h _ _ => h.elim
  | n + 1 => fun x w hT h hg hc => by
    have IH := text_is n
    have HCall := Lib.hid (fun hk W (hb : Below w.heap.size w W) => call_any n IH x W (hT.below hb) (h.later hb) hg hc hk)
    have hsum := sum_textX _ _ w x h hg
    have hsm := Lb.small hg.lab.2
    have hok := ok_len hg.lab.1
    have hTx := textX_eq x.t
    unfold Lb.textOf at hTx
    have HA := Lib.hid h
    have HG := Lib.hid hg
    have HCt := Lib.hid hc
    have hF := h.fair.1
    rw [XM.v_eq] at HCall ⊢
    have HColm := Lib.hid (fun W => column_any x W (by have := hsm.tb; omega) (by have := hsm.nm; omega))
    rw [XM.v_eq] at HColm
    obtain ⟨t, a, cap⟩ := x
    simp only at hsum hsm hok HA HG HCt HCall HColm hTx hF hc ⊢
    have hop := hsm.op
    obtain ⟨m, hm⟩ : ∃ m, t.args.length = m := ⟨_, rfl⟩
    have HM := Lib.hid hm
    rw [hm] at hok HCall HColm ⊢
    have HP := Lib.hid (fun W (hb : Below w.heap.size w W) => hT.below hb)
    have HLit := Lib.hid (fun W (hb : Below w.heap.size w W) => literal_any t.lab.v W (HP.out W hb) hF.k hF.n hsm.s)
    have IHx : Hid (∀ (y : XM) (W : World), Below w.heap.size w W → XAt W.heap.size W n y → GoodX y.t → y.t.count ≤ 100000 → Calls Tryd.prog 43 #[.agg #[.int .i64 y.t.lab.kd, .int .u8 y.t.lab.v.k, .int .i64 y.t.lab.v.n, .string y.t.lab.v.s, .string y.t.lab.tb, .string y.t.lab.nm, .string y.t.lab.op, .slice y.a y.t.args.length y.cap]] W fun e w' => e = .returned (.string (textX y.t)) ∧ Below W.heap.size W w') := fun y W hb hy hg hc => by
      have := IH y W (HP.out W hb) hy hg hc
      rw [XM.v_eq] at this; exact this
    have HS := Lib.hid (Slot8.new w 39 (.int .i64 t.lab.kd) (.int .u8 t.lab.v.k) (.int .i64 t.lab.v.n) (.string t.lab.v.s) (.string t.lab.tb) (.string t.lab.nm) (.string t.lab.op) (.slice a m cap))
    obtain ⟨w0, hw0⟩ : ∃ w0, w.alloc (.cells #[.int .i64 t.lab.kd, .int .u8 t.lab.v.k, .int .i64 t.lab.v.n, .string t.lab.v.s, .string t.lab.tb, .string t.lab.nm, .string t.lab.op, .slice a m cap] 39) = w0 := ⟨_, rfl⟩
    have HB1 : Hid (Below w.heap.size w w0) := by rw [← hw0]; exact (Below.refl _ w).alloc (Nat.le_refl _) _
    have hs0 : w0.heap.size = w.heap.size + 1 := by rw [← hw0]; simp
    rw [hw0] at HS
    have HZ := Lib.hid hs0
    have HKid : Hid (∀ k (hk : k < t.args.length), ∃ y : XM, y.t = t.args[k] ∧ (∃ b o, a = some ⟨b, o, none⟩ ∧ b < w0.heap.size ∧ KidAt w0 b (o + k * 8) y) ∧ ∀ W, Below w0.heap.size w0 W → Calls Tryd.prog 43 #[.agg #[.int .i64 y.t.lab.kd, .int .u8 y.t.lab.v.k, .int .i64 y.t.lab.v.n, .string y.t.lab.v.s, .string y.t.lab.tb, .string y.t.lab.nm, .string y.t.lab.op, .slice y.a y.t.args.length y.cap]] W fun e w' => e = .returned (.string (textX y.t)) ∧ Below W.heap.size W w') := fun k hk => by
      obtain ⟨y, hy, hAy, b, o, hab, hbN, hKid⟩ := (HA.out.later HB1.out).kid8 (k := k) hk
      have hyg : GoodX y.t := by rw [hy]; exact HG.out.arg (List.getElem_mem hk)
      have hyc : y.t.count ≤ 100000 := by have h1 := count_arg (List.getElem_mem hk); rw [← hy] at h1; have := HCt.out; omega
      exact ⟨y, hy, ⟨b, o, hab, hbN, hKid⟩, fun W hb => IHx.out y W (HB1.out.trans (hb.mono HB1.out.size)) (hAy.later hb) hyg hyc⟩
    have hsz : ∀ i, ((t.args.map textX).getD i ⟨#[]⟩).size ≤ 100000000 := fun i => by have := getD_size (t.args.map textX) i; omega
    have HSz := Lib.hid hsz
    clear h hg hc hsum hsm hm hT hs0 IH IHx HA HG HCt hsz HP hF
    obtain ⟨x0, x1, x2, x3, x4, x5, x6, x7⟩ := HS.out
    by_cases k1 : t.lab.kd = 1
    · rw [if_pos k1] at hTx
      rw [hTx]
      generalize Vl.litS t.lab.v = R at *
      generalize t.lab.kd = kd at *
      subst k1
      clear hTx HCall HColm hok HKid
      go_enter Tryd.func43, Tryd.ntmps43
      go_wp2_with fail
      refine (HLit.out _ HB1.out).mono ?_
      rintro e w1 ⟨rfl, hb1⟩
      have HB2 := Lib.hid (HB1.out.trans (hb1.mono HB1.out.size))
      clear hb1 x0 x1 x2 x3 x4 x5 x6 x7
      go_wp2
      go_ret
      exact ⟨rfl, HB2.out⟩
    rw [if_neg k1] at hTx
    by_cases k2 : t.lab.kd = 2
    · rw [if_pos k2] at hTx
      rw [hTx]
      generalize Lb.colS t.lab = R at *
      generalize t.lab.kd = kd at *
      subst k2
      clear hTx HCall HLit hok HKid k1
      go_enter Tryd.func43, Tryd.ntmps43
      go_wp2_with fail
      refine (HColm.out _).mono ?_
      rintro e w1 ⟨rfl, hb1⟩
      have HB2 := Lib.hid (HB1.out.trans (hb1.mono HB1.out.size))
      clear hb1 x0 x1 x2 x3 x4 x5 x6 x7
      go_wp2
      go_ret
      exact ⟨rfl, HB2.out⟩
    rw [if_neg k2] at hTx
    by_cases k3 : t.lab.kd = 3
    · rw [if_pos k3] at hTx
      have hm1 := hok.1 k3
      subst hm1
      obtain ⟨y0, hy0, ⟨b, o, hab, hbN, hKd0⟩, hCl0⟩ := HKid.out 0 (by rw [HM.out]; omega)
      have hyt0 : (t.args.map textX).getD 0 ⟨#[]⟩ = textX y0.t := by
        rw [hy0]; simp [List.getD, List.getElem?_eq_getElem (show 0 < t.args.length by rw [HM.out]; omega)]
      have hys0 := HSz.out 0
      rw [hyt0] at hTx hys0
      rw [hTx]
      have HY0 := Lib.hid hCl0
      subst hab
      generalize textX y0.t = R0 at *
      generalize t.lab.kd = kd at *
      subst k3
      have s0 : ¬ 9223372036854775807 < 1 + t.lab.op.size := by omega
      have s1 : ¬ 9223372036854775807 < 1 + t.lab.op.size + 1 := by omega
      have s2 : ¬ 9223372036854775807 < 1 + t.lab.op.size + 1 + R0.size := by omega
      have s3 : ¬ 9223372036854775807 < 1 + t.lab.op.size + 1 + R0.size + 1 := by omega
      have HK0 := Lib.hid hKd0
      have hw0s : w.heap.size < w0.heap.size := by have := HZ.out; omega
      have l6 : ∀ W, Later w0.drew W → W.cell? ⟨w.heap.size, 6, none⟩ = some (.string t.lab.op) := fun W hW => (HS.out.later hw0s (Later.undrew hW)).c6
      have l7 : ∀ W, Later w0.drew W → W.cell? ⟨w.heap.size, 7, none⟩ = some (.slice (some ⟨b, o, none⟩) 1 cap) := fun W hW => (HS.out.later hw0s (Later.undrew hW)).c7
      have g00 : ∀ W, Later w0.drew W → W.cell? ⟨b, o, none⟩ = some (.int .i64 y0.t.lab.kd) := fun W hW => by have := (HK0.out.later hbN (Later.undrew hW)).c0; rw [Nat.zero_mul, Nat.add_zero] at this; exact this
      have g01 : ∀ W, Later w0.drew W → W.cell? ⟨b, o + 1, none⟩ = some (.int .u8 y0.t.lab.v.k) := fun W hW => by have := (HK0.out.later hbN (Later.undrew hW)).c1; rw [Nat.zero_mul, Nat.add_zero] at this; exact this
      have g02 : ∀ W, Later w0.drew W → W.cell? ⟨b, o + 2, none⟩ = some (.int .i64 y0.t.lab.v.n) := fun W hW => by have := (HK0.out.later hbN (Later.undrew hW)).c2; rw [Nat.zero_mul, Nat.add_zero] at this; exact this
      have g03 : ∀ W, Later w0.drew W → W.cell? ⟨b, o + 3, none⟩ = some (.string y0.t.lab.v.s) := fun W hW => by have := (HK0.out.later hbN (Later.undrew hW)).c3; rw [Nat.zero_mul, Nat.add_zero] at this; exact this
      have g04 : ∀ W, Later w0.drew W → W.cell? ⟨b, o + 4, none⟩ = some (.string y0.t.lab.tb) := fun W hW => by have := (HK0.out.later hbN (Later.undrew hW)).c4; rw [Nat.zero_mul, Nat.add_zero] at this; exact this
      have g05 : ∀ W, Later w0.drew W → W.cell? ⟨b, o + 5, none⟩ = some (.string y0.t.lab.nm) := fun W hW => by have := (HK0.out.later hbN (Later.undrew hW)).c5; rw [Nat.zero_mul, Nat.add_zero] at this; exact this
      have g06 : ∀ W, Later w0.drew W → W.cell? ⟨b, o + 6, none⟩ = some (.string y0.t.lab.op) := fun W hW => by have := (HK0.out.later hbN (Later.undrew hW)).c6; rw [Nat.zero_mul, Nat.add_zero] at this; exact this
      have g07 : ∀ W, Later w0.drew W → W.cell? ⟨b, o + 7, none⟩ = some (.slice y0.a y0.t.args.length y0.cap) := fun W hW => by have := (HK0.out.later hbN (Later.undrew hW)).c7; rw [Nat.zero_mul, Nat.add_zero] at this; exact this
      clear hTx HCall HColm HLit hok HKid k1 k2 hy0 hyt0 hys0 hKd0 hCl0 HSz HM hbN
      go_enter Tryd.func43, Tryd.ntmps43
      go_wp2_with fail
      clear x0 x1 x2 x3 x4 x5 x6 x7
      refine wp_region_ord [(0, true), (1, true), (2, true), (3, true), (4, true), (5, true), (6, true), (7, true), (8, false), (9, true), (10, true), (11, true)] (by kernel_rfl) (by kernel_rfl) (by kernel_rfl) (by kernel_rfl) ?_
      repeat (first | (refine wpO_F (v := ?_) rfl (by rfl) (fun w' hL => ?_) ?_; rotate_left; (solve | (go_simp; with_reducible rfl) | go_simp); try simp only [Act.put, List.setIfInBounds_toArray, List.set_cons_zero, List.set_cons_succ]) | (refine wpO_G rfl (by rfl) ?_; try simp only [Act.put, List.setIfInBounds_toArray, List.set_cons_zero, List.set_cons_succ]))
      refine wpO_C rfl (by rfl) ?_
      go_simp
      refine (HY0.out _ (Below.refl _ _).drew).mono ?_
      rintro e w1 ⟨rfl, hb1⟩
      refine ⟨hb1, ?_⟩
      try simp only [Act.put, List.setIfInBounds_toArray, List.set_cons_zero, List.set_cons_succ]
      repeat (first | (refine wpO_F (v := ?_) rfl (by rfl) (fun w' hL => ?_) ?_; rotate_left; (solve | (go_simp; with_reducible rfl) | go_simp); try simp only [Act.put, List.setIfInBounds_toArray, List.set_cons_zero, List.set_cons_succ]) | (refine wpO_G rfl (by rfl) ?_; try simp only [Act.put, List.setIfInBounds_toArray, List.set_cons_zero, List.set_cons_succ]))
      refine wpO_nil ?_
      have HB2 := Lib.hid (HB1.out.trans (((Below.refl _ w0).drew.trans hb1).mono HB1.out.size))
      clear hb1
      clear HY0
      go_wp2
      go_ret
      exact ⟨rfl, HB2.out⟩
    rw [if_neg k3] at hTx
    by_cases k4 : t.lab.kd = 4
    · rw [if_pos k4] at hTx
      have hm1 := hok.2.1 k4
      subst hm1
      obtain ⟨y0, hy0, ⟨b, o, hab, hbN, hKd0⟩, hCl0⟩ := HKid.out 0 (by rw [HM.out]; omega)
      have hyt0 : (t.args.map textX).getD 0 ⟨#[]⟩ = textX y0.t := by
        rw [hy0]; simp [List.getD, List.getElem?_eq_getElem (show 0 < t.args.length by rw [HM.out]; omega)]
      have hys0 := HSz.out 0
      obtain ⟨y1, hy1, ⟨b1, o1, hab1, -, hKd1⟩, hCl1⟩ := HKid.out 1 (by rw [HM.out]; omega)
      have hyt1 : (t.args.map textX).getD 1 ⟨#[]⟩ = textX y1.t := by
        rw [hy1]; simp [List.getD, List.getElem?_eq_getElem (show 1 < t.args.length by rw [HM.out]; omega)]
      have hys1 := HSz.out 1
      rw [hyt1] at hTx hys1
      have HY1 := Lib.hid hCl1
      rw [hab] at hab1
      injection hab1 with hab1
      injection hab1 with e1 e2
      subst e1 e2
      rw [hyt0] at hTx hys0
      rw [hTx]
      have HY0 := Lib.hid hCl0
      subst hab
      generalize textX y0.t = R0 at *
      generalize textX y1.t = R1 at *
      generalize t.lab.kd = kd at *
      subst k4
      have s0 : ¬ 9223372036854775807 < 1 + R0.size := by omega
      have s1 : ¬ 9223372036854775807 < 1 + R0.size + 1 := by omega
      have s2 : ¬ 9223372036854775807 < 1 + R0.size + 1 + t.lab.op.size := by omega
      have s3 : ¬ 9223372036854775807 < 1 + R0.size + 1 + t.lab.op.size + 1 := by omega
      have s4 : ¬ 9223372036854775807 < 1 + R0.size + 1 + t.lab.op.size + 1 + R1.size := by omega
      have s5 : ¬ 9223372036854775807 < 1 + R0.size + 1 + t.lab.op.size + 1 + R1.size + 1 := by omega
      have HK0 := Lib.hid hKd0
      have HK1 := Lib.hid hKd1
      have hw0s : w.heap.size < w0.heap.size := by have := HZ.out; omega
      have l6 : ∀ W, Later w0.drew W → W.cell? ⟨w.heap.size, 6, none⟩ = some (.string t.lab.op) := fun W hW => (HS.out.later hw0s (Later.undrew hW)).c6
      have l7 : ∀ W, Later w0.drew W → W.cell? ⟨w.heap.size, 7, none⟩ = some (.slice (some ⟨b, o, none⟩) 2 cap) := fun W hW => (HS.out.later hw0s (Later.undrew hW)).c7
      have g00 : ∀ W, Later w0.drew W → W.cell? ⟨b, o, none⟩ = some (.int .i64 y0.t.lab.kd) := fun W hW => by have := (HK0.out.later hbN (Later.undrew hW)).c0; rw [Nat.zero_mul, Nat.add_zero] at this; exact this
      have g01 : ∀ W, Later w0.drew W → W.cell? ⟨b, o + 1, none⟩ = some (.int .u8 y0.t.lab.v.k) := fun W hW => by have := (HK0.out.later hbN (Later.undrew hW)).c1; rw [Nat.zero_mul, Nat.add_zero] at this; exact this
      have g02 : ∀ W, Later w0.drew W → W.cell? ⟨b, o + 2, none⟩ = some (.int .i64 y0.t.lab.v.n) := fun W hW => by have := (HK0.out.later hbN (Later.undrew hW)).c2; rw [Nat.zero_mul, Nat.add_zero] at this; exact this
      have g03 : ∀ W, Later w0.drew W → W.cell? ⟨b, o + 3, none⟩ = some (.string y0.t.lab.v.s) := fun W hW => by have := (HK0.out.later hbN (Later.undrew hW)).c3; rw [Nat.zero_mul, Nat.add_zero] at this; exact this
      have g04 : ∀ W, Later w0.drew W → W.cell? ⟨b, o + 4, none⟩ = some (.string y0.t.lab.tb) := fun W hW => by have := (HK0.out.later hbN (Later.undrew hW)).c4; rw [Nat.zero_mul, Nat.add_zero] at this; exact this
      have g05 : ∀ W, Later w0.drew W → W.cell? ⟨b, o + 5, none⟩ = some (.string y0.t.lab.nm) := fun W hW => by have := (HK0.out.later hbN (Later.undrew hW)).c5; rw [Nat.zero_mul, Nat.add_zero] at this; exact this
      have g06 : ∀ W, Later w0.drew W → W.cell? ⟨b, o + 6, none⟩ = some (.string y0.t.lab.op) := fun W hW => by have := (HK0.out.later hbN (Later.undrew hW)).c6; rw [Nat.zero_mul, Nat.add_zero] at this; exact this
      have g07 : ∀ W, Later w0.drew W → W.cell? ⟨b, o + 7, none⟩ = some (.slice y0.a y0.t.args.length y0.cap) := fun W hW => by have := (HK0.out.later hbN (Later.undrew hW)).c7; rw [Nat.zero_mul, Nat.add_zero] at this; exact this
      have g10 : ∀ W, Later w0.drew W → W.cell? ⟨b, o + 8, none⟩ = some (.int .i64 y1.t.lab.kd) := fun W hW => by have := (HK1.out.later hbN (Later.undrew hW)).c0; rw [Nat.one_mul] at this; exact this
      have g11 : ∀ W, Later w0.drew W → W.cell? ⟨b, o + 8 + 1, none⟩ = some (.int .u8 y1.t.lab.v.k) := fun W hW => by have := (HK1.out.later hbN (Later.undrew hW)).c1; rw [Nat.one_mul] at this; exact this
      have g12 : ∀ W, Later w0.drew W → W.cell? ⟨b, o + 8 + 2, none⟩ = some (.int .i64 y1.t.lab.v.n) := fun W hW => by have := (HK1.out.later hbN (Later.undrew hW)).c2; rw [Nat.one_mul] at this; exact this
      have g13 : ∀ W, Later w0.drew W → W.cell? ⟨b, o + 8 + 3, none⟩ = some (.string y1.t.lab.v.s) := fun W hW => by have := (HK1.out.later hbN (Later.undrew hW)).c3; rw [Nat.one_mul] at this; exact this
      have g14 : ∀ W, Later w0.drew W → W.cell? ⟨b, o + 8 + 4, none⟩ = some (.string y1.t.lab.tb) := fun W hW => by have := (HK1.out.later hbN (Later.undrew hW)).c4; rw [Nat.one_mul] at this; exact this
      have g15 : ∀ W, Later w0.drew W → W.cell? ⟨b, o + 8 + 5, none⟩ = some (.string y1.t.lab.nm) := fun W hW => by have := (HK1.out.later hbN (Later.undrew hW)).c5; rw [Nat.one_mul] at this; exact this
      have g16 : ∀ W, Later w0.drew W → W.cell? ⟨b, o + 8 + 6, none⟩ = some (.string y1.t.lab.op) := fun W hW => by have := (HK1.out.later hbN (Later.undrew hW)).c6; rw [Nat.one_mul] at this; exact this
      have g17 : ∀ W, Later w0.drew W → W.cell? ⟨b, o + 8 + 7, none⟩ = some (.slice y1.a y1.t.args.length y1.cap) := fun W hW => by have := (HK1.out.later hbN (Later.undrew hW)).c7; rw [Nat.one_mul] at this; exact this
      clear hTx HCall HColm HLit hok HKid k1 k2 k3 hy0 hyt0 hys0 hKd0 hCl0 hy1 hyt1 hys1 hKd1 hCl1 HSz HM hbN
      go_enter Tryd.func43, Tryd.ntmps43
      go_wp2_with fail
      clear x0 x1 x2 x3 x4 x5 x6 x7
      refine wp_region_ord [(0, true), (1, true), (2, true), (3, true), (7, true), (8, true), (11, true), (12, true), (13, true), (14, true), (4, false), (5, true), (6, true), (9, true), (10, true), (15, false), (16, true), (17, true), (18, true)] (by kernel_rfl) (by kernel_rfl) (by kernel_rfl) (by kernel_rfl) ?_
      repeat (first | (refine wpO_F (v := ?_) rfl (by rfl) (fun w' hL => ?_) ?_; rotate_left; (solve | (go_simp; with_reducible rfl) | go_simp); try simp only [Act.put, List.setIfInBounds_toArray, List.set_cons_zero, List.set_cons_succ]) | (refine wpO_G rfl (by rfl) ?_; try simp only [Act.put, List.setIfInBounds_toArray, List.set_cons_zero, List.set_cons_succ]))
      refine wpO_C rfl (by rfl) ?_
      go_simp
      refine (HY0.out _ (Below.refl _ _).drew).mono ?_
      rintro e w1 ⟨rfl, hb1⟩
      refine ⟨hb1, ?_⟩
      try simp only [Act.put, List.setIfInBounds_toArray, List.set_cons_zero, List.set_cons_succ]
      repeat (first | (refine wpO_F (v := ?_) rfl (by rfl) (fun w' hL => ?_) ?_; rotate_left; (solve | (go_simp; with_reducible rfl) | go_simp); try simp only [Act.put, List.setIfInBounds_toArray, List.set_cons_zero, List.set_cons_succ]) | (refine wpO_G rfl (by rfl) ?_; try simp only [Act.put, List.setIfInBounds_toArray, List.set_cons_zero, List.set_cons_succ]))
      refine wpO_C rfl (by rfl) ?_
      go_simp
      refine (HY1.out _ ((Below.refl _ _).drew.trans hb1)).mono ?_
      rintro e w2 ⟨rfl, hb2⟩
      refine ⟨hb2, ?_⟩
      try simp only [Act.put, List.setIfInBounds_toArray, List.set_cons_zero, List.set_cons_succ]
      repeat (first | (refine wpO_F (v := ?_) rfl (by rfl) (fun w' hL => ?_) ?_; rotate_left; (solve | (go_simp; with_reducible rfl) | go_simp); try simp only [Act.put, List.setIfInBounds_toArray, List.set_cons_zero, List.set_cons_succ]) | (refine wpO_G rfl (by rfl) ?_; try simp only [Act.put, List.setIfInBounds_toArray, List.set_cons_zero, List.set_cons_succ]))
      refine wpO_nil ?_
      have HB2 := Lib.hid (HB1.out.trans ((((Below.refl _ w0).drew.trans hb1).trans (hb2.mono hb1.size)).mono HB1.out.size))
      clear hb1 hb2
      clear HY0 HY1
      go_wp2
      go_ret
      exact ⟨rfl, HB2.out⟩
    rw [if_neg k4] at hTx
    by_cases k5 : t.lab.kd = 5
    · rw [if_pos k5] at hTx
      have hm1 := hok.2.2 k5
      subst hm1
      obtain ⟨y0, hy0, ⟨b, o, hab, hbN, hKd0⟩, hCl0⟩ := HKid.out 0 (by rw [HM.out]; omega)
      have hyt0 : (t.args.map textX).getD 0 ⟨#[]⟩ = textX y0.t := by
        rw [hy0]; simp [List.getD, List.getElem?_eq_getElem (show 0 < t.args.length by rw [HM.out]; omega)]
      have hys0 := HSz.out 0
      rw [hyt0] at hTx hys0
      rw [hTx]
      have HY0 := Lib.hid hCl0
      subst hab
      generalize textX y0.t = R0 at *
      generalize t.lab.kd = kd at *
      subst k5
      have s0 : ¬ 9223372036854775807 < 1 + R0.size := by omega
      have s1 : ¬ 9223372036854775807 < 1 + R0.size + 1 := by omega
      have s2 : ¬ 9223372036854775807 < 1 + R0.size + 1 + t.lab.op.size := by omega
      have s3 : ¬ 9223372036854775807 < 1 + R0.size + 1 + t.lab.op.size + 1 := by omega
      have HK0 := Lib.hid hKd0
      have hw0s : w.heap.size < w0.heap.size := by have := HZ.out; omega
      have l6 : ∀ W, Later w0.drew W → W.cell? ⟨w.heap.size, 6, none⟩ = some (.string t.lab.op) := fun W hW => (HS.out.later hw0s (Later.undrew hW)).c6
      have l7 : ∀ W, Later w0.drew W → W.cell? ⟨w.heap.size, 7, none⟩ = some (.slice (some ⟨b, o, none⟩) 1 cap) := fun W hW => (HS.out.later hw0s (Later.undrew hW)).c7
      have g00 : ∀ W, Later w0.drew W → W.cell? ⟨b, o, none⟩ = some (.int .i64 y0.t.lab.kd) := fun W hW => by have := (HK0.out.later hbN (Later.undrew hW)).c0; rw [Nat.zero_mul, Nat.add_zero] at this; exact this
      have g01 : ∀ W, Later w0.drew W → W.cell? ⟨b, o + 1, none⟩ = some (.int .u8 y0.t.lab.v.k) := fun W hW => by have := (HK0.out.later hbN (Later.undrew hW)).c1; rw [Nat.zero_mul, Nat.add_zero] at this; exact this
      have g02 : ∀ W, Later w0.drew W → W.cell? ⟨b, o + 2, none⟩ = some (.int .i64 y0.t.lab.v.n) := fun W hW => by have := (HK0.out.later hbN (Later.undrew hW)).c2; rw [Nat.zero_mul, Nat.add_zero] at this; exact this
      have g03 : ∀ W, Later w0.drew W → W.cell? ⟨b, o + 3, none⟩ = some (.string y0.t.lab.v.s) := fun W hW => by have := (HK0.out.later hbN (Later.undrew hW)).c3; rw [Nat.zero_mul, Nat.add_zero] at this; exact this
      have g04 : ∀ W, Later w0.drew W → W.cell? ⟨b, o + 4, none⟩ = some (.string y0.t.lab.tb) := fun W hW => by have := (HK0.out.later hbN (Later.undrew hW)).c4; rw [Nat.zero_mul, Nat.add_zero] at this; exact this
      have g05 : ∀ W, Later w0.drew W → W.cell? ⟨b, o + 5, none⟩ = some (.string y0.t.lab.nm) := fun W hW => by have := (HK0.out.later hbN (Later.undrew hW)).c5; rw [Nat.zero_mul, Nat.add_zero] at this; exact this
      have g06 : ∀ W, Later w0.drew W → W.cell? ⟨b, o + 6, none⟩ = some (.string y0.t.lab.op) := fun W hW => by have := (HK0.out.later hbN (Later.undrew hW)).c6; rw [Nat.zero_mul, Nat.add_zero] at this; exact this
      have g07 : ∀ W, Later w0.drew W → W.cell? ⟨b, o + 7, none⟩ = some (.slice y0.a y0.t.args.length y0.cap) := fun W hW => by have := (HK0.out.later hbN (Later.undrew hW)).c7; rw [Nat.zero_mul, Nat.add_zero] at this; exact this
      clear hTx HCall HColm HLit hok HKid k1 k2 k3 k4 hy0 hyt0 hys0 hKd0 hCl0 HSz HM hbN
      go_enter Tryd.func43, Tryd.ntmps43
      go_wp2_with fail
      clear x0 x1 x2 x3 x4 x5 x6 x7
      refine wp_region_ord [(0, true), (1, true), (2, true), (3, true), (7, true), (8, true), (4, false), (5, true), (6, true), (9, true), (10, true), (11, true)] (by kernel_rfl) (by kernel_rfl) (by kernel_rfl) (by kernel_rfl) ?_
      repeat (first | (refine wpO_F (v := ?_) rfl (by rfl) (fun w' hL => ?_) ?_; rotate_left; (solve | (go_simp; with_reducible rfl) | go_simp); try simp only [Act.put, List.setIfInBounds_toArray, List.set_cons_zero, List.set_cons_succ]) | (refine wpO_G rfl (by rfl) ?_; try simp only [Act.put, List.setIfInBounds_toArray, List.set_cons_zero, List.set_cons_succ]))
      refine wpO_C rfl (by rfl) ?_
      go_simp
      refine (HY0.out _ (Below.refl _ _).drew).mono ?_
      rintro e w1 ⟨rfl, hb1⟩
      refine ⟨hb1, ?_⟩
      try simp only [Act.put, List.setIfInBounds_toArray, List.set_cons_zero, List.set_cons_succ]
      repeat (first | (refine wpO_F (v := ?_) rfl (by rfl) (fun w' hL => ?_) ?_; rotate_left; (solve | (go_simp; with_reducible rfl) | go_simp); try simp only [Act.put, List.setIfInBounds_toArray, List.set_cons_zero, List.set_cons_succ]) | (refine wpO_G rfl (by rfl) ?_; try simp only [Act.put, List.setIfInBounds_toArray, List.set_cons_zero, List.set_cons_succ]))
      refine wpO_nil ?_
      have HB2 := Lib.hid (HB1.out.trans (((Below.refl _ w0).drew.trans hb1).mono HB1.out.size))
      clear hb1
      clear HY0
      go_wp2
      go_ret
      exact ⟨rfl, HB2.out⟩
    rw [if_neg k5] at hTx
    have HY := Lib.hid (HCall.out ⟨k1, k2, k3, k4, k5⟩)
    have q1 : (t.lab.kd == 1) = false := by simpa using k1
    have q2 : (t.lab.kd == 2) = false := by simpa using k2
    have q3 : (t.lab.kd == 3) = false := by simpa using k3
    have q4 : (t.lab.kd == 4) = false := by simpa using k4
    have q5 : (t.lab.kd == 5) = false := by simpa using k5
    generalize textX t = R at *
    generalize t.lab.kd = kd at *
    clear hTx HCall HColm HLit hok HKid k1 k2 k3 k4 k5 HSz HM
    go_enter Tryd.func43, Tryd.ntmps43
    go_wp2_with fail
    refine (HY.out _ HB1.out).mono ?_
    rintro e w1 ⟨rfl, hb1⟩
    have HB2 := Lib.hid (HB1.out.trans (hb1.mono HB1.out.size))
    clear hb1 x0 x1 x2 x3 x4 x5 x6 x7
    go_wp2
    go_ret
    exact ⟨rfl, HB2.out⟩
end Go.Proofs.YtbnddpicpomakaaDoor

/- What the fixed calls of law 20's alive come to. -/
set_option linter.unusedSimpArgs false
set_option linter.unusedVariables false
set_option maxRecDepth 100000
namespace Go.Proofs.YtbnddpicpomakaaDoor
open Go.RowKit

def vZ : Vl := ⟨0, 0, ⟨#[]⟩⟩
def aT : Ex := .mk ⟨2, vZ, ⟨#[]⟩, ⟨#[97]⟩, ⟨#[]⟩⟩ []
def oneT : Ex := .mk ⟨1, ⟨1, 1, ⟨#[]⟩⟩, ⟨#[]⟩, ⟨#[]⟩, ⟨#[]⟩⟩ []
def eT : Ex := .mk ⟨4, vZ, ⟨#[]⟩, ⟨#[]⟩, ⟨#[43]⟩⟩ [aT, oneT]
def selT : Ex := .mk ⟨2, vZ, ⟨#[]⟩, ⟨#[115, 101, 108, 101, 99, 116]⟩, ⟨#[]⟩⟩ []
theorem al_right : rightX 20 eT = true := by decide +kernel
theorem al_sel : rightX 20 selT = false := by decide +kernel
theorem al_of : resB ⟨#[111, 102]⟩ = true := by decide +kernel
theorem al_a : resB ⟨#[97]⟩ = false := by decide +kernel
theorem al_fits : eT.fits (fun l k => !l.big k) 20 = true := by decide +kernel
theorem al_fitsS : selT.fits (fun l k => !l.big k) 20 = true := by decide +kernel
theorem al_depth : eT.depth = 2 := by
  simp [eT, aT, oneT, Rose.depth_eq, Rose.args, maxL]
theorem al_count : eT.count = 3 := by
  simp [eT, aT, oneT, Rose.count_eq, Rose.args]
theorem al_countS : selT.count = 1 := by
  simp [selT, Rose.count_eq, Rose.args]
theorem al_pick : pickX 2 true eT = [aT] := by
  simp [eT, aT, oneT, pickX_eq, pickL, Rose.args, Rose.lab]
theorem al_lit : Vl.litS ⟨1, 1, ⟨#[]⟩⟩ = ⟨#[49]⟩ := by
  rw [Vl.litS_eq]
  show baL (Lib.itoa 1) = _
  have : Lib.itoa 1 = [49] := by decide +kernel
  rw [this]; rfl
theorem al_textA : textX aT = ⟨#[97]⟩ := by
  rw [textX_eq]
  show Lb.textOf ⟨2, vZ, ⟨#[]⟩, ⟨#[97]⟩, ⟨#[]⟩⟩ [] = _
  decide +kernel
theorem al_text1 : textX oneT = ⟨#[49]⟩ := by
  rw [textX_eq]
  show Vl.litS ⟨1, 1, ⟨#[]⟩⟩ = _
  exact al_lit
theorem al_text : textX eT = ⟨#[40, 97, 32, 43, 32, 49, 41]⟩ := by
  rw [textX_eq]
  have h : eT.args.map textX = [⟨#[97]⟩, ⟨#[49]⟩] := by
    show [textX aT, textX oneT] = _
    rw [al_textA, al_text1]
  rw [h]
  decide +kernel

/-- Write's answer. -/
def writeV (e : Ex) : ByteArray × Int := if rightX 20 e = true then (textX e, 0) else (⟨#[]⟩, 3)
theorem good_of {e : Ex} (h : rightX 20 e = true) (hs : e.allB (fun l k => !l.big k) = true) : GoodX e := by
  rw [rightX_eq, Bool.and_eq_true] at h
  have h1 := h.1
  clear h
  unfold GoodX
  induction e using Rose.ind with
  | h l args ih =>
    rw [Rose.allB_eq, Bool.and_eq_true, List.all_eq_true] at h1 hs ⊢
    exact ⟨by unfold Lb.good; rw [h1.1, hs.1]; rfl, fun x hx => ih x hx (hs.2 x hx) (h1.2 x hx)⟩

set_option maxHeartbeats 1000000 in
theorem sWrite_any20 (n : Nat) (x : XM) (w : World) (hT : Pre4 w) (h : XAt w.heap.size w n x) (hs : x.t.allB (fun l k => !l.big k) = true) (hc : x.t.count ≤ 100000) :
    Calls Tryd.prog 23 #[x.v] w fun e w' => e = .returned (.tuple #[.string (writeV x.t).1, .int .i64 (writeV x.t).2]) ∧ Below w.heap.size w w' := by
  have HX := Lib.hid (Slot8.new w 39 (.int .i64 x.t.lab.kd) (.int .u8 x.t.lab.v.k) (.int .i64 x.t.lab.v.n) (.string x.t.lab.v.s) (.string x.t.lab.tb) (.string x.t.lab.nm) (.string x.t.lab.op) (.slice x.a x.t.args.length x.cap))
  have HR := Lib.hid (fun V (hb : Below w.heap.size w V) => Right_any20 n x V (h.later hb))
  have HD := Lib.hid (fun V (hr : rightX 20 x.t = true) (hb : Below w.heap.size w V) => text_is n x V (hT.below hb) (h.later hb) (good_of hr hs) hc)
  have HB0 : Hid (∀ o, Below w.heap.size w (w.alloc o)) := fun o => (Below.refl _ w).alloc (Nat.le_refl _) _
  rw [XM.v_eq] at HR HD ⊢
  unfold writeV
  obtain ⟨r, hr⟩ : ∃ r, rightX 20 x.t = r := ⟨_, rfl⟩
  rw [hr] at HR HD ⊢
  generalize textX x.t = T at *
  clear h hT hs hc hr
  obtain ⟨x0, x1, x2, x3, x4, x5, x6, x7⟩ := HX.out
  cases r with
  | false =>
    rw [if_neg (by simp)]
    go_enter Tryd.func23, Tryd.ntmps23
    go_wp2_with fail
    refine (HR.out _ (HB0.out _)).mono ?_
    rintro e w1 ⟨rfl, hb1⟩
    have HB1 := Lib.hid ((HB0.out _).trans (hb1.mono (Nat.le_of_lt (box8 _ _))))
    clear hb1 x0 x1 x2 x3 x4 x5 x6 x7
    go_wp2
    go_ret2
    exact ⟨rfl, HB1.out⟩
  | true =>
    rw [if_pos rfl]
    go_enter Tryd.func23, Tryd.ntmps23
    go_wp2_with fail
    refine (HR.out _ (HB0.out _)).mono ?_
    rintro e w1 ⟨rfl, hb1⟩
    have HB1 := Lib.hid ((HB0.out _).trans (hb1.mono (Nat.le_of_lt (box8 _ _))))
    clear x0 x1 x2 x3 x4 x5 x6 x7
    obtain ⟨x0, x1, x2, x3, x4, x5, x6, x7⟩ := HX.out.later (box8 _ _) hb1
    have HY := Lib.hid (HD.out w1 (by trivial) HB1.out)
    clear hb1 HD HR
    go_wp2_with fail
    refine HY.out.mono ?_
    rintro e w2 ⟨rfl, hb2⟩
    have HB2 := Lib.hid (HB1.out.trans (hb2.mono HB1.out.size))
    clear hb2 HY x0 x1 x2 x3 x4 x5 x6 x7
    go_wp2
    go_ret2
    exact ⟨rfl, HB2.out⟩

theorem fits_all (p : Lb → Nat → Bool) (n : Nat) (e : Ex) (h : e.fits p n = true) : e.allB p = true := by
  rw [Rose.fits_eq, Bool.and_eq_true] at h; exact h.1

theorem one20_any (w : World) : Calls Tryd.prog 32 #[] w fun e w' => e = .returned (.agg #[.int .i64 1, .int .u8 1, .int .i64 1, .string ⟨#[]⟩, .string ⟨#[]⟩, .string ⟨#[]⟩, .string ⟨#[]⟩, .slice none 0 0]) ∧ Below w.heap.size w w' := by
  go_enter Tryd.func32, Tryd.ntmps32
  go_wp2
  exact bodyPost_ret (v := .agg #[.int .i64 1, .int .u8 1, .int .i64 1, .string ⟨#[]⟩, .string ⟨#[]⟩, .string ⟨#[]⟩, .string ⟨#[]⟩, .slice none 0 0]) (by simp [results, Tryd.results32, go_sem]) rfl ⟨rfl, (Below.refl _ w).alloc (Nat.le_refl _) _⟩
end Go.Proofs.YtbnddpicpomakaaDoor

/- The walk of law 20's alive. -/
set_option linter.unusedSimpArgs false
set_option linter.unusedVariables false
set_option maxRecDepth 100000
namespace Go.Proofs.YtbnddpicpomakaaDoor
open Go.RowKit

abbrev c16 : List Value := [.int .i64 2, .int .u8 0, .int .i64 0, .string ⟨#[]⟩, .string ⟨#[]⟩, .string ⟨#[97]⟩, .string ⟨#[]⟩, .slice none 0 0, .int .i64 1, .int .u8 1, .int .i64 1, .string ⟨#[]⟩, .string ⟨#[]⟩, .string ⟨#[]⟩, .string ⟨#[]⟩, .slice none 0 0]
theorem al_fair (kd : Int) (v : Vl) (tb nm op : ByteArray) (h1 : -9223372036854775808 ≤ kd ∧ kd ≤ 9223372036854775807) (h2 : v.k < 256 ∧ (-9223372036854775808 ≤ v.n ∧ v.n ≤ 9223372036854775807)) (h3 : v.s.size ≤ 100 ∧ tb.size ≤ 100 ∧ nm.size ≤ 100 ∧ op.size ≤ 100) : Lb.fair ⟨kd, v, tb, nm, op⟩ :=
  ⟨h1, h2.1, h2.2, by have := h3.1; show v.s.size ≤ _; omega, by have := h3.2.1; show tb.size ≤ _; omega, by have := h3.2.2.1; show nm.size ≤ _; omega, by have := h3.2.2.2; show op.size ≤ _; omega⟩

/-- The expression a + 1 has been laid. -/
structure AlE (w W : World) (B A : Nat) : Prop where
  at_ : XAt W.heap.size W 3 ⟨eT, some ⟨A, 0, none⟩, 2⟩
  box : Slot8 W B (.int .i64 4) (.int .u8 0) (.int .i64 0) (.string ⟨#[]⟩) (.string ⟨#[]⟩) (.string ⟨#[]⟩) (.string ⟨#[43]⟩) (.slice (some ⟨A, 0, none⟩) 2 2)
  lt : B < W.heap.size
  bel : Below w.heap.size w W
theorem AlE.later {w W W' : World} {B A : Nat} (h : AlE w W B A) (hb : Below W.heap.size W W') : AlE w W' B A :=
  ⟨h.at_.later hb, h.box.later h.lt hb, Nat.lt_of_lt_of_le h.lt hb.size, h.bel.trans (hb.mono h.bel.size)⟩

theorem al_end {w W3 : World} {B A : Nat} (hB : Blk W3 B 39 zeroXc) (hA : ∀ (j : Nat) v, c16[j]? = some v → W3.cell? ⟨A, j, none⟩ = some v) (hAlt : A < W3.heap.size) (hAB : A ≠ B) (hb : Below w.heap.size w W3) (hBw : w.heap.size ≤ B) :
    (storeVar 39 ⟨B, 0, none⟩ (.agg #[.int .i64 4, .int .u8 0, .int .i64 0, .string ⟨#[]⟩, .string ⟨#[]⟩, .string ⟨#[]⟩, .string ⟨#[43]⟩, .slice (some ⟨A, 0, none⟩) 2 2])).run Tryd.prog W3 = .ok () (W3.setRow B #[.int .i64 4, .int .u8 0, .int .i64 0, .string ⟨#[]⟩, .string ⟨#[]⟩, .string ⟨#[]⟩, .string ⟨#[43]⟩, .slice (some ⟨A, 0, none⟩) 2 2]) ∧ AlE w (W3.setRow B #[.int .i64 4, .int .u8 0, .int .i64 0, .string ⟨#[]⟩, .string ⟨#[]⟩, .string ⟨#[]⟩, .string ⟨#[43]⟩, .slice (some ⟨A, 0, none⟩) 2 2]) B A := by
  refine ⟨run_storeVar_row _ _ _ 39 _ _ hB (by rw [info_exS]; rfl) rfl (by simp [Value.oneCell']), ?_⟩
  have hN : Blk (W3.setRow B #[.int .i64 4, .int .u8 0, .int .i64 0, .string ⟨#[]⟩, .string ⟨#[]⟩, .string ⟨#[]⟩, .string ⟨#[43]⟩, .slice (some ⟨A, 0, none⟩) 2 2]) B 39 #[.int .i64 4, .int .u8 0, .int .i64 0, .string ⟨#[]⟩, .string ⟨#[]⟩, .string ⟨#[]⟩, .string ⟨#[43]⟩, .slice (some ⟨A, 0, none⟩) 2 2] := Blk.setRow hB
  have hc : Chg [B] W3 (W3.setRow B #[.int .i64 4, .int .u8 0, .int .i64 0, .string ⟨#[]⟩, .string ⟨#[]⟩, .string ⟨#[]⟩, .string ⟨#[43]⟩, .slice (some ⟨A, 0, none⟩) 2 2]) := (Chg.refl _ _).setRow (.inl (by simp)) _
  have hA2 : ∀ (j : Nat) v, c16[j]? = some v → (W3.setRow B #[.int .i64 4, .int .u8 0, .int .i64 0, .string ⟨#[]⟩, .string ⟨#[]⟩, .string ⟨#[]⟩, .string ⟨#[43]⟩, .slice (some ⟨A, 0, none⟩) 2 2]).cell? ⟨A, j, none⟩ = some v := fun j v hj => (hc.cell hAlt (by simp; exact hAB)).trans (hA j v hj)
  have hsz := hc.size
  refine ⟨⟨al_fair _ _ _ _ _ (by decide) (by decide) (by decide), (show (2 : Nat) ≤ 2 by decide), (show (2 : Nat) ≤ 9223372036854775807 by decide), [⟨aT, none, 0⟩, ⟨oneT, none, 0⟩], rfl, .inr ⟨A, 0, rfl, by omega, fun i v hi => ?_⟩, ?_⟩, ?_, hN.lt, hb.trans (hc.below hb.size (by simp; exact hBw))⟩
  · rw [Nat.zero_add]; exact hA2 i v hi
  · intro y hy
    rcases List.mem_cons.1 hy with rfl | hy
    · exact ⟨al_fair _ _ _ _ _ (by decide) (by decide) (by decide), by decide, by decide, [], rfl, .inl rfl, fun z hz => by cases hz⟩
    · rw [List.mem_singleton.1 hy]
      exact ⟨al_fair _ _ _ _ _ (by decide) (by decide) (by decide), by decide, by decide, [], rfl, .inl rfl, fun z hz => by cases hz⟩
  · exact ⟨(hN.cell 0).trans rfl, (hN.cell 1).trans rfl, (hN.cell 2).trans rfl, (hN.cell 3).trans rfl, (hN.cell 4).trans rfl, (hN.cell 5).trans rfl, (hN.cell 6).trans rfl, (hN.cell 7).trans rfl⟩

set_option maxHeartbeats 8000000 in
theorem alive20_any (w : World) (hT : Pre4 w) : Calls Tryd.prog 14 #[] w fun e w' => e = .returned (.bool true) ∧ Below w.heap.size w w' := by
  have HO := Lib.hid (fun V => one20_any V)
  have HWr : Hid (∀ (V : World) (B A : Nat), AlE w V B A → Calls Tryd.prog 23 #[.agg #[.int .i64 4, .int .u8 0, .int .i64 0, .string ⟨#[]⟩, .string ⟨#[]⟩, .string ⟨#[]⟩, .string ⟨#[43]⟩, .slice (some ⟨A, 0, none⟩) 2 2]] V fun e w' => e = .returned (.tuple #[.string ⟨#[40, 97, 32, 43, 32, 49, 41]⟩, .int .i64 0]) ∧ Below V.heap.size V w') := fun V B A h => by
    have := sWrite_any20 3 ⟨eT, some ⟨A, 0, none⟩, 2⟩ V (hT.below h.bel) h.at_ (fits_all _ _ _ al_fits) (by show eT.count ≤ _; rw [al_count]; omega)
    have e1 : writeV eT = (⟨#[40, 97, 32, 43, 32, 49, 41]⟩, 0) := by unfold writeV; rw [if_pos al_right, al_text]
    rw [XM.v_eq] at this
    simp only [e1] at this
    exact this
  have HCo : Hid (∀ (V : World) (B A : Nat), AlE w V B A → Calls Tryd.prog 16 #[.agg #[.int .i64 4, .int .u8 0, .int .i64 0, .string ⟨#[]⟩, .string ⟨#[]⟩, .string ⟨#[]⟩, .string ⟨#[43]⟩, .slice (some ⟨A, 0, none⟩) 2 2]] V fun e w' => ∃ (a : Option Addr) (cap : Nat), e = .returned (.slice a 1 cap) ∧ Below V.heap.size V w') := fun V B A h => by
    have := cols_any 3 ⟨eT, some ⟨A, 0, none⟩, 2⟩ V h.at_ (by show eT.count ≤ _; rw [al_count]; omega)
    rw [XM.v_eq] at this
    refine this.mono ?_
    rintro e w' ⟨a, cap, L, he, -, -, hL, -, -, hb⟩
    have e1 : (if rightX 20 eT = true then pickX 2 true eT else []) = [aT] := by rw [if_pos al_right, al_pick]
    have hl : L.length = 1 := by
      have h2 := congrArg List.length hL
      rw [List.length_map] at h2
      rw [h2]
      show (if rightX 20 eT = true then pickX 2 true eT else []).length = 1
      rw [e1]; rfl
    exact ⟨a, cap, by rw [he, hl], hb⟩
  have HSe : Hid (∀ (V : World), Below w.heap.size w V → Calls Tryd.prog 23 #[.agg #[.int .i64 2, .int .u8 0, .int .i64 0, .string ⟨#[]⟩, .string ⟨#[]⟩, .string ⟨#[115, 101, 108, 101, 99, 116]⟩, .string ⟨#[]⟩, .slice none 0 0]] V fun e w' => e = .returned (.tuple #[.string ⟨#[]⟩, .int .i64 3]) ∧ Below V.heap.size V w') := fun V hb => by
    have := sWrite_any20 1 ⟨selT, none, 0⟩ V (hT.below hb) ⟨al_fair _ _ _ _ _ (by decide) (by decide) (by decide), by decide, by decide, [], rfl, .inl rfl, fun z hz => by cases hz⟩ (fits_all _ _ _ al_fitsS) (by show selT.count ≤ _; rw [al_countS]; omega)
    have e1 : writeV selT = (⟨#[]⟩, 3) := by unfold writeV; rw [if_neg (by rw [al_sel]; simp)]
    rw [XM.v_eq] at this
    simp only [e1] at this
    exact this
  have HDe : Hid (∀ (V : World) (B A : Nat), AlE w V B A → Calls Tryd.prog 21 #[.agg #[.int .i64 4, .int .u8 0, .int .i64 0, .string ⟨#[]⟩, .string ⟨#[]⟩, .string ⟨#[]⟩, .string ⟨#[43]⟩, .slice (some ⟨A, 0, none⟩) 2 2]] V fun e w' => e = .returned (.int .i64 2) ∧ Below V.heap.size V w') := fun V B A h => by
    have := Deep_any 3 ⟨eT, some ⟨A, 0, none⟩, 2⟩ V h.at_
    rw [XM.v_eq] at this
    simp only [al_depth] at this
    exact this
  have HOf : Hid (∀ V, Calls Tryd.prog 33 #[.string ⟨#[111, 102]⟩] V fun e w' => e = .returned (.bool true) ∧ V = w') := fun V => by
    have := Reserved_any ⟨#[111, 102]⟩ V; rw [al_of] at this; exact this
  have HRa : Hid (∀ V, Calls Tryd.prog 33 #[.string ⟨#[97]⟩] V fun e w' => e = .returned (.bool false) ∧ V = w') := fun V => by
    have := Reserved_any ⟨#[97]⟩ V; rw [al_a] at this; exact this
  have HX := Lib.hid (Slot8.new w 39 (.int .i64 2) (.int .u8 0) (.int .i64 0) (.string ⟨#[]⟩) (.string ⟨#[]⟩) (.string ⟨#[97]⟩) (.string ⟨#[]⟩) (.slice none 0 0))
  obtain ⟨w0, hw0⟩ : ∃ w0, w.alloc (.cells #[.int .i64 2, .int .u8 0, .int .i64 0, .string ⟨#[]⟩, .string ⟨#[]⟩, .string ⟨#[97]⟩, .string ⟨#[]⟩, .slice none 0 0] 39) = w0 := ⟨_, rfl⟩
  have HB0 : Hid (Below w.heap.size w w0) := by rw [← hw0]; exact (Below.refl _ w).alloc (Nat.le_refl _) _
  have hs0 : w0.heap.size = w.heap.size + 1 := by rw [← hw0]; simp
  rw [hw0] at HX
  have HZ := Lib.hid hs0
  have b0 : ∀ V, Chg [] w0.drew V → V.cell? ⟨w.heap.size, 0, none⟩ = some (.int .i64 2) := fun V hV => (hV.cell (b := w.heap.size) (by show w.heap.size < w0.heap.size; have := HZ.out; omega) (by simp)).trans HX.out.c0
  have b1 : ∀ V, Chg [] w0.drew V → V.cell? ⟨w.heap.size, 1, none⟩ = some (.int .u8 0) := fun V hV => (hV.cell (b := w.heap.size) (by show w.heap.size < w0.heap.size; have := HZ.out; omega) (by simp)).trans HX.out.c1
  have b2 : ∀ V, Chg [] w0.drew V → V.cell? ⟨w.heap.size, 2, none⟩ = some (.int .i64 0) := fun V hV => (hV.cell (b := w.heap.size) (by show w.heap.size < w0.heap.size; have := HZ.out; omega) (by simp)).trans HX.out.c2
  have b3 : ∀ V, Chg [] w0.drew V → V.cell? ⟨w.heap.size, 3, none⟩ = some (.string ⟨#[]⟩) := fun V hV => (hV.cell (b := w.heap.size) (by show w.heap.size < w0.heap.size; have := HZ.out; omega) (by simp)).trans HX.out.c3
  have b4 : ∀ V, Chg [] w0.drew V → V.cell? ⟨w.heap.size, 4, none⟩ = some (.string ⟨#[]⟩) := fun V hV => (hV.cell (b := w.heap.size) (by show w.heap.size < w0.heap.size; have := HZ.out; omega) (by simp)).trans HX.out.c4
  have b5 : ∀ V, Chg [] w0.drew V → V.cell? ⟨w.heap.size, 5, none⟩ = some (.string ⟨#[97]⟩) := fun V hV => (hV.cell (b := w.heap.size) (by show w.heap.size < w0.heap.size; have := HZ.out; omega) (by simp)).trans HX.out.c5
  have b6 : ∀ V, Chg [] w0.drew V → V.cell? ⟨w.heap.size, 6, none⟩ = some (.string ⟨#[]⟩) := fun V hV => (hV.cell (b := w.heap.size) (by show w.heap.size < w0.heap.size; have := HZ.out; omega) (by simp)).trans HX.out.c6
  have b7 : ∀ V, Chg [] w0.drew V → V.cell? ⟨w.heap.size, 7, none⟩ = some (.slice none 0 0) := fun V hV => (hV.cell (b := w.heap.size) (by show w.heap.size < w0.heap.size; have := HZ.out; omega) (by simp)).trans HX.out.c7
  have HW0 := Lib.hid hw0
  clear hT hs0 hw0
  go_enter Tryd.func14, Tryd.ntmps14
  go_wp2_with fail
  rw [HW0.out]
  refine wp_region_tail ([]) [5] (.free 0 (.two 1 4 (.two 2 4 (.free 3 (.one 4 (.last 5 (.nil)))) (.one 2 (.free 3 (.last 5 (.nil))))) (.one 1 (.one 2 (.free 3 (.last 5 (.nil))))))) (by kernel_rfl) (by kernel_rfl) (by kernel_rfl) (by kernel_rfl) ?_
  repeat (first | (refine wpL_F (v := ?_) rfl (by rfl) (fun w' hL => ?_) ?_; rotate_left; (solve | (go_simp; with_reducible rfl) | go_simp); try simp only [Act.put, List.setIfInBounds_toArray, List.set_cons_zero, List.set_cons_succ]) | (refine wpL_G rfl (by rfl) ?_; try simp only [Act.put, List.setIfInBounds_toArray, List.set_cons_zero, List.set_cons_succ]))
  refine wpL_two ?_ ?_
  · skip
    refine wpL_C rfl (by rfl) ?_
    go_simp
    refine (HO.out _).mono ?_
    rintro e w1 ⟨rfl, hb1⟩
    refine ⟨below_chg hb1, ?_⟩
    try simp only [Act.put, List.setIfInBounds_toArray, List.set_cons_zero, List.set_cons_succ]
    refine wpL_two ?_ ?_
    · skip
      refine wpL_C rfl (by rfl) ?_
      go_simp
      refine ⟨(Chg.refl _ _).alloc _, ?_⟩
      try simp only [Act.put, List.setIfInBounds_toArray, List.set_cons_zero, List.set_cons_succ]
      repeat (first | (refine wpL_F (v := ?_) rfl (by rfl) (fun w' hL => ?_) ?_; rotate_left; (solve | (go_simp; with_reducible rfl) | go_simp); try simp only [Act.put, List.setIfInBounds_toArray, List.set_cons_zero, List.set_cons_succ]) | (refine wpL_G rfl (by rfl) ?_; try simp only [Act.put, List.setIfInBounds_toArray, List.set_cons_zero, List.set_cons_succ]))
      refine wpL_C rfl (by rfl) ?_
      go_simp
      refine ⟨(Chg.refl _ _).alloc _, ?_⟩
      try simp only [Act.put, List.setIfInBounds_toArray, List.set_cons_zero, List.set_cons_succ]
      obtain ⟨W3, hW3⟩ : ∃ W3, (w1.alloc (.cells #[.int .i64 2, .int .u8 0, .int .i64 0, .string ⟨#[]⟩, .string ⟨#[]⟩, .string ⟨#[97]⟩, .string ⟨#[]⟩, .slice none 0 0, .int .i64 1, .int .u8 1, .int .i64 1, .string ⟨#[]⟩, .string ⟨#[]⟩, .string ⟨#[]⟩, .string ⟨#[]⟩, .slice none 0 0] 39)).alloc (.cells #[.int .i64 0, .int .u8 0, .int .i64 0, .string ⟨#[]⟩, .string ⟨#[]⟩, .string ⟨#[]⟩, .string ⟨#[]⟩, .slice none 0 0] 39) = W3 := ⟨_, rfl⟩
      try rw [hW3]
      have hEnd := al_end (w := w) (W3 := W3) (B := w1.heap.size + 1) (A := w1.heap.size) (by rw [← hW3]; have := Blk.new (w1.alloc (.cells #[.int .i64 2, .int .u8 0, .int .i64 0, .string ⟨#[]⟩, .string ⟨#[]⟩, .string ⟨#[97]⟩, .string ⟨#[]⟩, .slice none 0 0, .int .i64 1, .int .u8 1, .int .i64 1, .string ⟨#[]⟩, .string ⟨#[]⟩, .string ⟨#[]⟩, .string ⟨#[]⟩, .slice none 0 0] 39)) 39 zeroXc; rw [show (w1.alloc (.cells #[.int .i64 2, .int .u8 0, .int .i64 0, .string ⟨#[]⟩, .string ⟨#[]⟩, .string ⟨#[97]⟩, .string ⟨#[]⟩, .slice none 0 0, .int .i64 1, .int .u8 1, .int .i64 1, .string ⟨#[]⟩, .string ⟨#[]⟩, .string ⟨#[]⟩, .string ⟨#[]⟩, .slice none 0 0] 39)).heap.size = w1.heap.size + 1 by simp] at this; exact this) (fun j v hj => by rw [← hW3]; exact ((((Below.refl _ (w1.alloc (.cells #[.int .i64 2, .int .u8 0, .int .i64 0, .string ⟨#[]⟩, .string ⟨#[]⟩, .string ⟨#[97]⟩, .string ⟨#[]⟩, .slice none 0 0, .int .i64 1, .int .u8 1, .int .i64 1, .string ⟨#[]⟩, .string ⟨#[]⟩, .string ⟨#[]⟩, .string ⟨#[]⟩, .slice none 0 0] 39))).alloc (Nat.le_refl _) _).cell (p := ⟨w1.heap.size, j, none⟩) (by simp))).trans (by rw [World.cell?_alloc_at _ _ _ _ rfl]; simpa using hj)) (by rw [← hW3]; simp; omega) (by omega) (by rw [← hW3]; have h1 := hb1.size; have h2 : w0.drew.heap.size = w0.heap.size := rfl; have h3 := HZ.out; exact ((HB0.out.drew.trans (hb1.mono HB0.out.drew.size)).alloc (by omega) _).alloc (by simp; omega) _) (by have h1 := hb1.size; have h2 : w0.drew.heap.size = w0.heap.size := rfl; have h3 := HZ.out; omega)
      have HSt := Lib.hid hEnd.1
      have HE := Lib.hid hEnd.2
      clear hEnd hb1 b0 b1 b2 b3 b4 b5 b6 b7
      refine wpL_X rfl (by rfl) ?_
      refine wp_skp (exec_store rfl rfl rfl HSt.out) ?_
      try simp only [Act.put, List.setIfInBounds_toArray, List.set_cons_zero, List.set_cons_succ]
      refine wpL_nil ?_
      try go_simp
      try simp only [NoPanic]
      obtain ⟨x0q, x1q, x2q, x3q, x4q, x5q, x6q, x7q⟩ := HE.out.box
      go_wp2_with fail
      refine (HWr.out _ _ _ HE.out).mono ?_
      rintro e x1 ⟨rfl, hb1⟩
      have HE1 := Lib.hid (HE.out.later hb1)
      clear x0q x1q x2q x3q x4q x5q x6q x7q hb1
      obtain ⟨x0q, x1q, x2q, x3q, x4q, x5q, x6q, x7q⟩ := HE1.out.box
      go_wp2_with fail
      refine (HCo.out _ _ _ HE1.out).mono ?_
      rintro e x2 ⟨ac, cc, rfl, hb2⟩
      have HE2 := Lib.hid (HE1.out.later hb2)
      clear x0q x1q x2q x3q x4q x5q x6q x7q hb2 HE1
      go_wp2_with fail
      refine (HSe.out _ HE2.out.bel).mono ?_
      rintro e x3 ⟨rfl, hb3⟩
      have HE3 := Lib.hid (HE2.out.later hb3)
      clear hb3 HE2
      obtain ⟨x0q, x1q, x2q, x3q, x4q, x5q, x6q, x7q⟩ := HE3.out.box
      go_wp2_with fail
      refine (HDe.out _ _ _ HE3.out).mono ?_
      rintro e x4 ⟨rfl, hb4⟩
      have HE4 := Lib.hid (HE3.out.later hb4)
      clear x0q x1q x2q x3q x4q x5q x6q x7q hb4 HE3
      go_wp2_with fail
      refine (HOf.out _).mono ?_
      rintro e x5 ⟨rfl, rfl⟩
      go_wp2_with fail
      refine (HRa.out _).mono ?_
      rintro e x6 ⟨rfl, rfl⟩
      go_wp2
      go_ret
      exact ⟨rfl, HE4.out.bel⟩
    · skip
      refine wpL_C rfl (by rfl) ?_
      go_simp
      refine ⟨(Chg.refl _ _).alloc _, ?_⟩
      try simp only [Act.put, List.setIfInBounds_toArray, List.set_cons_zero, List.set_cons_succ]
      refine wpL_C rfl (by rfl) ?_
      go_simp
      refine ⟨(Chg.refl _ _).alloc _, ?_⟩
      try simp only [Act.put, List.setIfInBounds_toArray, List.set_cons_zero, List.set_cons_succ]
      repeat (first | (refine wpL_F (v := ?_) rfl (by rfl) (fun w' hL => ?_) ?_; rotate_left; (solve | (go_simp; with_reducible rfl) | go_simp); try simp only [Act.put, List.setIfInBounds_toArray, List.set_cons_zero, List.set_cons_succ]) | (refine wpL_G rfl (by rfl) ?_; try simp only [Act.put, List.setIfInBounds_toArray, List.set_cons_zero, List.set_cons_succ]))
      obtain ⟨W3, hW3⟩ : ∃ W3, (w1.alloc (.cells #[.int .i64 0, .int .u8 0, .int .i64 0, .string ⟨#[]⟩, .string ⟨#[]⟩, .string ⟨#[]⟩, .string ⟨#[]⟩, .slice none 0 0] 39)).alloc (.cells #[.int .i64 2, .int .u8 0, .int .i64 0, .string ⟨#[]⟩, .string ⟨#[]⟩, .string ⟨#[97]⟩, .string ⟨#[]⟩, .slice none 0 0, .int .i64 1, .int .u8 1, .int .i64 1, .string ⟨#[]⟩, .string ⟨#[]⟩, .string ⟨#[]⟩, .string ⟨#[]⟩, .slice none 0 0] 39) = W3 := ⟨_, rfl⟩
      try rw [hW3]
      have hEnd := al_end (w := w) (W3 := W3) (B := w1.heap.size) (A := w1.heap.size + 1) (by rw [← hW3]; exact (Blk.new w1 39 zeroXc).alloc _) (fun j v hj => by rw [← hW3, World.cell?_alloc_at (w := w1.alloc (.cells #[.int .i64 0, .int .u8 0, .int .i64 0, .string ⟨#[]⟩, .string ⟨#[]⟩, .string ⟨#[]⟩, .string ⟨#[]⟩, .slice none 0 0] 39)) _ _ _ _ (show w1.heap.size + 1 = (w1.alloc (.cells #[.int .i64 0, .int .u8 0, .int .i64 0, .string ⟨#[]⟩, .string ⟨#[]⟩, .string ⟨#[]⟩, .string ⟨#[]⟩, .slice none 0 0] 39)).heap.size by simp)]; simpa using hj) (by rw [← hW3]; simp) (by omega) (by rw [← hW3]; have h1 := hb1.size; have h2 : w0.drew.heap.size = w0.heap.size := rfl; have h3 := HZ.out; exact ((HB0.out.drew.trans (hb1.mono HB0.out.drew.size)).alloc (by omega) _).alloc (by simp; omega) _) (by have h1 := hb1.size; have h2 : w0.drew.heap.size = w0.heap.size := rfl; have h3 := HZ.out; omega)
      have HSt := Lib.hid hEnd.1
      have HE := Lib.hid hEnd.2
      clear hEnd hb1 b0 b1 b2 b3 b4 b5 b6 b7
      refine wpL_X rfl (by rfl) ?_
      refine wp_skp (exec_store rfl rfl rfl HSt.out) ?_
      try simp only [Act.put, List.setIfInBounds_toArray, List.set_cons_zero, List.set_cons_succ]
      refine wpL_nil ?_
      try go_simp
      try simp only [NoPanic]
      obtain ⟨x0q, x1q, x2q, x3q, x4q, x5q, x6q, x7q⟩ := HE.out.box
      go_wp2_with fail
      refine (HWr.out _ _ _ HE.out).mono ?_
      rintro e x1 ⟨rfl, hb1⟩
      have HE1 := Lib.hid (HE.out.later hb1)
      clear x0q x1q x2q x3q x4q x5q x6q x7q hb1
      obtain ⟨x0q, x1q, x2q, x3q, x4q, x5q, x6q, x7q⟩ := HE1.out.box
      go_wp2_with fail
      refine (HCo.out _ _ _ HE1.out).mono ?_
      rintro e x2 ⟨ac, cc, rfl, hb2⟩
      have HE2 := Lib.hid (HE1.out.later hb2)
      clear x0q x1q x2q x3q x4q x5q x6q x7q hb2 HE1
      go_wp2_with fail
      refine (HSe.out _ HE2.out.bel).mono ?_
      rintro e x3 ⟨rfl, hb3⟩
      have HE3 := Lib.hid (HE2.out.later hb3)
      clear hb3 HE2
      obtain ⟨x0q, x1q, x2q, x3q, x4q, x5q, x6q, x7q⟩ := HE3.out.box
      go_wp2_with fail
      refine (HDe.out _ _ _ HE3.out).mono ?_
      rintro e x4 ⟨rfl, hb4⟩
      have HE4 := Lib.hid (HE3.out.later hb4)
      clear x0q x1q x2q x3q x4q x5q x6q x7q hb4 HE3
      go_wp2_with fail
      refine (HOf.out _).mono ?_
      rintro e x5 ⟨rfl, rfl⟩
      go_wp2_with fail
      refine (HRa.out _).mono ?_
      rintro e x6 ⟨rfl, rfl⟩
      go_wp2
      go_ret
      exact ⟨rfl, HE4.out.bel⟩
  · skip
    refine wpL_C rfl (by rfl) ?_
    go_simp
    refine ⟨(Chg.refl _ _).alloc _, ?_⟩
    try simp only [Act.put, List.setIfInBounds_toArray, List.set_cons_zero, List.set_cons_succ]
    obtain ⟨wz, hwz⟩ : ∃ wz, (w0.alloc (.cells #[.int .i64 0, .int .u8 0, .int .i64 0, .string ⟨#[]⟩, .string ⟨#[]⟩, .string ⟨#[]⟩, .string ⟨#[]⟩, .slice none 0 0] 39)).drew = wz := ⟨_, rfl⟩
    try rw [hwz]
    refine wpL_C rfl (by rfl) ?_
    go_simp
    refine (HO.out _).mono ?_
    rintro e w1 ⟨rfl, hb1⟩
    refine ⟨below_chg hb1, ?_⟩
    try simp only [Act.put, List.setIfInBounds_toArray, List.set_cons_zero, List.set_cons_succ]
    refine wpL_C rfl (by rfl) ?_
    go_simp
    refine ⟨(Chg.refl _ _).alloc _, ?_⟩
    try simp only [Act.put, List.setIfInBounds_toArray, List.set_cons_zero, List.set_cons_succ]
    repeat (first | (refine wpL_F (v := ?_) rfl (by rfl) (fun w' hL => ?_) ?_; rotate_left; (solve | (go_simp; with_reducible rfl) | go_simp); try simp only [Act.put, List.setIfInBounds_toArray, List.set_cons_zero, List.set_cons_succ]) | (refine wpL_G rfl (by rfl) ?_; try simp only [Act.put, List.setIfInBounds_toArray, List.set_cons_zero, List.set_cons_succ]))
    obtain ⟨W3, hW3⟩ : ∃ W3, w1.alloc (.cells #[.int .i64 2, .int .u8 0, .int .i64 0, .string ⟨#[]⟩, .string ⟨#[]⟩, .string ⟨#[97]⟩, .string ⟨#[]⟩, .slice none 0 0, .int .i64 1, .int .u8 1, .int .i64 1, .string ⟨#[]⟩, .string ⟨#[]⟩, .string ⟨#[]⟩, .string ⟨#[]⟩, .slice none 0 0] 39) = W3 := ⟨_, rfl⟩
    try rw [hW3]
    have hEnd := al_end (w := w) (W3 := W3) (B := w0.heap.size) (A := w1.heap.size) (by rw [← hW3]; have h4 : Blk wz w0.heap.size 39 zeroXc := (by rw [← hwz]; exact (Blk.new w0 39 zeroXc)); exact Blk.alloc (show Blk w1 w0.heap.size 39 zeroXc from (hb1.block _ h4.lt).trans h4) _) (fun j v hj => by rw [← hW3, World.cell?_alloc_at _ _ _ _ rfl]; simpa using hj) (by rw [← hW3]; simp) (by have h1 := hb1.size; have : w0.heap.size < wz.heap.size := (by rw [← hwz]; show w0.heap.size < (w0.alloc _).heap.size; simp); omega) (by rw [← hW3]; have h1 := hb1.size; have h5 : Below w.heap.size w wz := (by rw [← hwz]; exact (HB0.out.alloc HB0.out.size _).drew); exact (h5.trans (hb1.mono h5.size)).alloc (Nat.le_trans h5.size h1) _) (by have h3 := HZ.out; omega)
    have HSt := Lib.hid hEnd.1
    have HE := Lib.hid hEnd.2
    clear hEnd hb1 b0 b1 b2 b3 b4 b5 b6 b7
    refine wpL_X rfl (by rfl) ?_
    refine wp_skp (exec_store rfl rfl rfl HSt.out) ?_
    try simp only [Act.put, List.setIfInBounds_toArray, List.set_cons_zero, List.set_cons_succ]
    refine wpL_nil ?_
    try go_simp
    try simp only [NoPanic]
    obtain ⟨x0q, x1q, x2q, x3q, x4q, x5q, x6q, x7q⟩ := HE.out.box
    go_wp2_with fail
    refine (HWr.out _ _ _ HE.out).mono ?_
    rintro e x1 ⟨rfl, hb1⟩
    have HE1 := Lib.hid (HE.out.later hb1)
    clear x0q x1q x2q x3q x4q x5q x6q x7q hb1
    obtain ⟨x0q, x1q, x2q, x3q, x4q, x5q, x6q, x7q⟩ := HE1.out.box
    go_wp2_with fail
    refine (HCo.out _ _ _ HE1.out).mono ?_
    rintro e x2 ⟨ac, cc, rfl, hb2⟩
    have HE2 := Lib.hid (HE1.out.later hb2)
    clear x0q x1q x2q x3q x4q x5q x6q x7q hb2 HE1
    go_wp2_with fail
    refine (HSe.out _ HE2.out.bel).mono ?_
    rintro e x3 ⟨rfl, hb3⟩
    have HE3 := Lib.hid (HE2.out.later hb3)
    clear hb3 HE2
    obtain ⟨x0q, x1q, x2q, x3q, x4q, x5q, x6q, x7q⟩ := HE3.out.box
    go_wp2_with fail
    refine (HDe.out _ _ _ HE3.out).mono ?_
    rintro e x4 ⟨rfl, hb4⟩
    have HE4 := Lib.hid (HE3.out.later hb4)
    clear x0q x1q x2q x3q x4q x5q x6q x7q hb4 HE3
    go_wp2_with fail
    refine (HOf.out _).mono ?_
    rintro e x5 ⟨rfl, rfl⟩
    go_wp2_with fail
    refine (HRa.out _).mono ?_
    rintro e x6 ⟨rfl, rfl⟩
    go_wp2
    go_ret
    exact ⟨rfl, HE4.out.bel⟩
end Go.Proofs.YtbnddpicpomakaaDoor
