/- Several texts of one proof, one behind the other. -/
import Derived.Test.YtbnddpicpomakaaGreatDoorHPk10
set_option linter.unusedSimpArgs false
set_option linter.unusedVariables false

/- The walks of the reference's text and Write of tokens, and of its literal. -/
set_option linter.unusedSimpArgs false
set_option linter.unusedVariables false
set_option maxRecDepth 100000
namespace Go.Proofs.YtbnddpicpomakaaGreatDoor
open Go.RowKit

theorem Bs.arr20 (w : World) (T : TypeId) (l : List Nat) (h256 : ∀ c ∈ l, c < 256) : Bs (w.heap.size + 1) (w.alloc (.cells (l.map fun (c : Nat) => Value.int .u8 (c : Int)).toArray T)) (some ⟨w.heap.size, 0, none⟩) l :=
  Bs.new w l h256 _ T (by intro i c hi; simp [hi])
theorem strN_app20 (a b : List Nat) : strN (a ++ b) = strN a ++ strN b := by
  apply ByteArray.ext; simp [strN]
theorem hexN_lt20 (s : ByteArray) : ∀ c ∈ hexN (bytesU s), c < 256 ∧ c ≠ 39 := by
  intro c hc
  unfold hexN at hc
  obtain ⟨d, hd, hc⟩ := List.mem_flatMap.1 hc
  have hd256 := bytesU_lt s d hd
  have h2 : ∀ n, n < 16 → hexd n < 256 ∧ hexd n ≠ 39 := fun n hn => ⟨hexd_lt hn, by unfold hexd; split <;> omega⟩
  rcases List.mem_cons.1 hc with rfl | hc
  · exact h2 _ (by omega)
  · rw [List.mem_singleton.1 hc]; exact h2 _ (by omega)
theorem hex_quote (s : ByteArray) : strN [120, 39] ++ hexS s ++ ⟨#[39]⟩ = ⟨#[120]⟩ ++ quoteS (hexS s) := by
  rw [← quote_cat, dblL_plain, baL_data]
  · have e : strN [120, 39] = ⟨#[120]⟩ ++ ⟨#[39]⟩ := by decide
    rw [e]
    simp only [ByteArray.append_assoc]
  · intro c hc
    unfold hexS strN at hc
    simp only [List.mem_map] at hc
    obtain ⟨n, hn, rfl⟩ := hc
    have h1 := hexN_lt20 s n hn
    intro h2
    have h3 := congrArg UInt8.toNat h2
    rw [UInt8.toNat_ofNat'] at h3
    have : n % 256 = 39 := h3
    omega
theorem hexN_cut (s : ByteArray) (k : Nat) (h : k < s.size) : strN ([120, 39] ++ hexN ((bytesU s).take (k + 1))) = strN ([120, 39] ++ hexN ((bytesU s).take k)) ++ strN [hexd ((s[k]'h).toNat / 16), hexd ((s[k]'h).toNat % 16)] := by
  have hkl : k < (bytesU s).length := by rw [bytesU_len]; exact h
  have hbk : (bytesU s)[k] = (s[k]'h).toNat := by simp [bytesU]; rfl
  rw [hexN_take hkl, ← List.append_assoc, strN_app20, hbk]

set_option maxHeartbeats 2000000 in
theorem rTkHex_any (at_ : Int) (tx : ByteArray) (n : Int) (w : World) (hs : tx.size ≤ 400000) :
    Calls Tryz.prog 37 #[.agg #[.int .i64 4, .int .i64 at_, .string tx, .int .i64 n]] w fun e w' => e = .returned (.string (⟨#[120]⟩ ++ quoteS (hexS tx))) ∧ Below w.heap.size w w' := by
  have HX := Lib.hid (Slot4.new w 69 (.int .i64 4) (.int .i64 at_) (.string tx) (.int .i64 n))
  obtain ⟨w0, hw0⟩ : ∃ w0, w.alloc (.cells #[.int .i64 4, .int .i64 at_, .string tx, .int .i64 n] 69) = w0 := ⟨_, rfl⟩
  have HB0 : Hid (Below w.heap.size w w0) := by rw [← hw0]; exact (Below.refl _ w).alloc (Nat.le_refl _) _
  have hl0 : w.heap.size < w0.heap.size := by rw [← hw0]; simp
  rw [hw0] at HX
  have HQ := Lib.hid (hex_quote tx)
  obtain ⟨x0, x1, x2, x3⟩ := HX.out
  go_enter Tryz.func37, Tryz.ntmps37
  go_wp2
  clear x0 x1 x2 x3
  go_loopw [4, 5, 6] (fun v i c wr => ∃ k : Nat, k ≤ tx.size ∧ v = .string (strN ([120, 39] ++ hexN ((bytesU tx).take k))) ∧ i = .int .i64 (k : Int) ∧ Hid (c = c) ∧ Hid (Below w0.heap.size w0 wr)) (fun _ i _ _ => tx.size - (intOf i).toNat)
  case atStart => exact ⟨0, by omega, rfl, rfl, rfl, Below.refl _ _⟩
  case round =>
    obtain ⟨k, hk, rfl, rfl, -, HBr⟩ := hrel
    obtain ⟨x0, x1, x2, x3⟩ := HX.out.later hl0 HBr.out
    by_cases hlt : k < tx.size
    · have HTk := Lib.hid (hexN_cut tx k hlt)
      have hO : (strN ([120, 39] ++ hexN ((bytesU tx).take k))).size ≤ 1000000 := by
        rw [strN_size, List.length_append, hexN_len, List.length_take, bytesU_len, List.length_cons, List.length_cons, List.length_nil]; omega
      generalize strN ([120, 39] ++ hexN ((bytesU tx).take k)) = O at *
      have hlt256 : (tx[k]'hlt).toNat < 256 := (tx[k]'hlt).toNat_lt
      obtain ⟨c1, hc1⟩ : ∃ c1, (tx[k]'hlt).toNat = c1 := ⟨_, rfl⟩
      rw [hc1] at HTk hlt256
      have h16 : ((c1 / 16 : Nat) : Int) = (c1 : Int) / 16 := by omega
      have h15 : ((c1 % 16 : Nat) : Int) = (c1 : Int) % 16 := by omega
      have w16 : IntKind.u8.wrap ((c1 : Int) / 16) = (c1 : Int) / 16 := IntWalk.u8_in _ ⟨by omega, by omega⟩
      have w15 : (c1 : Int).tmod 16 = (c1 : Int) % 16 := IntWalk.rem_in _ _ (by omega)
      have hA : hexd (c1 / 16) < 256 := hexd_lt (by omega)
      have hB : hexd (c1 % 16) < 256 := hexd_lt (by omega)
      have HI1 := Lib.hid (fun (o : Oper) (a : Act) (x y : Operand) (ho : o.op = .index 9 x y) (hx : a.eval x = .string hexT) (hy : a.eval y = .int .u8 ((c1 / 16 : Nat) : Int)) (w : World) => exec_hex (c1 / 16) (by omega) ho hx hy w)
      have HI2 := Lib.hid (fun (o : Oper) (a : Act) (x y : Operand) (ho : o.op = .index 9 x y) (hx : a.eval x = .string hexT) (hy : a.eval y = .int .u8 ((c1 % 16 : Nat) : Int)) (w : World) => exec_hex (c1 % 16) (by omega) ho hx hy w)
      generalize hexd (c1 / 16) = d1 at *
      generalize hexd (c1 % 16) = d2 at *
      have hT2 : (strN [d1, d2]).size = 2 := strN_size _
      have s1 : ¬ 9223372036854775807 < O.size + 2 := by omega
      go_wp2_with fail
      clear x0 x1 x2 x3
      refine wp_region_ord [(0, true), (1, true), (2, true), (3, true), (4, true), (5, true), (6, true), (7, true), (8, true), (9, false), (10, true), (11, true), (12, true)] (by kernel_rfl) (by kernel_rfl) (by kernel_rfl) (by kernel_rfl) ?_
      repeat (first | (refine wpO_F (v := ?_) rfl (by rfl) (fun w' hL => ?_) ?_; rotate_left; (solve | (go_simp; with_reducible rfl) | go_simp); try simp only [Act.put, List.setIfInBounds_toArray, List.set_cons_zero, List.set_cons_succ]))
      refine wpO_F rfl (by rfl) (fun w' _ => HI1.out _ _ _ _ rfl rfl (by rw [h16, ← w16]; rfl) w') ?_
      try simp only [Act.put, List.setIfInBounds_toArray, List.set_cons_zero, List.set_cons_succ]
      repeat (first | (refine wpO_F (v := ?_) rfl (by rfl) (fun w' hL => ?_) ?_; rotate_left; (solve | (go_simp; with_reducible rfl) | go_simp); try simp only [Act.put, List.setIfInBounds_toArray, List.set_cons_zero, List.set_cons_succ]))
      refine wpO_F rfl (by rfl) (fun w' _ => HI2.out _ _ _ _ rfl rfl (by rw [h15]; first | rfl | (rw [← w15]; rfl)) w') ?_
      try simp only [Act.put, List.setIfInBounds_toArray, List.set_cons_zero, List.set_cons_succ]
      refine wpO_C rfl (by rfl) ?_
      go_simp
      have hBs : Bs (wr.heap.size + 1) (wr.alloc (.cells #[.int .u8 d1, .int .u8 d2] 5)) (some ⟨wr.heap.size, 0, none⟩) [d1, d2] := Bs.arr20 wr _ [d1, d2] (by intro c hc; simp at hc; omega)
      have hcv := fun V (hV : Below (wr.heap.size + 1) (wr.alloc (.cells #[.int .u8 d1, .int .u8 d2] 5)) V) => (hBs.below hV).conv 99 5 Tryz.underlying99 Tryz.underlying5 9 Tryz.underlying9 2 2 rfl
      have hd : Below (wr.heap.size + 1) (wr.alloc (.cells #[.int .u8 d1, .int .u8 d2] 5)) (wr.alloc (.cells #[.int .u8 d1, .int .u8 d2] 5)).drew := (Below.refl _ _).drew
      have hb2 : Below wr.heap.size wr (wr.alloc (.cells #[.int .u8 d1, .int .u8 d2] 5)).drew := ((Below.refl _ wr).alloc (Nat.le_refl _) _).drew
      have hsz2 : (wr.alloc (.cells #[.int .u8 d1, .int .u8 d2] 5)).drew.heap.size = wr.heap.size + 1 := by show (wr.alloc _).heap.size = _; simp
      refine ⟨(show Later wr.drew (wr.drew.alloc _) from (Below.refl _ wr.drew).alloc (Nat.le_refl _) _), ?_⟩
      generalize (wr.alloc (.cells #[.int .u8 d1, .int .u8 d2] 5)).drew = w2 at *
      have HB2 := Lib.hid (HBr.out.trans (hb2.mono HBr.out.size))
      try simp only [Act.put, List.setIfInBounds_toArray, List.set_cons_zero, List.set_cons_succ]
      refine wpO_F (v := .string (strN [d1, d2])) rfl (by rfl) (fun w' hL => ?_) ?_
      · have hx := hcv w' (hd.trans (Below.mono hL (by omega)))
        go_simp
      try simp only [Act.put, List.setIfInBounds_toArray, List.set_cons_zero, List.set_cons_succ]
      clear hBs hcv hd hb2 hsz2
      repeat (first | (refine wpO_F (v := ?_) rfl (by rfl) (fun w' hL => ?_) ?_; rotate_left; (solve | (go_simp; with_reducible rfl) | go_simp); try simp only [Act.put, List.setIfInBounds_toArray, List.set_cons_zero, List.set_cons_succ]) | (refine wpO_G rfl (by rfl) ?_; try simp only [Act.put, List.setIfInBounds_toArray, List.set_cons_zero, List.set_cons_succ]))
      refine wpO_nil ?_
      go_wp2
      go_roundw
      case rel => exact ⟨k + 1, by omega, by rw [HTk.out], by go_num, (by first | rfl | trivial), HB2.out⟩
      case measure => simp [intOf]; omega
    · have hke : k = tx.size := by omega
      have hT : strN ([120, 39] ++ hexN ((bytesU tx).take k)) ++ ⟨#[39]⟩ = ⟨#[120]⟩ ++ quoteS (hexS tx) := by
        rw [hke, List.take_of_length_le (by rw [bytesU_len]; omega), strN_app20]; exact HQ.out
      have HT := Lib.hid hT
      have hO : (strN ([120, 39] ++ hexN ((bytesU tx).take k))).size ≤ 1000000 := by
        rw [strN_size, List.length_append, hexN_len, List.length_take, bytesU_len, List.length_cons, List.length_cons, List.length_nil]; omega
      generalize strN ([120, 39] ++ hexN ((bytesU tx).take k)) = O at *
      have s1 : ¬ 9223372036854775807 < O.size + 1 := by omega
      clear hT
      go_wp2
      go_ret
      exact ⟨by rw [← HT.out]; rfl, HB0.out.trans (HBr.out.mono HB0.out.size)⟩
end Go.Proofs.YtbnddpicpomakaaGreatDoor

/- The reference's Write: its text, gathered argument by argument. -/
set_option linter.unusedSimpArgs false
set_option linter.unusedVariables false
set_option maxRecDepth 100000
namespace Go.Proofs.YtbnddpicpomakaaGreatDoor
open Go.RowKit

theorem baL_app (a b : List UInt8) : baL (a ++ b) = baL a ++ baL b := by apply ByteArray.ext; simp [baL]
theorem joinTail_snoc (sep : List UInt8) (r : List (List UInt8)) (x : List UInt8) : Lib.joinTail sep (r ++ [x]) = Lib.joinTail sep r ++ (sep ++ x) := by
  simp [Lib.joinTail]
theorem joinS_nil (sep : ByteArray) : joinS [] sep = ⟨#[]⟩ := by
  unfold joinS joinL; rw [List.map_nil, Lib.join_nil]; rfl
theorem joinS_one (x sep : ByteArray) : joinS [x] sep = x := by
  unfold joinS joinL
  rw [List.map_cons, List.map_nil, Lib.join_one, baL_data]
theorem joinS_snoc (ts : List ByteArray) (x sep : ByteArray) (h : ts ≠ []) : joinS (ts ++ [x]) sep = joinS ts sep ++ sep ++ x := by
  unfold joinS joinL
  cases ts with
  | nil => exact absurd rfl h
  | cons y r =>
    rw [List.cons_append, List.map_cons, List.map_cons, List.map_append, Lib.join_cons, Lib.join_cons, List.map_cons, List.map_nil, joinTail_snoc, ← List.append_assoc, baL_app, baL_app, baL_data, baL_app, baL_data, baL_data, ByteArray.append_assoc, ByteArray.append_assoc, ByteArray.append_assoc]
/-- What stands between two arguments. -/
def Lb.sepS (l : Lb) : ByteArray := if l.kd = 4 then ⟨#[32]⟩ ++ l.op ++ ⟨#[32]⟩ else ⟨#[44, 32]⟩
/-- The text of a label around the joined texts of its arguments. -/
def Lb.around (l : Lb) (n : Nat) (out : ByteArray) : ByteArray :=
  if l.kd = 3 then (⟨#[40]⟩ : ByteArray) ++ l.op ++ ⟨#[32]⟩ ++ out ++ ⟨#[41]⟩
  else if l.kd = 4 then (⟨#[40]⟩ : ByteArray) ++ out ++ ⟨#[41]⟩
  else if l.kd = 5 then (⟨#[40]⟩ : ByteArray) ++ out ++ ⟨#[32]⟩ ++ l.op ++ ⟨#[41]⟩
  else if n = 0 then l.op ++ ⟨#[40, 42, 41]⟩
  else l.op ++ ⟨#[40]⟩ ++ out ++ ⟨#[41]⟩
theorem around_text {l : Lb} {ts : List ByteArray} (h1 : ¬ l.kd = 1) (h2 : ¬ l.kd = 2) (h3 : l.kd = 3 → ts.length = 1) (h4 : l.kd = 4 → ts.length = 2) (h5 : l.kd = 5 → ts.length = 1) :
    l.textOf ts = l.around ts.length (joinS ts l.sepS) := by
  unfold Lb.textOf Lb.around
  rw [if_neg h1, if_neg h2]
  by_cases k3 : l.kd = 3
  · rw [if_pos k3, if_pos k3]
    obtain ⟨x, rfl⟩ := List.length_eq_one_iff.1 (h3 k3)
    rw [joinS_one]; rfl
  rw [if_neg k3, if_neg k3]
  by_cases k4 : l.kd = 4
  · rw [if_pos k4, if_pos k4]
    obtain ⟨x, y, rfl⟩ : ∃ x y, ts = [x, y] := by
      have h0 := h4 k4
      match ts, h0 with
      | [x, y], _ => exact ⟨x, y, rfl⟩
    have := joinS_snoc [x] y l.sepS (by simp)
    rw [List.singleton_append, joinS_one] at this
    rw [this]
    unfold Lb.sepS
    rw [if_pos k4]
    simp only [List.getD_cons_zero, List.getD_cons_succ, ByteArray.append_assoc]
  rw [if_neg k4, if_neg k4]
  by_cases k5 : l.kd = 5
  · rw [if_pos k5, if_pos k5]
    obtain ⟨x, rfl⟩ := List.length_eq_one_iff.1 (h5 k5)
    rw [joinS_one]; rfl
  rw [if_neg k5, if_neg k5]
  by_cases h0 : ts.length = 0
  · rw [if_pos h0, List.length_eq_zero_iff.1 h0]; rfl
  · rw [if_neg h0, if_neg (by intro he; exact h0 (by rw [List.isEmpty_iff.1 he]; rfl))]
    unfold Lb.sepS
    rw [if_neg k4]
/-- How the text grows. -/
theorem join_step (l : Lb) (ts : List ByteArray) (k : Nat) (hk : k < ts.length) :
    joinS (ts.take (k + 1)) l.sepS = if k = 0 then ts[k] else joinS (ts.take k) l.sepS ++ l.sepS ++ ts[k] := by
  rw [List.take_succ_eq_append_getElem hk]
  by_cases h0 : k = 0
  · subst h0
    rw [if_pos rfl, List.take_zero, List.nil_append, joinS_one]
  · rw [if_neg h0, joinS_snoc]
    intro he
    have := congrArg List.length he
    rw [List.length_take, List.length_nil] at this; omega
theorem joinS_empty {s : ByteArray} : (⟨#[]⟩ : ByteArray) ++ s = s := by
  apply ByteArray.ext; simp
end Go.Proofs.YtbnddpicpomakaaGreatDoor

/- The walks of the reference's Write of one token, and of its literal. -/
set_option linter.unusedSimpArgs false
set_option linter.unusedVariables false
set_option maxRecDepth 100000
namespace Go.Proofs.YtbnddpicpomakaaGreatDoor
open Go.RowKit

set_option maxHeartbeats 2000000 in
theorem rTkText_any (t : Tk) (w : World) (hF : t.fair) (hk : 2 ≤ t.kd ∧ t.kd ≤ 4) (hs : t.tx.size ≤ 400000) :
    Calls Tryz.prog 37 #[.agg #[.int .i64 t.kd, .int .i64 t.at_, .string t.tx, .int .i64 t.n]] w fun e w' => e = .returned (.string t.text.1) ∧ Below w.heap.size w w' := by
  obtain ⟨kd, at_, tx, n⟩ := t
  simp only at hs hk ⊢
  have hn := hF.n
  simp only at hn
  have HX := Lib.hid (Slot4.new w 69 (.int .i64 kd) (.int .i64 at_) (.string tx) (.int .i64 n))
  have HB0 : Hid (∀ o, Below w.heap.size w (w.alloc o)) := fun o => (Below.refl _ w).alloc (Nat.le_refl _) _
  clear hF
  have hcase : kd = 2 ∨ kd = 3 ∨ kd = 4 := by omega
  obtain ⟨x0, x1, x2, x3⟩ := HX.out
  clear hk
  rcases hcase with rfl | rfl | rfl
  · have HD := Lib.hid (fun W => rDigits_any n W hn.1 hn.2)
    have HR : Hid ((Tk.text ⟨2, at_, tx, n⟩).1 = baL (Lib.itoa n)) := rfl
    rw [HR.out]
    generalize baL (Lib.itoa n) = d at *
    go_enter Tryz.func37, Tryz.ntmps37
    go_wp2_with fail
    refine (HD.out _).mono ?_
    rintro e w1 ⟨rfl, hb1⟩
    have HB1 := Lib.hid ((HB0.out _).trans (hb1.mono (by simp)))
    clear hb1 x0 x1 x2 x3
    go_wp2
    go_ret
    exact ⟨rfl, HB1.out⟩
  · have HD := Lib.hid (fun W => rQuote_any tx W (by omega))
    have HR : Hid ((Tk.text ⟨3, at_, tx, n⟩).1 = quoteS tx) := rfl
    rw [HR.out]
    generalize quoteS tx = d at *
    go_enter Tryz.func37, Tryz.ntmps37
    go_wp2_with fail
    refine (HD.out _).mono ?_
    rintro e w1 ⟨rfl, hb1⟩
    have HB1 := Lib.hid ((HB0.out _).trans (hb1.mono (by simp)))
    clear hb1 x0 x1 x2 x3
    go_wp2
    go_ret
    exact ⟨rfl, HB1.out⟩
  · exact rTkHex_any at_ tx n w hs

set_option maxHeartbeats 2000000 in
theorem rTkWrite_one (t : Tk) (w : World) (b : Nat) (hF : t.fair) (hk : 2 ≤ t.kd ∧ t.kd ≤ 4) (hs : t.tx.size ≤ 400000) (hb : b < w.heap.size)
    (c0 : w.cell? ⟨b, 0, none⟩ = some (.int .i64 t.kd)) (c1 : w.cell? ⟨b, 1, none⟩ = some (.int .i64 t.at_)) (c2 : w.cell? ⟨b, 2, none⟩ = some (.string t.tx)) (c3 : w.cell? ⟨b, 3, none⟩ = some (.int .i64 t.n)) (hj : t.text.1.size ≤ 1000000) :
    Calls Tryz.prog 12 #[.slice (some ⟨b, 0, none⟩) 1 1] w fun e w' => e = .returned (.string t.text.1) ∧ Below w.heap.size w w' := by
  have HT := Lib.hid (fun W => rTkText_any t W hF hk hs)
  have HX : Hid (Slot4 w b (.int .i64 t.kd) (.int .i64 t.at_) (.string t.tx) (.int .i64 t.n)) := ⟨c0, c1, c2, c3⟩
  obtain ⟨kd, at_, tx, n⟩ := t
  simp only at HT HX hk hj ⊢
  generalize (Tk.text ⟨kd, at_, tx, n⟩).1 = T at *
  have q1 : decide (kd < 1) = false := by simp; omega
  have q2 : decide (5 < kd) = false := by simp; omega
  have HB := Lib.hid hb
  clear hF hs c0 c1 c2 c3 hk
  go_enter Tryz.func12, Tryz.ntmps12
  go_wp2
  go_loopw [3, 4, 5] (fun v s i wr => ∃ k : Nat, i = .int .i64 k ∧ ((k = 0 ∧ v = .string ⟨#[]⟩ ∧ s = .bool false) ∨ (k = 1 ∧ v = .string T ∧ s = .bool true)) ∧ Hid (Below w.heap.size w wr)) (fun _ _ i _ => 1 - (intOf i).toNat)
  case atStart => exact ⟨0, rfl, .inl ⟨rfl, rfl, rfl⟩, Below.refl _ _⟩
  case round =>
    obtain ⟨k, rfl, hk, HBr⟩ := hrel
    rcases hk with ⟨rfl, rfl, rfl⟩ | ⟨rfl, rfl, rfl⟩
    · obtain ⟨x0, x1, x2, x3⟩ := HX.out.later HB.out HBr.out
      go_wp2_with fail
      refine (HT.out _).mono ?_
      rintro e w2 ⟨rfl, hb2⟩
      have HB2 := Lib.hid (HBr.out.trans (hb2.mono HBr.out.size))
      clear hb2 x0 x1 x2 x3
      have s1 : ¬ 9223372036854775807 < (⟨#[]⟩ : ByteArray).size + T.size := by have : (⟨#[]⟩ : ByteArray).size = 0 := rfl; omega
      go_wp2
      go_roundw
      case rel => exact ⟨1, by go_num, .inr ⟨rfl, by first | rfl | rw [joinS_empty] | simp, rfl⟩, HB2.out⟩
      case measure => simp [intOf]
    · go_wp2
      go_ret
      exact ⟨rfl, HBr.out⟩

theorem lit_text (v : Vl) (k : Nat) (hk : v.k = k) (h1 : 1 ≤ k) (h3 : k ≤ 3) : (Tk.text ⟨(k : Int) + 1, 0, v.s, v.n⟩).1 = v.litS := by
  rw [Vl.litS_eq]
  have : k = 1 ∨ k = 2 ∨ k = 3 := by omega
  unfold Vl.tk
  rw [hk]
  rcases this with rfl | rfl | rfl <;> rfl

set_option maxHeartbeats 2000000 in
theorem rLiteral_any (v : Vl) (w : World) (hk : v.k ≤ 3) (hn : -9223372036854775808 ≤ v.n ∧ v.n ≤ 9223372036854775807) (hs : v.s.size ≤ 200) :
    Calls Tryz.prog 44 #[.agg #[.int .u8 v.k, .int .i64 v.n, .string v.s]] w fun e w' => e = .returned (.string v.litS) ∧ Below w.heap.size w w' := by
  obtain ⟨w0, hw0⟩ : ∃ w0, w.alloc (.cells #[.int .u8 v.k, .int .i64 v.n, .string v.s] 42) = w0 := ⟨_, rfl⟩
  have hb0 : Below w.heap.size w w0 := by rw [← hw0]; exact (Below.refl _ w).alloc (Nat.le_refl _) _
  have hs0 : w.heap.size < w0.heap.size := by rw [← hw0]; simp
  have x0 : w0.cell? ⟨w.heap.size, 0, none⟩ = some (.int .u8 v.k) := by rw [← hw0]; simp
  have x1 : w0.cell? ⟨w.heap.size, 1, none⟩ = some (.int .i64 v.n) := by rw [← hw0]; simp
  have x2 : w0.cell? ⟨w.heap.size, 2, none⟩ = some (.string v.s) := by rw [← hw0]; simp
  have HB0 := Lib.hid hb0
  have HS0 := Lib.hid hs0
  have HSz := Lib.hid (litS_size v hs hn.1 hn.2)
  have HLt := Lib.hid (fun k => lit_text v k)
  by_cases hk0 : v.k = 0
  · have HR : Hid (v.litS = ⟨#[110, 117, 108, 108]⟩) := by
      rw [Vl.litS_eq]; unfold Vl.tk; rw [hk0]; rfl
    rw [HR.out]
    have q0 : ((v.k : Int) == 0) = true := by simp; omega
    clear hk hn hs hb0 hs0 hk0
    go_enter Tryz.func44, Tryz.ntmps44
    go_wp2
    go_ret
    exact ⟨rfl, HB0.out⟩
  · obtain ⟨w1, hw1⟩ : ∃ w1, w0.alloc (.cells #[.int .i64 0, .int .i64 2, .int .i64 3, .int .i64 4] 3) = w1 := ⟨_, rfl⟩
    have hb1 : Below w0.heap.size w0 w1 := by rw [← hw1]; exact (Below.refl _ w0).alloc (Nat.le_refl _) _
    have hs1 : w1.heap.size = w0.heap.size + 1 := by rw [← hw1]; simp
    have hB1 := hb0.trans (hb1.mono hb0.size)
    have f0 : ∀ V, Later w1.drew V → V.cell? ⟨w.heap.size, 0, none⟩ = some (.int .u8 v.k) := fun V hV => ((Later.undrew hV).cell (p := ⟨w.heap.size, 0, none⟩) (by show w.heap.size < w1.heap.size; omega)).trans ((hb1.cell (p := ⟨w.heap.size, 0, none⟩) hs0).trans x0)
    have f1 : ∀ V, Later w1.drew V → V.cell? ⟨w.heap.size, 1, none⟩ = some (.int .i64 v.n) := fun V hV => ((Later.undrew hV).cell (p := ⟨w.heap.size, 1, none⟩) (by show w.heap.size < w1.heap.size; omega)).trans ((hb1.cell (p := ⟨w.heap.size, 1, none⟩) hs0).trans x1)
    have f2 : ∀ V, Later w1.drew V → V.cell? ⟨w.heap.size, 2, none⟩ = some (.string v.s) := fun V hV => ((Later.undrew hV).cell (p := ⟨w.heap.size, 2, none⟩) (by show w.heap.size < w1.heap.size; omega)).trans ((hb1.cell (p := ⟨w.heap.size, 2, none⟩) hs0).trans x2)
    have g1 : ∀ V, Later w1.drew V → V.cell? ⟨w0.heap.size, v.k, none⟩ = some (.int .i64 ((v.k : Int) + 1)) := fun V hV => by
      refine ((Later.undrew hV).cell (p := ⟨w0.heap.size, v.k, none⟩) (by show w0.heap.size < w1.heap.size; omega)).trans ?_
      rw [← hw1, World.cell?_alloc_at _ _ _ _ rfl]
      have : v.k = 1 ∨ v.k = 2 ∨ v.k = 3 := by omega
      rcases this with h | h | h <;> rw [h] <;> rfl
    have q0 : ((v.k : Int) == 0) = false := by simp; omega
    have HW := Lib.hid (fun (W : World) (b : Nat) (hb : b < W.heap.size) (c0 : W.cell? ⟨b, 0, none⟩ = some (.int .i64 ((v.k : Int) + 1))) (c1 : W.cell? ⟨b, 1, none⟩ = some (.int .i64 0)) (c2 : W.cell? ⟨b, 2, none⟩ = some (.string v.s)) (c3 : W.cell? ⟨b, 3, none⟩ = some (.int .i64 v.n)) => rTkWrite_one ⟨(v.k : Int) + 1, 0, v.s, v.n⟩ W b ⟨⟨by simp only; omega, by simp only; omega⟩, ⟨by simp only; omega, by simp only; omega⟩, by simp only; omega, hn⟩ ⟨by simp only; omega, by simp only; omega⟩ (by simp only; omega) hb c0 c1 c2 c3 (by rw [HLt.out v.k rfl (by omega) hk]; have := HSz.out; omega))
    rw [HLt.out v.k rfl (by omega) hk] at HW
    have HBw := Lib.hid hB1
    have hk4 : v.k < 4 := by omega
    have hk5 : (v.k : Int) < 4 := by omega
    have hk6 : decide ((v.k : Int) < 4) = true := by simp; omega
    generalize v.litS = T at *
    obtain ⟨k, n, s⟩ := v
    simp only at *
    clear hk hn hs hb0 hs0 hb1 hs1 hB1 HLt HSz hk0
    go_enter Tryz.func44, Tryz.ntmps44
    go_wp2_with fail
    clear x0 x1 x2
    refine wp_region_ord [(0, true), (1, true), (2, true), (3, true), (4, true), (5, true), (6, true), (7, true), (8, true), (9, true), (10, false), (11, false), (12, true)] (by kernel_rfl) (by kernel_rfl) (by kernel_rfl) (by kernel_rfl) ?_
    repeat (first | (refine wpO_F (v := ?_) rfl (by rfl) (fun w' hL => ?_) ?_; rotate_left; (solve | (go_simp; with_reducible rfl) | go_simp); try simp only [Act.put, List.setIfInBounds_toArray, List.set_cons_zero, List.set_cons_succ]) | (refine wpO_G rfl (by rfl) ?_; try simp only [Act.put, List.setIfInBounds_toArray, List.set_cons_zero, List.set_cons_succ]))
    refine wpO_C rfl (by rfl) ?_
    go_simp
    obtain ⟨w2, hw2⟩ : ∃ w2, (w1.alloc (.cells #[.int .i64 ((k : Int) + 1), .int .i64 0, .string s, .int .i64 n] 69)).drew = w2 := ⟨_, rfl⟩
    have hb2 : Below w1.heap.size w1 w2 := by rw [← hw2]; exact ((Below.refl _ w1).alloc (Nat.le_refl _) _).drew
    have hL2 : Later w1.drew w2 := by rw [← hw2]; exact (show Later w1.drew (w1.drew.alloc _) from (Below.refl _ w1.drew).alloc (Nat.le_refl _) _)
    have hc : ∀ (j : Nat) v, (#[Value.int .i64 ((k : Int) + 1), .int .i64 0, .string s, .int .i64 n] : Array Value)[j]? = some v → w2.cell? ⟨w1.heap.size, j, none⟩ = some v := fun j v hj => by
      rw [← hw2]; show (w1.alloc _).cell? _ = _; rw [World.cell?_alloc_at _ _ _ _ rfl]; exact hj
    have HY := Lib.hid (HW.out w2 w1.heap.size (by rw [← hw2]; show w1.heap.size < (w1.alloc _).heap.size; simp) (hc 0 _ rfl) (hc 1 _ rfl) (hc 2 _ rfl) (hc 3 _ rfl))
    rw [hw2]
    refine ⟨hL2, ?_⟩
    try simp only [Act.put, List.setIfInBounds_toArray, List.set_cons_zero, List.set_cons_succ]
    have HB2 := Lib.hid (HBw.out.trans (hb2.mono HBw.out.size))
    clear hw2 hb2 hL2 hc f0 f1 f2 g1 HW
    refine wpO_C rfl (by rfl) ?_
    go_simp
    refine (HY.out).mono ?_
    rintro e w3 ⟨rfl, hb3⟩
    refine ⟨hb3, ?_⟩
    try simp only [Act.put, List.setIfInBounds_toArray, List.set_cons_zero, List.set_cons_succ]
    have HB3 := Lib.hid (HB2.out.trans (hb3.mono HB2.out.size))
    clear hb3 HY
    repeat (first | (refine wpO_F (v := ?_) rfl (by rfl) (fun w' hL => ?_) ?_; rotate_left; (solve | (go_simp; with_reducible rfl) | go_simp); try simp only [Act.put, List.setIfInBounds_toArray, List.set_cons_zero, List.set_cons_succ]) | (refine wpO_G rfl (by rfl) ?_; try simp only [Act.put, List.setIfInBounds_toArray, List.set_cons_zero, List.set_cons_succ]))
    refine wpO_nil ?_
    go_wp2
    go_ret
    exact ⟨rfl, HB3.out⟩
end Go.Proofs.YtbnddpicpomakaaGreatDoor

/- The walk of the law's As: an expression laid out anew. -/
set_option linter.unusedSimpArgs false
set_option linter.unusedVariables false
set_option maxRecDepth 100000
namespace Go.Proofs.YtbnddpicpomakaaGreatDoor
open Go.RowKit

theorem run_storeVar_in1 {P : Program} (w : World) (g off : Nat) (T ty : TypeId) (cur : Array Value) (v : Value) (hg : w.heap[g]? = some (.cells cur T (0, 0))) (hi : (P.info? ty).map (·.size) = some 1) (hfit : off + 1 ≤ cur.size) (hc : v.cells = #[v]) (h1 : v.oneCell' = true) :
    (storeVar ty ⟨g, off, none⟩ v).run P w = .ok () (w.setRow g (cur.toList.take off ++ [v] ++ cur.toList.drop (off + 1)).toArray) := by
  have h := run_storeCells_at (P := P) g off T [v] 0 cur w hg (by simpa using hfit) (by simpa using h1)
  cases hq : P.info? ty with
  | none => simp [hq] at hi
  | some i =>
    simp [hq] at hi
    simp [storeVar, sizeOf, typeInfo, hq, hc, hi]
    simpa using h

/-- 'As' is at work. -/
structure AsIn (w W : World) (TI TO : TypeId) (l : Lb) (sv : Value) (n : Nat) (cv : Value) (L : List XM) : Prop where
  e : Blk W w.heap.size TI (l.csX sv)
  res : Blk W (w.heap.size + 1) TO zeroXc
  box : Blk W (w.heap.size + 2) TO (l.csX cv)
  bel : Below w.heap.size w W
  lo : w.heap.size + 3 ≤ W.heap.size
  kids : KidsIn (w.heap.size + 3) W TO n cv L
theorem AsIn.new (w : World) (TI TO : TypeId) (l : Lb) (sv : Value) (n : Nat) : AsIn w (((w.alloc (.cells (l.csX sv) TI)).alloc (.cells zeroXc TO)).alloc (.cells (l.csX (.slice none 0 0)) TO)) TI TO l sv n (.slice none 0 0) [] := by
  have h1 := Blk.new (w.alloc (.cells (l.csX sv) TI)) TO zeroXc
  rw [show (w.alloc (.cells (l.csX sv) TI)).heap.size = w.heap.size + 1 by simp] at h1
  have h2 := Blk.new ((w.alloc (.cells (l.csX sv) TI)).alloc (.cells zeroXc TO)) TO (l.csX (.slice none 0 0))
  rw [show ((w.alloc (.cells (l.csX sv) TI)).alloc (.cells zeroXc TO)).heap.size = w.heap.size + 2 by simp] at h2
  exact ⟨((Blk.new w TI (l.csX sv)).alloc _).alloc _, h1.alloc _, h2, (((Below.refl _ w).alloc (Nat.le_refl _) _).alloc (by simp) _).alloc (by simp; omega) _, by simp, KidsIn.nil _ _ _ _⟩

theorem AsIn.add {w W w2 w5 : World} {TI TO : TypeId} {l : Lb} {sv : Value} {n : Nat} {cv v5 : Value} {L : List XM} {y : XM} (h : AsIn w W TI TO l sv n cv L) (hb : Below W.heap.size W w2)
    (hy : XIn (fun b => W.heap.size ≤ b ∧ b < w2.heap.size) w2 n y) (hr : w5.ownsRow (w.heap.size + 3) TO 8 v5 (L.length + 1) (cellsOf cellsX L ++ cellsX y)) {o : Obj} (hc : Chg cv.ownBlock.toList (w2.alloc o) w5) (hf : v5.ownBlock = cv.ownBlock ∨ ∀ g, v5.ownBlock = some g → w2.heap.size < g) :
    AsIn w (w5.setRow (w.heap.size + 2) (l.csX v5)) TI TO l sv n v5 (L ++ [y]) := by
  have hsz := hc.size
  simp at hsz
  have h0 := hb.size
  have hlo := h.lo
  have hgt : ∀ g, cv.ownBlock = some g → w.heap.size + 3 ≤ g := fun g hg => (h.kids.row.lt g hg).1
  have hold : Below (w.heap.size + 3) W w5 := (hb.mono hlo).trans (((Below.refl (w.heap.size + 3) w2).alloc (by omega) o).trans (hc.below (by simp; omega) (fun g hg => hgt g (by simpa using hg))))
  have hbox := (hold.block (w.heap.size + 2) (by omega)).trans h.box
  have hR : Chg [w.heap.size + 2] w5 (w5.setRow (w.heap.size + 2) (l.csX v5)) := (Chg.refl _ _).setRow (.inl (by simp)) _
  have hRs := hR.size
  have hK := h.kids.add h0 (fun b _ hb2 => hb.block b hb2) hlo hy hr hc hf
  refine ⟨(hR.block _ (by omega) (by simp)).trans ((hold.block _ (by omega)).trans h.e), (hR.block _ (by omega) (by simp)).trans ((hold.block _ (by omega)).trans h.res), Blk.setRow hbox, (h.bel.trans (hold.mono (by omega))).trans (hR.below (by omega) (by simp)), by omega, hK.keep hRs fun b hb1 hb2 => hR.block b (by omega) (by simp; omega)⟩

/-- The step of a round: the store of the grown row. -/
theorem AsIn.store {P : Program} {w W w2 w5 : World} {TI TO ty : TypeId} {l : Lb} {sv : Value} {n : Nat} {cv v5 : Value} {L : List XM} (h : AsIn w W TI TO l sv n cv L) (hb : Below W.heap.size W w2) {o : Obj} (hc : Chg cv.ownBlock.toList (w2.alloc o) w5)
    (hi : (P.info? ty).map (·.size) = some 1) (hv : v5.cells = #[v5]) (h1 : v5.oneCell' = true) : (storeVar ty ⟨w.heap.size + 2, 7, none⟩ v5).run P w5 = .ok () (w5.setRow (w.heap.size + 2) (l.csX v5)) := by
  have h0 := hb.size
  have hlo := h.lo
  have hbox : w5.heap[w.heap.size + 2]? = some (.cells (l.csX cv) TO (0, 0)) := by
    refine (hc.block (w.heap.size + 2) (by simp; omega) (fun hm => ?_)).trans ((Below.heap_alloc w2 o _ (by omega)).trans ((hb.block _ (by omega)).trans h.box))
    rw [Option.mem_toList] at hm
    have := (h.kids.row.lt _ hm).1; omega
  exact run_storeVar_in1 w5 (w.heap.size + 2) 7 TO ty (l.csX cv) v5 hbox hi (by simp) hv h1

theorem info_exR : (Tryz.prog.info? 50).map (fun i => (i.zero, i.size, i.bytes)) = some (some (.agg #[.int .i64 0, .int .u8 0, .int .i64 0, .string ⟨#[]⟩, .string ⟨#[]⟩, .string ⟨#[]⟩, .string ⟨#[]⟩, .slice none 0 0]), 8, 112) := by kernel_rfl
theorem info_exRS : (Tryz.prog.info? 50).map (·.size) = some 8 := by kernel_rfl
theorem info_slR : (Tryz.prog.info? 48).map (·.size) = some 1 := by kernel_rfl

set_option maxHeartbeats 4000000 in
theorem As_any20 : ∀ (n : Nat) (x : XM) (w : World), XAt w.heap.size w n x → x.t.args.length ≤ 1000000 → x.t.allB (fun _ k => decide (k ≤ 1000000)) = true →
    Calls Tryz.prog 18 #[x.v] w (RetX w n x.t)
  | 0, _, _, h, _, _ => h.elim
  | n + 1, ⟨t, a, cap⟩, w, h, _, hall => by
    rw [XM.v_eq]
    obtain ⟨i0, hi, hz0, hz1, hz2⟩ := info_parts info_exR
    have HA := Lib.hid h
    have hF := h.fair.1
    rw [Rose.allB_eq, Bool.and_eq_true, List.all_eq_true] at hall
    have hm6 := hall.1
    simp only at hm6 hF ⊢
    have HAll := Lib.hid hall.2
    have HFa := Lib.hid hF
    obtain ⟨m, hm⟩ : ∃ m, t.args.length = m := ⟨_, rfl⟩
    have HM := Lib.hid hm
    rw [hm] at hm6 ⊢
    have hm6 : m ≤ 1000000 := by simpa using hm6
    have IH : Hid (∀ (y : XM) (W : World), XAt W.heap.size W n y → y.t ∈ t.args → Calls Tryz.prog 18 #[.agg #[.int .i64 y.t.lab.kd, .int .u8 y.t.lab.v.k, .int .i64 y.t.lab.v.n, .string y.t.lab.v.s, .string y.t.lab.tb, .string y.t.lab.nm, .string y.t.lab.op, .slice y.a y.t.args.length y.cap]] W (RetX W n y.t)) := fun y W hy hmem => by
      have hya := HAll.out y.t hmem
      have hyl : y.t.args.length ≤ 1000000 := by rw [Rose.allB_eq, Bool.and_eq_true] at hya; simpa using hya.1
      have := As_any20 n y W hy hyl hya
      rw [XM.v_eq] at this; exact this
    have HC0 := Lib.hid (AsIn.new w 45 50 t.lab (.slice a m cap) n)
    obtain ⟨w0, hw0⟩ : ∃ w0, (w.alloc (.cells (t.lab.csX (.slice a m cap)) 45)).alloc (.cells zeroXc 50) = w0 := ⟨_, rfl⟩
    have hb0 : Below (w.heap.size + 1) (w.alloc (.cells (t.lab.csX (.slice a m cap)) 45)) w0 := by rw [← hw0]; exact (Below.refl _ _).alloc (by simp) _
    have hx0 := (Slot8.new w 45 (.int .i64 t.lab.kd) (.int .u8 t.lab.v.k) (.int .i64 t.lab.v.n) (.string t.lab.v.s) (.string t.lab.tb) (.string t.lab.nm) (.string t.lab.op) (.slice a m cap)).later (N := w.heap.size + 1) (by omega) hb0
    have hs0 : w0.heap.size = w.heap.size + 2 := by rw [← hw0]; simp
    rw [hw0] at HC0
    clear h hm hF hall hb0
    obtain ⟨x0, x1, x2, x3, x4, x5, x6, x7⟩ := hx0
    go_enter Tryz.func18, Tryz.ntmps18
    go_wp2
    clear x0 x1 x2 x3 x4 x5 x6 x7
    go_loopw [4] (fun i wr => ∃ (k : Nat) (cv : Value) (L : List XM), k ≤ m ∧ i = .int .i64 (k : Int) ∧ Hid (L.map (·.t) = t.args.take k) ∧ Hid (AsIn w wr 45 50 t.lab (.slice a m cap) n cv L)) (fun i _ => m - (intOf i).toNat)
    case atStart => exact ⟨0, _, [], by omega, rfl, rfl, HC0.out⟩
    case round =>
      clear HC0
      obtain ⟨k, cv, L, hk, rfl, HLt, HC⟩ := hrel
      have HBs : Hid (w.heap.size + 3 ≤ wr.heap.size) := HC.out.lo
      have e7 := (HC.out.e.cell 7).trans rfl
      by_cases hlt : k < m
      · have hkl : k < t.args.length := by rw [HM.out]; exact hlt
        obtain ⟨y, hy, hAy, b, o, hab, hbN, hKid⟩ := (HA.out.below HC.out.bel).kid8 (k := k) hkl
        simp only at hab hy
        subst hab
        have hLk : L.length = k := by have := congrArg List.length HLt.out; rw [List.length_map, List.length_take] at this; omega
        have HLk := Lib.hid hLk
        have hmem : y.t ∈ t.args := by rw [hy]; exact List.getElem_mem hkl
        have hszr : w.heap.size ≤ wr.heap.size := by have := HBs.out; omega
        have hAr : XAt wr.heap.size wr n y := hAy.mono hszr
        have HY := Lib.hid (IH.out y wr.drew (hAr.later (Below.refl _ wr).drew) hmem)
        have HTk : Hid (t.args.take (k + 1) = t.args.take k ++ [y.t]) := by
          rw [List.take_succ_eq_append_getElem hkl, ← hy]; rfl
        obtain ⟨ac, cc, hcv, hcc, -, -⟩ := own_slice HC.out.kids.row
        rw [hLk] at hcv hcc
        have HCv := Lib.hid hcv
        obtain ⟨S, hS⟩ : ∃ S, cv.ownBlock.toList = S := ⟨_, rfl⟩
        have HS := Lib.hid hS
        have hSg : ∀ g ∈ S, w.heap.size + 3 ≤ g := fun g hg => by rw [← hS, Option.mem_toList] at hg; exact (HC.out.kids.row.lt g hg).1
        have hbS : b ∉ S := fun hm => by have := hSg b hm; omega
        have hbr : b < wr.drew.heap.size := by show b < wr.heap.size; omega
        have hlo := HBs.out
        have l0 : ∀ V, Chg S wr.drew V → V.cell? ⟨w.heap.size + 2, 7, none⟩ = some (.slice ac k cc) := fun V hV => by
          rw [← hcv]; exact (hV.cell (b := w.heap.size + 2) (by show w.heap.size + 2 < wr.heap.size; omega) (fun hm => by have := hSg _ hm; omega)).trans ((HC.out.box.cell 7).trans rfl)
        have l7 : ∀ V, Chg S wr.drew V → V.cell? ⟨w.heap.size, 7, none⟩ = some (.slice (some ⟨b, o, none⟩) m cap) := fun V hV =>
          (hV.cell (b := w.heap.size) (by show w.heap.size < wr.heap.size; omega) (fun hm => by have := hSg _ hm; omega)).trans ((HC.out.e.cell 7).trans rfl)
        have y0 : ∀ V, Chg S wr.drew V → V.cell? ⟨b, o + k * 8, none⟩ = some (.int .i64 y.t.lab.kd) := fun V hV => (hV.cell (b := b) hbr hbS).trans hKid.c0
        have y1 : ∀ V, Chg S wr.drew V → V.cell? ⟨b, o + k * 8 + 1, none⟩ = some (.int .u8 y.t.lab.v.k) := fun V hV => (hV.cell (b := b) hbr hbS).trans hKid.c1
        have y2 : ∀ V, Chg S wr.drew V → V.cell? ⟨b, o + k * 8 + 2, none⟩ = some (.int .i64 y.t.lab.v.n) := fun V hV => (hV.cell (b := b) hbr hbS).trans hKid.c2
        have y3 : ∀ V, Chg S wr.drew V → V.cell? ⟨b, o + k * 8 + 3, none⟩ = some (.string y.t.lab.v.s) := fun V hV => (hV.cell (b := b) hbr hbS).trans hKid.c3
        have y4 : ∀ V, Chg S wr.drew V → V.cell? ⟨b, o + k * 8 + 4, none⟩ = some (.string y.t.lab.tb) := fun V hV => (hV.cell (b := b) hbr hbS).trans hKid.c4
        have y5 : ∀ V, Chg S wr.drew V → V.cell? ⟨b, o + k * 8 + 5, none⟩ = some (.string y.t.lab.nm) := fun V hV => (hV.cell (b := b) hbr hbS).trans hKid.c5
        have y6 : ∀ V, Chg S wr.drew V → V.cell? ⟨b, o + k * 8 + 6, none⟩ = some (.string y.t.lab.op) := fun V hV => (hV.cell (b := b) hbr hbS).trans hKid.c6
        have y7 : ∀ V, Chg S wr.drew V → V.cell? ⟨b, o + k * 8 + 7, none⟩ = some (.slice y.a y.t.args.length y.cap) := fun V hV => (hV.cell (b := b) hbr hbS).trans hKid.c7
        clear hy hAy hkl hmem HA IH HAll hLk hAr hcc hS hSg hbS hbr hlo hcv hKid hbN
        go_wp2_with fail
        clear e7
        refine wp_region_tail (S) [11] (.free 0 (.free 1 (.free 2 (.free 3 (.free 4 (.free 5 (.free 6 (.one 7 (.one 8 (.one 9 (.free 10 (.last 11 (.nil))))))))))))) (by kernel_rfl) (by kernel_rfl) (by kernel_rfl) (by kernel_rfl) ?_
        repeat (first | ((refine wpL_F rfl (by rfl) (fun w' hL => exec_load rfl rfl (l0 w' hL)) ?_); try simp only [Act.put, List.setIfInBounds_toArray, List.set_cons_zero, List.set_cons_succ]) | (refine wpL_F (v := ?_) rfl (by rfl) (fun w' hL => ?_) ?_; rotate_left; (solve | (go_simp; with_reducible rfl) | go_simp); try simp only [Act.put, List.setIfInBounds_toArray, List.set_cons_zero, List.set_cons_succ]) | (refine wpL_G rfl (by rfl) ?_; try simp only [Act.put, List.setIfInBounds_toArray, List.set_cons_zero, List.set_cons_succ]))
        refine wpL_C rfl (by rfl) ?_
        go_simp
        refine HY.out.mono ?_
        rintro e w2 ⟨z, rfl, hzt, hzI, hb2⟩
        have HZt := Lib.hid hzt
        clear hzt
        refine ⟨below_chg hb2, ?_⟩
        try simp only [Act.put, List.setIfInBounds_toArray, List.set_cons_zero, List.set_cons_succ]
        refine wpL_C rfl (by rfl) ?_
        go_simp
        refine ⟨(Chg.refl _ _).alloc _, ?_⟩
        try simp only [Act.put, List.setIfInBounds_toArray, List.set_cons_zero, List.set_cons_succ]
        obtain ⟨wa, hwa⟩ : ∃ wa, w2.alloc (.cells #[.int .i64 z.t.lab.kd, .int .u8 z.t.lab.v.k, .int .i64 z.t.lab.v.n, .string z.t.lab.v.s, .string z.t.lab.tb, .string z.t.lab.nm, .string z.t.lab.op, .slice z.a z.t.args.length z.cap] 50) = wa := ⟨_, rfl⟩
        rw [hwa]
        have hbk : ∀ (j : Nat) u, (cellsX z)[j]? = some u → wa.cell? ⟨w2.heap.size, j, none⟩ = some u := fun j u hu => by
          rw [← hwa, World.cell?_alloc_at _ _ _ _ rfl]; simpa [cellsX, cellsR, Lb.cells] using hu
        have hB2 : Below wr.heap.size wr w2 := (Below.refl _ wr).drew.trans hb2
        have hWa : Below wr.heap.size wr wa := by rw [← hwa]; exact hB2.alloc hB2.size _
        have hrow : wa.ownsRow (w.heap.size + 3) 50 8 (.slice ac k cc) k (cellsOf cellsX L) := by
          have := own_below HC.out.kids.row (Nat.le_refl _) hWa
          rw [HLk.out] at this; rw [← HCv.out]; exact this
        refine wpL_C rfl (by rfl) ?_
        refine wp_appG (.tmp 24) (.tmp 31) 48 rfl (w.heap.size + 3) 50 i0 (.agg #[.int .i64 0, .int .u8 0, .int .i64 0, .string ⟨#[]⟩, .string ⟨#[]⟩, .string ⟨#[]⟩, .string ⟨#[]⟩, .slice none 0 0]) 8 112 1 Tryz.underlying48 hi hz0 rfl hz1 (by omega) hz2 (by omega) (.slice ac k cc) k _ (cellsX z) wa hrow rfl w2.heap.size 1 hbk rfl (one_X z) rfl (by omega) (by have := HBs.out; have := hWa.size; omega) ?_
        intro v5 w5 hown5 hc5 hf5
        rw [← HCv.out] at hc5 hf5
        have hc5S : Chg S wa w5 := by rw [← HS.out]; exact hc5
        refine ⟨hc5S, ?_⟩
        try simp only [Act.put, List.setIfInBounds_toArray, List.set_cons_zero, List.set_cons_succ]
        obtain ⟨a5, c5, hv5, -, -, -⟩ := own_slice hown5
        have hzB : XIn (fun b => wr.heap.size ≤ b ∧ b < w2.heap.size) w2 n z := hzI
        have hcw : Chg cv.ownBlock.toList (w2.alloc (.cells #[.int .i64 z.t.lab.kd, .int .u8 z.t.lab.v.k, .int .i64 z.t.lab.v.n, .string z.t.lab.v.s, .string z.t.lab.tb, .string z.t.lab.nm, .string z.t.lab.op, .slice z.a z.t.args.length z.cap] 50)) w5 := by rw [hwa]; exact hc5
        have hfw : v5.ownBlock = cv.ownBlock ∨ ∀ g, v5.ownBlock = some g → w2.heap.size < g := by
          rcases hf5 with h | h
          · exact .inl h
          · exact .inr fun g hg => by have := h g hg; rw [← hwa] at this; simp at this; omega
        have HN := Lib.hid (HC.out.add hB2 hzB (by rw [HLk.out]; exact hown5) hcw hfw)
        have HSt := Lib.hid (HC.out.store (P := Tryz.prog) (v5 := v5) hB2 hcw info_slR (by rw [hv5]; rfl) (by rw [hv5]; rfl))
        clear hbk hB2 hWa hrow hown5 hc5 hf5 hc5S hv5 hzB hcw hfw hzI hb2 l0 l7 y0 y1 y2 y3 y4 y5 y6 y7
        repeat (first | (refine wpL_F (v := ?_) rfl (by rfl) (fun w' hL => ?_) ?_; rotate_left; (solve | (go_simp; with_reducible rfl) | go_simp); try simp only [Act.put, List.setIfInBounds_toArray, List.set_cons_zero, List.set_cons_succ]) | (refine wpL_G rfl (by rfl) ?_; try simp only [Act.put, List.setIfInBounds_toArray, List.set_cons_zero, List.set_cons_succ]))
        refine wpL_X rfl (by rfl) ?_
        refine wp_skp (exec_store rfl rfl rfl HSt.out) ?_
        try simp only [Act.put, List.setIfInBounds_toArray, List.set_cons_zero, List.set_cons_succ]
        refine wpL_nil ?_
        try go_simp
        try simp only [NoPanic]
        go_wp2
        go_roundw
        case rel => exact ⟨k + 1, v5, L ++ [z], by omega, by go_num, by rw [HTk.out, List.map_append, HLt.out, ← HZt.out]; rfl, HN.out⟩
        case measure => simp [intOf]; omega
      · have hke : k = m := by omega
        have hLt := HLt.out
        rw [hke, ← HM.out, List.take_length] at hLt
        have hLm : L.length = m := by have := congrArg List.length hLt; rw [List.length_map] at this; rw [this]; exact HM.out
        obtain ⟨ac, cc, hcv, hX⟩ := HC.out.kids.tree t.lab HFa.out
        rw [hLm] at hcv
        rw [hLt] at hX
        subst hcv
        have z0 := (HC.out.box.cell 0).trans rfl
        have z1 := (HC.out.box.cell 1).trans rfl
        have z2 := (HC.out.box.cell 2).trans rfl
        have z3 := (HC.out.box.cell 3).trans rfl
        have z4 := (HC.out.box.cell 4).trans rfl
        have z5 := (HC.out.box.cell 5).trans rfl
        have z6 := (HC.out.box.cell 6).trans rfl
        have z7 := (HC.out.box.cell 7).trans rfl
        have HS : Hid ((storeVar 50 ⟨w.heap.size + 1, 0, none⟩ (.agg (t.lab.csX (.slice ac m cc)))).run Tryz.prog wr = .ok () (wr.setRow (w.heap.size + 1) (t.lab.csX (.slice ac m cc)))) :=
          run_storeVar_row _ _ _ 50 _ _ HC.out.res (by rw [info_exRS]; rfl) rfl (by simp [Value.oneCell'])
        have HL : Hid ((loadVar 50 ⟨w.heap.size + 1, 0, none⟩).run Tryz.prog (wr.setRow (w.heap.size + 1) (t.lab.csX (.slice ac m cc))) = .ok (.agg (t.lab.csX (.slice ac m cc))) (wr.setRow (w.heap.size + 1) (t.lab.csX (.slice ac m cc)))) :=
          run_loadVar_row _ _ _ 50 _ (0, 0) _ (Blk.setRow (new := t.lab.csX (.slice ac m cc)) HC.out.res) Tryz.underlying50 rfl (by rw [info_exRS]; rfl)
        have hcR : Chg [w.heap.size + 1] wr (wr.setRow (w.heap.size + 1) (t.lab.csX (.slice ac m cc))) := (Chg.refl _ _).setRow (.inl (by simp)) _
        have HF : Hid (Below w.heap.size w (wr.setRow (w.heap.size + 1) (t.lab.csX (.slice ac m cc)))) := HC.out.bel.trans (hcR.below HC.out.bel.size (by simp))
        have HX : Hid (XIn (fun b => w.heap.size ≤ b ∧ b < (wr.setRow (w.heap.size + 1) (t.lab.csX (.slice ac m cc))).heap.size) (wr.setRow (w.heap.size + 1) (t.lab.csX (.slice ac m cc))) (n + 1) ⟨.mk t.lab t.args, ac, cc⟩) :=
          (XIn.keep (fun b hb => hcR.block b hb.2 (by simp; omega)) hX).imp fun b hb => ⟨by omega, by have := hcR.size; omega⟩
        clear hcR hX HC HLt hLt hLm HA IH HAll HFa
        have hmk : (Rose.mk t.lab t.args).args.length = m := HM.out
        go_wp2_with (first | (guard_target =~ wpList _ _ _ (Oper.mk _ (Op.store 50 _ _) _ _ _ _ :: _) _ _; refine wpList_skp rfl (exec_store rfl rfl rfl HS.out) ?_))
        refine bodyPost_ret (v := .agg (t.lab.csX (.slice ac m cc))) (results_cell1x Tryz.results18 _ _ rfl HL.out) rfl ⟨⟨.mk t.lab t.args, ac, cc⟩, ?_, t.eta, HX.out, HF.out⟩
        rw [hmk]; rfl
end Go.Proofs.YtbnddpicpomakaaGreatDoor

/- The walk of the reference's Write of expressions. -/
set_option linter.unusedSimpArgs false
set_option linter.unusedVariables false
set_option maxRecDepth 100000
namespace Go.Proofs.YtbnddpicpomakaaGreatDoor
open Go.RowKit

theorem right_k {v : Vl} (h : v.right = true) : v.k ≤ 3 := by
  unfold Vl.right at h
  split at h
  · omega
  · split at h
    · omega
    · split at h
      · omega
      · cases h
theorem lab_one {l : Lb} {n : Nat} (h : l.ok n = true) (hk : l.kd = 1) : l.v.k ≤ 3 := by
  unfold Lb.ok at h
  rw [if_pos hk] at h
  simp only [Bool.and_eq_true] at h
  exact right_k h.1.1.1.1.1
theorem take_sum (l : List ByteArray) (k : Nat) : ((l.take k).map ByteArray.size).sum ≤ (l.map ByteArray.size).sum := by
  induction l generalizing k with
  | nil => simp
  | cons x r ih =>
    cases k with
    | zero => simp
    | succ k => have := ih k; simp only [List.take_succ_cons, List.map_cons, List.sum_cons]; omega

set_option maxHeartbeats 8000000 in
theorem RWrite_any20 : ∀ (n : Nat) (x : XM) (w : World), XAt w.heap.size w n x → GoodX x.t → x.t.count ≤ 100000 →
    Calls Tryz.prog 21 #[x.v] w fun e w' => e = .returned (.string (textX x.t)) ∧ Below w.heap.size w w'
  | 0, _, _, h, _, _ => h.elim
  | n + 1, x, w, h, hg, hc => by
    have hsum := sum_textX _ _ w x h hg
    have hsm := Lb.small hg.lab.2
    have hok := ok_len hg.lab.1
    have hone := fun hk => lab_one hg.lab.1 hk
    have hTx := textX_eq x.t
    have HA := Lib.hid h
    have HG := Lib.hid hg
    have HCt := Lib.hid hc
    have hF := h.fair.1
    have hlen := h.fair.2.1
    have hcap := h.fair.2.2
    rw [XM.v_eq]
    obtain ⟨t, a, cap⟩ := x
    simp only at hsum hsm hok hone HA HG HCt hTx hF hc hlen hcap ⊢
    have hop := hsm.op
    have htb := hsm.tb
    have hnm := hsm.nm
    have hm6 := hsm.n
    obtain ⟨m, hm⟩ : ∃ m, t.args.length = m := ⟨_, rfl⟩
    have HM := Lib.hid hm
    rw [hm] at hok hlen hm6 ⊢
    have IHx : Hid (∀ (y : XM) (W : World), XAt W.heap.size W n y → GoodX y.t → y.t.count ≤ 100000 → Calls Tryz.prog 21 #[.agg #[.int .i64 y.t.lab.kd, .int .u8 y.t.lab.v.k, .int .i64 y.t.lab.v.n, .string y.t.lab.v.s, .string y.t.lab.tb, .string y.t.lab.nm, .string y.t.lab.op, .slice y.a y.t.args.length y.cap]] W fun e w' => e = .returned (.string (textX y.t)) ∧ Below W.heap.size W w') := fun y W hy hg hc => by
      have := RWrite_any20 n y W hy hg hc
      rw [XM.v_eq] at this; exact this
    have HS := Lib.hid (Slot8.new w 50 (.int .i64 t.lab.kd) (.int .u8 t.lab.v.k) (.int .i64 t.lab.v.n) (.string t.lab.v.s) (.string t.lab.tb) (.string t.lab.nm) (.string t.lab.op) (.slice a m cap))
    obtain ⟨w0, hw0⟩ : ∃ w0, w.alloc (.cells #[.int .i64 t.lab.kd, .int .u8 t.lab.v.k, .int .i64 t.lab.v.n, .string t.lab.v.s, .string t.lab.tb, .string t.lab.nm, .string t.lab.op, .slice a m cap] 50) = w0 := ⟨_, rfl⟩
    have HB1 : Hid (Below w.heap.size w w0) := by rw [← hw0]; exact (Below.refl _ w).alloc (Nat.le_refl _) _
    have hs0 : w.heap.size < w0.heap.size := by rw [← hw0]; simp
    rw [hw0] at HS
    have HZ := Lib.hid hs0
    obtain ⟨x0, x1, x2, x3, x4, x5, x6, x7⟩ := HS.out
    by_cases k1 : t.lab.kd = 1
    · have HLit := Lib.hid (fun W => rLiteral_any t.lab.v W (hone k1) hF.n hsm.s)
      have HR : Hid (textX t = t.lab.v.litS) := by rw [hTx]; unfold Lb.textOf; rw [if_pos k1]; rfl
      rw [HR.out]
      generalize t.lab.v.litS = T at *
      have q1 : (t.lab.kd == 1) = true := by simpa using k1
      clear hsum hsm hok hone hTx HA HG HCt hF hc hlen hcap HM IHx hm hs0 k1
      go_enter Tryz.func21, Tryz.ntmps21
      go_wp2_with fail
      refine (HLit.out _).mono ?_
      rintro e w1 ⟨rfl, hb1⟩
      have HB2 := Lib.hid (HB1.out.trans (hb1.mono HB1.out.size))
      clear hb1 x0 x1 x2 x3 x4 x5 x6 x7
      go_wp2
      go_ret
      exact ⟨rfl, HB2.out⟩
    have q1 : (t.lab.kd == 1) = false := by simpa using k1
    by_cases k2 : t.lab.kd = 2
    · have q2 : (t.lab.kd == 2) = true := by simpa using k2
      have hTx2 : textX t = t.lab.colS := by rw [hTx]; unfold Lb.textOf; rw [if_neg k1, if_pos k2]
      unfold Lb.colS at hTx2
      obtain ⟨e4, he4⟩ : ∃ e, t.lab.tb.toList.isEmpty = e := ⟨_, rfl⟩
      rw [he4] at hTx2
      have s1 : ¬ 9223372036854775807 < t.lab.tb.size + 1 := by omega
      have s2 : ¬ 9223372036854775807 < t.lab.tb.size + 1 + t.lab.nm.size := by omega
      clear hsum hsm hok hone hTx HA HG HCt hF hc hlen hcap HM IHx hm hs0 k1 k2
      rw [hTx2]
      cases e4 <;>
      · go_enter Tryz.func21, Tryz.ntmps21
        go_wp2
        go_ret
        exact ⟨rfl, HB1.out⟩
    have q2 : (t.lab.kd == 2) = false := by simpa using k2
    have hts : (t.args.map textX).length = m := by rw [List.length_map]; exact hm
    have HTx : Hid (textX t = t.lab.around m (joinS (t.args.map textX) t.lab.sepS)) := by
      rw [hTx, around_text k1 k2 (fun h => by rw [hts]; exact hok.1 h) (fun h => by rw [hts]; exact hok.2.1 h) (fun h => by rw [hts]; exact hok.2.2 h), hts]; rfl
    have hsp : t.lab.sepS.size ≤ 102 := by
      unfold Lb.sepS
      split
      · simp only [ByteArray.size_append]; have : (⟨#[32]⟩ : ByteArray).size = 1 := rfl; omega
      · decide
    obtain ⟨O, hO⟩ : ∃ O : Nat → ByteArray, ∀ k, joinS ((t.args.map textX).take k) t.lab.sepS = O k := ⟨_, fun _ => rfl⟩
    have HO : Hid (∀ k, (O k).size ≤ 200000000) := fun k => by
      rw [← hO]
      have h1 := joinS_size ((t.args.map textX).take k) t.lab.sepS
      have h2 := take_sum (t.args.map textX) k
      have h3 : ((t.args.map textX).take k).length ≤ 6 := by rw [List.length_take, hts]; omega
      have h4 : ((t.args.map textX).take k).length * t.lab.sepS.size ≤ 6 * 102 := Nat.mul_le_mul h3 hsp
      omega
    have HSt : Hid (∀ k (hk : k < t.args.length), O (k + 1) = if k = 0 then textX t.args[k] else O k ++ t.lab.sepS ++ textX t.args[k]) := fun k hk => by
      have := join_step t.lab (t.args.map textX) k (by rw [List.length_map]; exact hk)
      rw [List.getElem_map, hO, hO] at this; exact this
    have HTs : Hid (∀ k (hk : k < t.args.length), (textX t.args[k]).size ≤ 100000000) := fun k hk => by
      have h1 := getD_size (t.args.map textX) k
      have h2 : (t.args.map textX).getD k ⟨#[]⟩ = textX t.args[k] := by simp [List.getD, List.getElem?_eq_getElem hk]
      rw [h2] at h1; omega
    have HO0 : Hid (O 0 = ⟨#[]⟩) := by show _ = _; rw [← hO]; exact joinS_nil _
    have HTm : Hid (textX t = t.lab.around m (O m)) := by
      show _ = _
      rw [HTx.out, ← hO, List.take_of_length_le (by omega)]
    obtain ⟨q4, hq4⟩ : ∃ q, (t.lab.kd == 4) = q := ⟨_, rfl⟩
    have HSp : Hid (t.lab.sepS = if q4 = true then ⟨#[32]⟩ ++ t.lab.op ++ ⟨#[32]⟩ else ⟨#[44, 32]⟩) := by
      show _ = _
      unfold Lb.sepS
      rw [← hq4]
      by_cases h4 : t.lab.kd = 4
      · rw [if_pos h4, if_pos (by simpa using h4)]
      · rw [if_neg h4, if_neg (by simpa using h4)]
    clear hsum hsm hok hone hTx hF hc hts hsp hm k1 k2 hO HTx htb hnm hm6
    go_enter Tryz.func21, Tryz.ntmps21
    go_wp2
    clear x0 x1 x2 x3 x4 x5 x6 x7
    go_loopw [3, 4, 5] (fun v i b wr => ∃ k : Nat, k ≤ m ∧ v = .string (O k) ∧ i = .int .i64 (k : Int) ∧ Hid (b = b) ∧ Hid (Below w0.heap.size w0 wr)) (fun _ i _ _ => m - (intOf i).toNat)
    case atStart => exact ⟨0, by omega, by rw [HO0.out], rfl, rfl, Below.refl _ _⟩
    case round =>
      obtain ⟨k, hk, rfl, rfl, -, HBr⟩ := hrel
      have HBw := Lib.hid (HB1.out.trans (HBr.out.mono HB1.out.size))
      obtain ⟨x0, x1, x2, x3, x4, x5, x6, x7⟩ := HS.out.later hs0 HBr.out
      by_cases hlt : k < m
      · have hkl : k < t.args.length := by rw [HM.out]; exact hlt
        obtain ⟨y, hy, hAy, b, o, hab, hbN, hKid⟩ := (HA.out.later HBw.out).kid8 (k := k) hkl
        simp only at hab hy
        subst hab
        obtain ⟨y0, y1, y2, y3, y4, y5, y6, y7⟩ := hKid
        have hyg : GoodX y.t := by rw [hy]; exact HG.out.arg (List.getElem_mem hkl)
        have hyc : y.t.count ≤ 100000 := by have h1 := count_arg (List.getElem_mem hkl); rw [← hy] at h1; have := HCt.out; omega
        have hStk := HSt.out k hkl
        have hT := HTs.out k hkl
        rw [← hy] at hStk hT
        have HY := Lib.hid (fun W (hb : Below wr.heap.size wr W) => IHx.out y W (hAy.later hb) hyg hyc)
        rw [HSp.out] at hStk
        have HStk := Lib.hid hStk
        generalize textX y.t = T at *
        have hOk := HO.out k
        have hO0 := HO.out 0
        have sE : ¬ 9223372036854775807 < (O k).size + T.size := by omega
        have sA : ¬ 9223372036854775807 < 1 + t.lab.op.size := by omega
        have sB : ¬ 9223372036854775807 < 1 + t.lab.op.size + 1 := by omega
        have sC : ¬ 9223372036854775807 < (O k).size + (1 + t.lab.op.size + 1) := by omega
        have sD : ¬ 9223372036854775807 < (O k).size + (1 + t.lab.op.size + 1) + T.size := by omega
        have sF : ¬ 9223372036854775807 < (O k).size + 2 := by omega
        have sG : ¬ 9223372036854775807 < (O k).size + 2 + T.size := by omega
        clear hy hAy hkl hyg hyc hStk HA IHx HSt HTs HG HCt hOk hO0 hT
        by_cases hk0 : k = 0
        · have qg : decide ((0 : Int) < (k : Int)) = false := by simp; omega
          have qn : ¬ 0 < k := by omega
          have HV : Hid (O (k + 1) = O k ++ T) := by
            show _ = _
            rw [HStk.out, if_pos hk0, hk0, HO0.out, joinS_empty]
          clear hk0
          cases q4
          · go_wp2_with fail
            refine (HY.out _ (Below.refl _ _)).mono ?_
            rintro e w2 ⟨rfl, hb2⟩
            have HB2 := Lib.hid (HBr.out.trans (hb2.mono HBr.out.size))
            clear hb2 x0 x1 x2 x3 x4 x5 x6 x7 y0 y1 y2 y3 y4 y5 y6 y7
            go_wp2
            go_roundw
            case rel => exact ⟨k + 1, by omega, by rw [HV.out], by go_num, (by first | rfl | trivial), HB2.out⟩
            case measure => simp [intOf]; omega
          · go_wp2_with fail
            refine (HY.out _ (Below.refl _ _)).mono ?_
            rintro e w2 ⟨rfl, hb2⟩
            have HB2 := Lib.hid (HBr.out.trans (hb2.mono HBr.out.size))
            clear hb2 x0 x1 x2 x3 x4 x5 x6 x7 y0 y1 y2 y3 y4 y5 y6 y7
            go_wp2
            go_roundw
            case rel => exact ⟨k + 1, by omega, by rw [HV.out], by go_num, (by first | rfl | trivial), HB2.out⟩
            case measure => simp [intOf]; omega
        · have qg : decide ((0 : Int) < (k : Int)) = true := by simp; omega
          have qn : 0 < k := by omega
          rw [if_neg hk0] at HStk
          clear hk0
          cases q4
          · have HV : Hid (O (k + 1) = O k ++ ⟨#[44, 32]⟩ ++ T) := HStk.out
            go_wp2_with fail
            refine (HY.out _ (Below.refl _ _)).mono ?_
            rintro e w2 ⟨rfl, hb2⟩
            have HB2 := Lib.hid (HBr.out.trans (hb2.mono HBr.out.size))
            clear hb2 x0 x1 x2 x3 x4 x5 x6 x7 y0 y1 y2 y3 y4 y5 y6 y7
            go_wp2
            go_roundw
            case rel => exact ⟨k + 1, by omega, by rw [HV.out], by go_num, (by first | rfl | trivial), HB2.out⟩
            case measure => simp [intOf]; omega
          · have HV : Hid (O (k + 1) = O k ++ (⟨#[32]⟩ ++ t.lab.op ++ ⟨#[32]⟩) ++ T) := HStk.out
            go_wp2_with fail
            refine (HY.out _ (Below.refl _ _)).mono ?_
            rintro e w2 ⟨rfl, hb2⟩
            have HB2 := Lib.hid (HBr.out.trans (hb2.mono HBr.out.size))
            clear hb2 x0 x1 x2 x3 x4 x5 x6 x7 y0 y1 y2 y3 y4 y5 y6 y7
            go_wp2
            go_roundw
            case rel => exact ⟨k + 1, by omega, by rw [HV.out], by go_num, (by first | rfl | trivial), HB2.out⟩
            case measure => simp [intOf]; omega
      · have q0 : decide ((k : Int) < (m : Int)) = false := by simp; omega
        have hke : k = m := by omega
        subst hke
        have hTm := HTm.out
        unfold Lb.around at hTm
        have hOk := HO.out k
        clear HA IHx HSt HTs HG HCt HTm
        generalize O k = V at *
        by_cases k3 : t.lab.kd = 3
        · have q3 : (t.lab.kd == 3) = true := by simpa using k3
          rw [if_pos k3] at hTm
          clear k3
          have s1 : ¬ 9223372036854775807 < 1 + t.lab.op.size := by omega
          have s2 : ¬ 9223372036854775807 < 1 + t.lab.op.size + 1 := by omega
          have s3 : ¬ 9223372036854775807 < 1 + t.lab.op.size + 1 + V.size := by omega
          have s4 : ¬ 9223372036854775807 < 1 + t.lab.op.size + 1 + V.size + 1 := by omega
          have HTX := Lib.hid hTm
          clear hTm hOk
          go_wp2
          go_ret
          exact ⟨by rw [HTX.out]; rfl, HBw.out⟩
        have q3 : (t.lab.kd == 3) = false := by simpa using k3
        rw [if_neg k3] at hTm
        by_cases k4 : t.lab.kd = 4
        · have q4t : q4 = true := by rw [← hq4]; simpa using k4
          subst q4t
          rw [if_pos k4] at hTm
          clear k4 k3
          have s1 : ¬ 9223372036854775807 < 1 + V.size := by omega
          have s2 : ¬ 9223372036854775807 < 1 + V.size + 1 := by omega
          have HTX := Lib.hid hTm
          clear hTm hOk
          go_wp2
          go_ret
          exact ⟨by rw [HTX.out]; rfl, HBw.out⟩
        have q4f : q4 = false := by rw [← hq4]; simpa using k4
        subst q4f
        rw [if_neg k4] at hTm
        by_cases k5 : t.lab.kd = 5
        · have q5 : (t.lab.kd == 5) = true := by simpa using k5
          rw [if_pos k5] at hTm
          clear k5 k4 k3
          have s1 : ¬ 9223372036854775807 < 1 + V.size := by omega
          have s2 : ¬ 9223372036854775807 < 1 + V.size + 1 := by omega
          have s3 : ¬ 9223372036854775807 < 1 + V.size + 1 + t.lab.op.size := by omega
          have s4 : ¬ 9223372036854775807 < 1 + V.size + 1 + t.lab.op.size + 1 := by omega
          have HTX := Lib.hid hTm
          clear hTm hOk
          go_wp2
          go_ret
          exact ⟨by rw [HTX.out]; rfl, HBw.out⟩
        have q5 : (t.lab.kd == 5) = false := by simpa using k5
        rw [if_neg k5] at hTm
        by_cases k0 : k = 0
        · have q6 : ((k : Int) == 0) = true := by simp; omega
          rw [if_pos k0] at hTm
          have s1 : ¬ 9223372036854775807 < t.lab.op.size + 3 := by omega
          have HTX := Lib.hid hTm
          clear hTm hOk
          go_wp2
          go_ret
          exact ⟨by rw [HTX.out]; rfl, HBw.out⟩
        have q6 : ((k : Int) == 0) = false := by simp; omega
        rw [if_neg k0] at hTm
        have s1 : ¬ 9223372036854775807 < t.lab.op.size + 1 := by omega
        have s2 : ¬ 9223372036854775807 < t.lab.op.size + 1 + V.size := by omega
        have s3 : ¬ 9223372036854775807 < t.lab.op.size + 1 + V.size + 1 := by omega
        have HTX := Lib.hid hTm
        clear hTm hOk
        go_wp2
        go_ret
        exact ⟨by rw [HTX.out]; rfl, HBw.out⟩
end Go.Proofs.YtbnddpicpomakaaGreatDoor

/- The walk of the reference's Same. -/
set_option linter.unusedSimpArgs false
set_option linter.unusedVariables false
set_option maxRecDepth 100000
namespace Go.Proofs.YtbnddpicpomakaaGreatDoor
open Go.RowKit

open Classical in
noncomputable def eqT (a b : Ex) : Bool := decide (a = b)
open Classical in
noncomputable def eqL (a b : List Ex) : Bool := decide (a = b)
theorem eqT_iff (a b : Ex) : eqT a b = true ↔ a = b := by unfold eqT; simp
theorem eqL_iff (a b : List Ex) : eqL a b = true ↔ a = b := by unfold eqL; simp
theorem lab_ext {l m : Lb} (h1 : l.kd = m.kd) (h2 : l.v = m.v) (h3 : l.tb = m.tb) (h4 : l.nm = m.nm) (h5 : l.op = m.op) : l = m := by
  obtain ⟨a, b, c, d, e⟩ := l
  obtain ⟨a', b', c', d', e'⟩ := m
  simp only at h1 h2 h3 h4 h5
  rw [h1, h2, h3, h4, h5]
theorem eqT_eq (t u : Ex) : eqT t u = ((t.lab.kd == u.lab.kd) && (decide (t.lab.v = u.lab.v) && ((t.lab.tb.toList == u.lab.tb.toList) && ((t.lab.nm.toList == u.lab.nm.toList) && ((t.lab.op.toList == u.lab.op.toList) && eqL t.args u.args))))) := by
  rw [Bool.eq_iff_iff]
  constructor
  · intro h
    have h1 := (eqT_iff t u).1 h
    subst h1
    simp [(eqL_iff t.args t.args).2 rfl]
  · intro h
    simp only [Bool.and_eq_true, beq_iff_eq, decide_eq_true_iff, eqL_iff] at h
    obtain ⟨h1, h2, h3, h4, h5, h6⟩ := h
    rw [eqT_iff, ← t.eta, ← u.eta, h6, lab_ext h1 h2 (toList_inj h3) (toList_inj h4) (toList_inj h5)]

set_option maxHeartbeats 8000000 in
theorem RSame_any20 : ∀ (n : Nat) (x y : XM) (w : World), XAt w.heap.size w n x → XAt w.heap.size w n y →
    Calls Tryz.prog 26 #[x.v, y.v] w fun e w' => e = .returned (.bool (eqT x.t y.t)) ∧ Below w.heap.size w w'
  | 0, _, _, _, h, _ => h.elim
  | n + 1, ⟨t, a, cap⟩, ⟨u, b, cup⟩, w, hx, hy => by
    have IH : Hid (∀ (x y : XM) (W : World), XAt W.heap.size W n x → XAt W.heap.size W n y → Calls Tryz.prog 26 #[.agg #[.int .i64 x.t.lab.kd, .int .u8 x.t.lab.v.k, .int .i64 x.t.lab.v.n, .string x.t.lab.v.s, .string x.t.lab.tb, .string x.t.lab.nm, .string x.t.lab.op, .slice x.a x.t.args.length x.cap], .agg #[.int .i64 y.t.lab.kd, .int .u8 y.t.lab.v.k, .int .i64 y.t.lab.v.n, .string y.t.lab.v.s, .string y.t.lab.tb, .string y.t.lab.nm, .string y.t.lab.op, .slice y.a y.t.args.length y.cap]] W fun e w' => e = .returned (.bool (eqT x.t y.t)) ∧ Below W.heap.size W w') := fun x y W h1 h2 => by
      have := RSame_any20 n x y W h1 h2
      rw [XM.v_eq, XM.v_eq] at this; exact this
    rw [XM.v_eq, XM.v_eq]
    have HA := Lib.hid hx
    have HK := Lib.hid hy
    have hlen := hx.fair.2.1
    have hcap := hx.fair.2.2
    have klen := hy.fair.2.1
    have kcap := hy.fair.2.2
    simp only at hlen hcap klen kcap ⊢
    rw [eqT_eq]
    obtain ⟨r, hr⟩ : ∃ r, eqL t.args u.args = r := ⟨_, rfl⟩
    rw [hr]
    have HR := Lib.hid hr
    obtain ⟨m, hm⟩ : ∃ m, t.args.length = m := ⟨_, rfl⟩
    obtain ⟨q, hq⟩ : ∃ q, u.args.length = q := ⟨_, rfl⟩
    rw [hm] at hlen ⊢
    rw [hq] at klen ⊢
    have HM := Lib.hid hm
    have HQ := Lib.hid hq
    clear hx hy hr hm hq
    obtain ⟨w0, hw0⟩ : ∃ w0, w.alloc (.cells #[.int .i64 t.lab.kd, .int .u8 t.lab.v.k, .int .i64 t.lab.v.n, .string t.lab.v.s, .string t.lab.tb, .string t.lab.nm, .string t.lab.op, .slice a m cap] 50) = w0 := ⟨_, rfl⟩
    obtain ⟨w1, hw1⟩ : ∃ w1, w0.alloc (.cells #[.int .i64 u.lab.kd, .int .u8 u.lab.v.k, .int .i64 u.lab.v.n, .string u.lab.v.s, .string u.lab.tb, .string u.lab.nm, .string u.lab.op, .slice b q cup] 50) = w1 := ⟨_, rfl⟩
    have hb0 : Below w.heap.size w w0 := by rw [← hw0]; exact (Below.refl _ w).alloc (Nat.le_refl _) _
    have hb1 : Below w0.heap.size w0 w1 := by rw [← hw1]; exact (Below.refl _ w0).alloc (Nat.le_refl _) _
    have hs0 : w0.heap.size = w.heap.size + 1 := by rw [← hw0]; simp
    have hs1 : w1.heap.size = w0.heap.size + 1 := by rw [← hw1]; simp
    have HY := Lib.hid ((by rw [← hw0]; exact Slot8.new w 50 _ _ _ _ _ _ _ _ : Slot8 w0 w.heap.size (.int .i64 t.lab.kd) (.int .u8 t.lab.v.k) (.int .i64 t.lab.v.n) (.string t.lab.v.s) (.string t.lab.tb) (.string t.lab.nm) (.string t.lab.op) (.slice a m cap)).later (N := w0.heap.size) (by omega) hb1)
    have HZ := Lib.hid (by rw [← hw1]; exact Slot8.new w0 50 _ _ _ _ _ _ _ _ : Slot8 w1 w0.heap.size (.int .i64 u.lab.kd) (.int .u8 u.lab.v.k) (.int .i64 u.lab.v.n) (.string u.lab.v.s) (.string u.lab.tb) (.string u.lab.nm) (.string u.lab.op) (.slice b q cup))
    have HB1 := Lib.hid (hb0.trans (hb1.mono hb0.size))
    have HL : Hid (w.heap.size < w1.heap.size ∧ w0.heap.size < w1.heap.size) := ⟨by omega, by omega⟩
    clear hb0 hb1 hs0 hs1
    obtain ⟨y0, y1, y2, y3, y4, y5, y6, y7⟩ := HY.out
    obtain ⟨z0, z1, z2, z3, z4, z5, z6, z7⟩ := HZ.out
    obtain ⟨q0, hq0⟩ : ∃ q, (t.lab.kd == u.lab.kd) = q := ⟨_, rfl⟩
    obtain ⟨qv, hqv⟩ : ∃ q, decide (t.lab.v = u.lab.v) = q := ⟨_, rfl⟩
    obtain ⟨q2, hq2⟩ : ∃ q, (t.lab.tb.toList == u.lab.tb.toList) = q := ⟨_, rfl⟩
    obtain ⟨q3, hq3⟩ : ∃ q, (t.lab.nm.toList == u.lab.nm.toList) = q := ⟨_, rfl⟩
    obtain ⟨q4, hq4⟩ : ∃ q, (t.lab.op.toList == u.lab.op.toList) = q := ⟨_, rfl⟩
    have hE := eqV20 _ _ _ hqv
    have hn0 : (t.lab.kd != u.lab.kd) = !q0 := by rw [← hq0]; rfl
    have hn2 : (t.lab.tb.toList != u.lab.tb.toList) = !q2 := by rw [← hq2]; rfl
    have hn3 : (t.lab.nm.toList != u.lab.nm.toList) = !q3 := by rw [← hq3]; rfl
    have hn4 : (t.lab.op.toList != u.lab.op.toList) = !q4 := by rw [← hq4]; rfl
    rw [hq0, hqv, hq2, hq3, hq4]
    clear hqv
    go_enter Tryz.func26, Tryz.ntmps26
    cases q0
    · go_wp2
      go_ret
      exact ⟨rfl, HB1.out⟩
    cases qv
    · go_wp2
      go_ret
      exact ⟨rfl, HB1.out⟩
    cases q2
    · go_wp2
      go_ret
      exact ⟨rfl, HB1.out⟩
    cases q3
    · go_wp2
      go_ret
      exact ⟨rfl, HB1.out⟩
    cases q4
    · go_wp2
      go_ret
      exact ⟨rfl, HB1.out⟩
    by_cases hmq : m = q
    rotate_left
    · have q5 : ((m : Int) != (q : Int)) = true := by simp; omega
      have hrf : r = false := by
        rw [← HR.out, Bool.eq_false_iff]
        intro ht
        have := congrArg List.length ((eqL_iff _ _).1 ht)
        rw [HM.out, HQ.out] at this; exact hmq this
      subst hrf
      go_wp2
      go_ret
      exact ⟨rfl, HB1.out⟩
    subst hmq
    have hmm : ((m : Int) != (m : Int)) = false := by simp
    go_wp2
    clear hE hn0 hn2 hn3 hn4 hq0 hq2 hq3 hq4 hmm
    clear y0 y1 y2 y3 y4 y5 y6 y7 z0 z1 z2 z3 z4 z5 z6 z7 hw0 hw1
    go_loopw [5] (fun i wr => ∃ k : Nat, k ≤ m ∧ i = .int .i64 k ∧ Hid (t.args.take k = u.args.take k) ∧ Hid (Below w1.heap.size w1 wr)) (fun i _ => m - (intOf i).toNat)
    case atStart => exact ⟨0, by omega, rfl, rfl, Below.refl _ _⟩
    case round =>
      obtain ⟨k, hk, rfl, HI, HBr⟩ := hrel
      have HBw := Lib.hid (HB1.out.trans (HBr.out.mono HB1.out.size))
      obtain ⟨y0, y1, y2, y3, y4, y5, y6, y7⟩ := HY.out.later HL.out.1 HBr.out
      obtain ⟨z0, z1, z2, z3, z4, z5, z6, z7⟩ := HZ.out.later HL.out.2 HBr.out
      by_cases hlt : k < m
      · have hkl : k < t.args.length := by rw [HM.out]; exact hlt
        have hku : k < u.args.length := by rw [HQ.out]; exact hlt
        obtain ⟨y, hy, hAy, b1, o1, hab, hbN, hKid⟩ := (HA.out.later HBw.out).kid8 (k := k) hkl
        obtain ⟨z, hz, hAz, b2, o2, hab2, hbN2, hKid2⟩ := (HK.out.later HBw.out).kid8 (k := k) hku
        simp only at hab hy hab2 hz
        subst hab hab2
        have HTk : Hid (eqT y.t z.t = true → t.args.take (k + 1) = u.args.take (k + 1)) := fun he => by
          rw [List.take_succ_eq_append_getElem hkl, List.take_succ_eq_append_getElem hku, HI.out, ← hy, ← hz, (eqT_iff _ _).1 he]
        have HTf : Hid (eqT y.t z.t = false → r = false) := fun hf => by
          rw [← HR.out, Bool.eq_false_iff]
          intro ht
          have h1 := (eqL_iff _ _).1 ht
          have h2 : t.args[k] = u.args[k] := by simp only [h1]
          rw [← hy, ← hz] at h2
          rw [(eqT_iff _ _).2 h2] at hf; cases hf
        have HC := Lib.hid (fun V (hV : Later wr.drew V) => IH.out y z V (hAy.later (Later.undrew hV)) (hAz.later (Later.undrew hV)))
        have HF := Lib.hid (fun V (hV : Later wr.drew V) => (⟨(HY.out.later HL.out.1 HBr.out).later (Nat.lt_of_lt_of_le HL.out.1 HBr.out.size) (Later.undrew hV), (HZ.out.later HL.out.2 HBr.out).later (Nat.lt_of_lt_of_le HL.out.2 HBr.out.size) (Later.undrew hV), hKid.later hbN (Later.undrew hV), hKid2.later hbN2 (Later.undrew hV)⟩ : Slot8 V w.heap.size (.int .i64 t.lab.kd) (.int .u8 t.lab.v.k) (.int .i64 t.lab.v.n) (.string t.lab.v.s) (.string t.lab.tb) (.string t.lab.nm) (.string t.lab.op) (.slice (some ⟨b1, o1, none⟩) m cap) ∧ Slot8 V w0.heap.size (.int .i64 u.lab.kd) (.int .u8 u.lab.v.k) (.int .i64 u.lab.v.n) (.string u.lab.v.s) (.string u.lab.tb) (.string u.lab.nm) (.string u.lab.op) (.slice (some ⟨b2, o2, none⟩) m cup) ∧ KidAt V b1 (o1 + k * 8) y ∧ KidAt V b2 (o2 + k * 8) z))
        generalize eqT y.t z.t = d at *
        have f7 := fun V hV => (HF.out V hV).1.c7
        have g7 := fun V hV => (HF.out V hV).2.1.c7
        have k0 := fun V hV => (HF.out V hV).2.2.1.c0
        have k1 := fun V hV => (HF.out V hV).2.2.1.c1
        have k2 := fun V hV => (HF.out V hV).2.2.1.c2
        have k3 := fun V hV => (HF.out V hV).2.2.1.c3
        have k4 := fun V hV => (HF.out V hV).2.2.1.c4
        have k5 := fun V hV => (HF.out V hV).2.2.1.c5
        have k6 := fun V hV => (HF.out V hV).2.2.1.c6
        have k7 := fun V hV => (HF.out V hV).2.2.1.c7
        have l0 := fun V hV => (HF.out V hV).2.2.2.c0
        have l1 := fun V hV => (HF.out V hV).2.2.2.c1
        have l2 := fun V hV => (HF.out V hV).2.2.2.c2
        have l3 := fun V hV => (HF.out V hV).2.2.2.c3
        have l4 := fun V hV => (HF.out V hV).2.2.2.c4
        have l5 := fun V hV => (HF.out V hV).2.2.2.c5
        have l6 := fun V hV => (HF.out V hV).2.2.2.c6
        have l7 := fun V hV => (HF.out V hV).2.2.2.c7
        clear hy hAy hz hAz hkl hku hbN hbN2 hKid hKid2
        go_wp2_with fail
        refine wp_region_ord [(0, true), (1, true), (2, true), (3, true), (4, true), (5, true), (6, true), (7, true), (8, true), (9, true), (10, false), (11, true)] (by kernel_rfl) (by kernel_rfl) (by kernel_rfl) (by kernel_rfl) ?_
        repeat (first | (refine wpO_F (v := ?_) rfl (by rfl) (fun w' hL => ?_) ?_; rotate_left; (solve | (go_simp; with_reducible rfl) | go_simp); try simp only [Act.put, List.setIfInBounds_toArray, List.set_cons_zero, List.set_cons_succ]) | (refine wpO_G rfl (by rfl) ?_; try simp only [Act.put, List.setIfInBounds_toArray, List.set_cons_zero, List.set_cons_succ]))
        refine wpO_C rfl (by rfl) ?_
        go_simp
        refine (HC.out _ (Below.refl _ _)).mono ?_
        rintro e w2 ⟨rfl, hb2⟩
        refine ⟨hb2, ?_⟩
        try simp only [Act.put, List.setIfInBounds_toArray, List.set_cons_zero, List.set_cons_succ]
        have HB2 := Lib.hid (HBr.out.trans (((Below.refl wr.heap.size wr).drew.trans hb2).mono HBr.out.size))
        clear hb2 f7 g7 k0 k1 k2 k3 k4 k5 k6 k7 l0 l1 l2 l3 l4 l5 l6 l7
        repeat (first | (refine wpO_F (v := ?_) rfl (by rfl) (fun w' hL => ?_) ?_; rotate_left; (solve | (go_simp; with_reducible rfl) | go_simp); try simp only [Act.put, List.setIfInBounds_toArray, List.set_cons_zero, List.set_cons_succ]) | (refine wpO_G rfl (by rfl) ?_; try simp only [Act.put, List.setIfInBounds_toArray, List.set_cons_zero, List.set_cons_succ]))
        refine wpO_nil ?_
        cases d
        · have hrf := HTf.out rfl
          subst hrf
          go_wp2
          go_ret
          exact ⟨rfl, HB1.out.trans (HB2.out.mono HB1.out.size)⟩
        · go_wp2
          go_roundw
          case rel => exact ⟨k + 1, by omega, by go_num, HTk.out rfl, HB2.out⟩
          case measure => simp [intOf]; omega
      · have q0 : decide (k < m) = false := by simpa using hlt
        have hrt : r = true := by
          have h1 := HI.out
          rw [show k = m by omega, List.take_of_length_le (by rw [HM.out]; omega), List.take_of_length_le (by rw [HQ.out]; omega)] at h1
          rw [← HR.out]; exact (eqL_iff _ _).2 h1
        subst hrt
        go_wp2
        go_ret
        exact ⟨rfl, HBw.out⟩
end Go.Proofs.YtbnddpicpomakaaGreatDoor

/- The walk of the reference's Deep. -/
set_option linter.unusedSimpArgs false
set_option linter.unusedVariables false
set_option maxRecDepth 100000
namespace Go.Proofs.YtbnddpicpomakaaGreatDoor
open Go.RowKit

theorem depTo_next {args : List Ex} {most k : Nat} (hk : k < args.length) (hm : 1 ≤ most) : depTo args most (k + 1) = max (depTo args most k) (1 + min args[k].depth (most - 1)) := by
  have := args[k].depth_pos
  unfold depTo; rw [maxL_take_succ hk]; omega

set_option maxHeartbeats 8000000 in
theorem RDeep_any20 : ∀ (n : Nat) (x : XM) (w : World) (left : Nat), XAt w.heap.size w n x → left ≤ 1000 →
    Calls Tryz.prog 22 #[x.v, .int .i64 (left : Int)] w fun e w' => e = .returned (.int .i64 ((min x.t.depth (left + 1) : Nat) : Int)) ∧ Below w.heap.size w w'
  | 0, _, _, _, h, _ => h.elim
  | n + 1, ⟨t, a, cap⟩, w, left, h, hl => by
    rw [XM.v_eq]
    have HA := Lib.hid h
    have hlen := h.fair.2.1
    have hcap := h.fair.2.2
    simp only at hlen hcap ⊢
    have HE := Lib.hid (depTo_end t (left + 1))
    have hdp := t.depth_pos
    obtain ⟨r, hr⟩ : ∃ r : Nat, min t.depth (left + 1) = r := ⟨_, rfl⟩
    rw [hr] at HE ⊢
    obtain ⟨m, hm⟩ : ∃ m, t.args.length = m := ⟨_, rfl⟩
    rw [hm] at hlen ⊢
    have HM := Lib.hid hm
    have HS := Lib.hid (Slot8.new w 50 (.int .i64 t.lab.kd) (.int .u8 t.lab.v.k) (.int .i64 t.lab.v.n) (.string t.lab.v.s) (.string t.lab.tb) (.string t.lab.nm) (.string t.lab.op) (.slice a m cap))
    obtain ⟨w0, hw0⟩ : ∃ w0, w.alloc (.cells #[.int .i64 t.lab.kd, .int .u8 t.lab.v.k, .int .i64 t.lab.v.n, .string t.lab.v.s, .string t.lab.tb, .string t.lab.nm, .string t.lab.op, .slice a m cap] 50) = w0 := ⟨_, rfl⟩
    have HB1 : Hid (Below w.heap.size w w0) := by rw [← hw0]; exact (Below.refl _ w).alloc (Nat.le_refl _) _
    have hs0 : w.heap.size < w0.heap.size := by rw [← hw0]; simp
    rw [hw0] at HS
    obtain ⟨x0, x1, x2, x3, x4, x5, x6, x7⟩ := HS.out
    cases left with
    | zero =>
      have hr1 := Lib.hid (show 1 = r by rw [← hr]; omega)
      clear hr hdp h hm HA HE HM
      go_enter Tryz.func22, Tryz.ntmps22
      go_wp2
      go_loopw [5, 6] (fun v i wr => v = .int .i64 1 ∧ i = .int .i64 0 ∧ wr = w0) (fun _ _ _ => 0)
      case atStart => exact ⟨rfl, rfl, rfl⟩
      case round =>
        obtain ⟨rfl, rfl, rfl⟩ := hrel
        by_cases h0 : 0 < m
        · have q0 : decide ((0 : Int) < (m : Int)) = true := by simp; omega
          go_wp2
          go_ret
          exact ⟨by rw [← hr1.out]; rfl, HB1.out⟩
        · have q0 : decide ((0 : Int) < (m : Int)) = false := by simp; omega
          go_wp2
          go_ret
          exact ⟨by rw [← hr1.out]; rfl, HB1.out⟩
    | succ l =>
      have IH : Hid (∀ (y : XM) (W : World), XAt W.heap.size W n y → Calls Tryz.prog 22 #[.agg #[.int .i64 y.t.lab.kd, .int .u8 y.t.lab.v.k, .int .i64 y.t.lab.v.n, .string y.t.lab.v.s, .string y.t.lab.tb, .string y.t.lab.nm, .string y.t.lab.op, .slice y.a y.t.args.length y.cap], .int .i64 (l : Int)] W fun e w' => e = .returned (.int .i64 ((min y.t.depth (l + 1) : Nat) : Int)) ∧ Below W.heap.size W w') := fun y W hy => by
        have := RDeep_any20 n y W l hy (by omega)
        rw [XM.v_eq] at this; exact this
      have hl1 : IntKind.i64.wrap (((l + 1 : Nat) : Int) - 1) = (l : Int) := by rw [show ((l + 1 : Nat) : Int) - 1 = (l : Int) by omega]; exact IntWalk.i64_in _ (by omega)
      have hl0 : decide ((0 : Int) < ((l + 1 : Nat) : Int)) = true := decide_eq_true (by omega)
      have HC : Hid (∀ k (hk : k < t.args.length), depTo t.args (l + 1 + 1) (k + 1) = max (depTo t.args (l + 1 + 1) k) (1 + min t.args[k].depth (l + 1))) := fun k hk => by
        exact depTo_next hk (by omega)
      have HC1 : Hid (∀ k, depTo t.args (l + 1 + 1) k ≤ l + 1 + 1) := fun k => depTo_le _ _ _
      have HC0 : Hid (depTo t.args (l + 1 + 1) 0 = 1) := by unfold depTo; simp [maxL, Hid]
      generalize depTo t.args (l + 1 + 1) = C at *
      generalize hL : ((l + 1 : Nat) : Int) = L at *
      clear hr hdp h hm hL
      go_enter Tryz.func22, Tryz.ntmps22
      go_wp2
      clear x0 x1 x2 x3 x4 x5 x6 x7
      go_loopw [5, 6] (fun v i wr => ∃ k : Nat, k ≤ m ∧ v = .int .i64 (C k : Int) ∧ i = .int .i64 (k : Int) ∧ Hid (Below w0.heap.size w0 wr)) (fun _ i _ => m - (intOf i).toNat)
      case atStart => exact ⟨0, by omega, by rw [HC0.out]; rfl, rfl, Below.refl _ _⟩
      case round =>
        obtain ⟨k, hk, rfl, rfl, HBr⟩ := hrel
        obtain ⟨x0, x1, x2, x3, x4, x5, x6, x7⟩ := HS.out.later hs0 HBr.out
        have HBw := Lib.hid (HB1.out.trans (HBr.out.mono HB1.out.size))
        by_cases hlt : k < m
        · have hkl : k < t.args.length := by rw [HM.out]; exact hlt
          obtain ⟨y, hy, hAy, b, o, hab, hbN, hKid⟩ := (HA.out.later HBw.out).kid8 (k := k) hkl
          simp only at hab hy
          subst hab
          have HCk := HC.out k hkl
          rw [← hy] at HCk
          have HY := Lib.hid (IH.out y wr hAy)
          obtain ⟨d, hd⟩ : ∃ d, min y.t.depth (l + 1) = d := ⟨_, rfl⟩
          rw [hd] at HY HCk
          have hCk1 := HC1.out k
          have hdl : d ≤ l + 1 := by omega
          obtain ⟨y0, y1, y2, y3, y4, y5, y6, y7⟩ := hKid
          clear hy hAy HA IH hd hkl
          by_cases hgt : C k < 1 + d
          · have q1 : decide ((C k : Int) < 1 + (d : Int)) = true := by simp; omega
            have HV : Hid (C (k + 1) = 1 + d) := by show _ = _; omega
            go_wp2_with fail
            refine HY.out.mono ?_
            rintro e w2 ⟨rfl, hb2⟩
            have HB2 := Lib.hid (HBr.out.trans (hb2.mono HBr.out.size))
            clear hb2 HY y0 y1 y2 y3 y4 y5 y6 y7 x0 x1 x2 x3 x4 x5 x6 x7 HCk
            go_wp2
            go_roundw
            case rel => exact ⟨k + 1, by omega, by rw [HV.out]; go_num, by go_num, HB2.out⟩
            case measure => simp [intOf]; omega
          · have q1 : decide ((C k : Int) < 1 + (d : Int)) = false := by simp; omega
            have HV : Hid (C (k + 1) = C k) := by show _ = _; omega
            go_wp2_with fail
            refine HY.out.mono ?_
            rintro e w2 ⟨rfl, hb2⟩
            have HB2 := Lib.hid (HBr.out.trans (hb2.mono HBr.out.size))
            clear hb2 HY y0 y1 y2 y3 y4 y5 y6 y7 x0 x1 x2 x3 x4 x5 x6 x7 HCk
            go_wp2
            go_roundw
            case rel => exact ⟨k + 1, by omega, by rw [HV.out], by go_num, HB2.out⟩
            case measure => simp [intOf]; omega
        · have HR : Hid (C k = r) := by rw [show k = m by omega, ← HM.out]; exact HE.out
          go_wp2
          go_ret
          exact ⟨ret_k HR.out, HBw.out⟩
end Go.Proofs.YtbnddpicpomakaaGreatDoor

/- The walks of the reference's among and Reserved. -/
set_option linter.unusedSimpArgs false
set_option linter.unusedVariables false
set_option maxRecDepth 100000
namespace Go.Proofs.YtbnddpicpomakaaGreatDoor
open Go.RowKit

theorem cellsS_map : ∀ l : List ByteArray, cellsS l = l.map Value.string
  | [] => rfl
  | x :: r => by show Value.string x :: cellsS r = _; rw [cellsS_map r]; rfl
theorem strAt20 {N : Nat} {w : World} {a : Option Addr} {l : List ByteArray} (h : Arr N w a (cellsS l)) {k : Nat} (hk : k < l.length) : ∃ b o, a = some ⟨b, o, none⟩ ∧ b < N ∧ w.cell? ⟨b, o + k, none⟩ = some (.string l[k]) := by
  have hg : (cellsS l)[k]? = some (.string l[k]) := by
    rw [cellsS_map, List.getElem?_map, List.getElem?_eq_getElem hk]; rfl
  rcases h with h | ⟨b, o, ha, hb, hc⟩
  · rw [h] at hg; simp at hg
  · exact ⟨b, o, ha, hb, hc k _ hg⟩

/-- A row of texts that has just been made. -/
theorem arr_strs (w : World) (T : TypeId) (l : List ByteArray) : Arr (w.heap.size + 1) (w.alloc (.cells (cellsS l).toArray T)) (some ⟨w.heap.size, 0, none⟩) (cellsS l) := by
  refine .inr ⟨w.heap.size, 0, rfl, by omega, fun i v hi => ?_⟩
  rw [World.cell?_alloc_at _ _ _ _ rfl, Nat.zero_add]
  simpa using hi

set_option maxHeartbeats 2000000 in
theorem RAmong_any20 (l : List ByteArray) (key : ByteArray) (a : Option Addr) (len cap : Nat) (w : World) (hV : Arr w.heap.size w a (cellsS l)) (hlen : len = l.length) (hmax : len ≤ 140737488355328) :
    Calls Tryz.prog 48 #[.slice a len cap, .string key] w fun e w' => e = .returned (.bool (l.any fun x => key.toList == x.toList)) ∧ w = w' := by
  have HV := Lib.hid hV
  have HL := Lib.hid hlen
  clear hV hlen
  obtain ⟨R, hR⟩ : ∃ R, (l.any fun x => key.toList == x.toList) = R := ⟨_, rfl⟩
  rw [hR]
  have HR := Lib.hid hR
  clear hR
  go_enter Tryz.func48, Tryz.ntmps48
  go_wp2
  go_loop [5] (fun i => ∃ k : Nat, k ≤ len ∧ i = .int .i64 k ∧ Hid (((l.take k).any fun x => key.toList == x.toList) = false)) (fun i => len - (intOf i).toNat)
  case atStart => exact ⟨0, by omega, rfl, by simp [Hid]⟩
  case round =>
    obtain ⟨k, hk, rfl, HI⟩ := hrel
    by_cases hlt : k < len
    · have hkl : k < l.length := by have := HL.out; omega
      obtain ⟨b, o, rfl, hbN, c0⟩ := strAt20 HV.out hkl
      have HG : Hid (l[k] ∈ l) := List.getElem_mem hkl
      have HT : Hid (((l.take (k + 1)).any fun x => key.toList == x.toList) = (key.toList == l[k].toList)) := by
        rw [List.take_succ_eq_append_getElem hkl, List.any_append, HI.out]; simp [Hid]
      obtain ⟨y, hy⟩ : ∃ y, y = l[k] := ⟨_, rfl⟩
      rw [← hy] at c0 HG HT
      clear hy
      by_cases hky : y = key
      · subst hky
        have HQ : Hid (R = true) := by rw [Hid, ← HR.out, List.any_eq_true]; exact ⟨y, HG.out, by simp⟩
        clear HT HG
        go_wp2
        go_ret
        exact ⟨ret_b HQ.out.symm, rfl⟩
      · have q1 : (y.toList == key.toList) = false := by rw [beq_eq_false_iff_ne]; exact toList_ne hky
        have HT2 : Hid (((l.take (k + 1)).any fun x => key.toList == x.toList) = false) := by
          rw [HT.out, Hid, beq_eq_false_iff_ne]; exact toList_ne (fun h => hky h.symm)
        clear HT HG hky
        go_wp2
        go_round
        case rel => exact ⟨k + 1, by omega, by go_num, HT2⟩
        case measure => simp [intOf]; omega
    · have HG : Hid (R = false) := by rw [Hid, ← HR.out]; have := HI.out; rwa [List.take_of_length_le (by have := HL.out; omega)] at this
      go_wp2
      go_ret
      exact ⟨ret_b HG.out.symm, rfl⟩

/-- The texts of a list of numbers. -/
def strsL (L : List (List Nat)) : List ByteArray := L.map strN
theorem any_inL (L : List (List Nat)) (s : ByteArray) : ((strsL L).any fun x => s.toList == x.toList) = inL L s := by
  unfold strsL inL
  rw [List.any_map]
  congr 1
  funext l
  show (s.toList == (strN l).toList) = _
  rw [ByteArray.toList_eq (strN l)]; simp [strN]
theorem resB_inL (s : ByteArray) : resB s = inL resL s := rfl

set_option maxRecDepth 100000 in
set_option maxHeartbeats 4000000 in
theorem RReserved_any20 (s : ByteArray) (w : World) : Calls Tryz.prog 28 #[.string s] w fun e w' => e = .returned (.bool (resB s)) ∧ Below w.heap.size w w' := by
  have HC : Hid (∀ W, W = w.alloc (.cells (cellsS (strsL resL)).toArray 9) → Calls Tryz.prog 48 #[.slice (some ⟨w.heap.size, 0, none⟩) 49 49, .string s] W fun e w' => e = .returned (.bool (resB s)) ∧ Below w.heap.size w w') := fun W hW => by
    subst hW
    have h1 := RAmong_any20 (strsL resL) s (some ⟨w.heap.size, 0, none⟩) 49 49 (w.alloc (.cells (cellsS (strsL resL)).toArray 9)) (by simpa using arr_strs w 9 (strsL resL)) (by decide) (by omega)
    rw [any_inL, ← resB_inL] at h1
    refine h1.mono ?_
    rintro e w' ⟨he, rfl⟩
    exact ⟨he, (Below.refl _ w).alloc (Nat.le_refl _) _⟩
  generalize resB s = r at *
  go_enter Tryz.func28, Tryz.ntmps28
  go_wp2_with fail
  refine (HC.out _ ?_).mono ?_
  · rfl
  rintro e w2 ⟨rfl, hb2⟩
  have HB2 := Lib.hid hb2
  clear hb2
  go_wp2
  go_ret
  exact ⟨rfl, HB2.out⟩
end Go.Proofs.YtbnddpicpomakaaGreatDoor
