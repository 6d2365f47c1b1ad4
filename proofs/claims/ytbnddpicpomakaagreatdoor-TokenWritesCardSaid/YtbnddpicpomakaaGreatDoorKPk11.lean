/- Several texts of one proof, one behind the other. -/
import Derived.Test.YtbnddpicpomakaaGreatDoorKPk10
import Derived.Test.YtbnddpicpomakaaGreatDoorRows
import Derived.Lib.LaidU8
import Derived.PinnedBridge
import Derived.Stop.LaidErr
import Derived.RowKitTokens
import Derived.Stop.ErrReads
import Derived.Handed
set_option linter.unusedSimpArgs false
set_option linter.unusedVariables false

/- The walks of the reference's Write and of Same, of any rows of tokens. -/
set_option linter.unusedSimpArgs false
set_option linter.unusedVariables false
set_option maxRecDepth 100000
namespace Go.Proofs.YtbnddpicpomakaaGreatDoor
open Go.RowKit

theorem rTkTx_any (t : Tk) (w : World) (hF : t.fair) (hk : 1 ≤ t.kd ∧ t.kd ≤ 5) (hs : t.tx.size ≤ 400000) :
    Calls Tryz.prog 37 #[.agg #[.int .i64 t.kd, .int .i64 t.at_, .string t.tx, .int .i64 t.n]] w fun e w' => e = .returned (.string t.text.1) ∧ Below w.heap.size w w' := by
  by_cases h24 : 2 ≤ t.kd ∧ t.kd ≤ 4
  · exact rTkText_any t w hF h24 hs
  obtain ⟨kd, at_, tx, n⟩ := t
  simp only at hs hk h24 ⊢
  have HX := Lib.hid (Slot4.new w 69 (.int .i64 kd) (.int .i64 at_) (.string tx) (.int .i64 n))
  have HB0 : Hid (∀ o, Below w.heap.size w (w.alloc o)) := fun o => (Below.refl _ w).alloc (Nat.le_refl _) _
  have hcase : kd = 1 ∨ kd = 5 := by omega
  clear hF hk h24
  obtain ⟨x0, x1, x2, x3⟩ := HX.out
  rcases hcase with rfl | rfl
  · go_enter Tryz.func37, Tryz.ntmps37
    go_wp2
    go_ret
    exact ⟨rfl, HB0.out _⟩
  · go_enter Tryz.func37, Tryz.ntmps37
    go_wp2
    go_ret
    exact ⟨rfl, HB0.out _⟩

theorem text_kind (t : Tk) : t.text.2 = decide (1 ≤ t.kd ∧ t.kd ≤ 5) := by
  unfold Tk.text
  by_cases h1 : t.kd = 1 ∨ t.kd = 5
  · rw [if_pos h1]; simp; omega
  rw [if_neg h1]
  by_cases h2 : t.kd = 2
  · rw [if_pos h2]; simp; omega
  rw [if_neg h2]
  by_cases h3 : t.kd = 3
  · rw [if_pos h3]; simp; omega
  rw [if_neg h3]
  by_cases h4 : t.kd = 4
  · rw [if_pos h4]; simp; omega
  rw [if_neg h4]
  symm
  simp; omega
theorem text_small (t : Tk) (hF : t.fair) (hs : t.tx.size ≤ 300) : t.text.1.size ≤ 2000 := by
  unfold Tk.text
  split
  · simp only; omega
  split
  · show (baL (Lib.itoa t.n)).size ≤ 2000
    rw [baL_size]; have := itoa_len t.n hF.n.1 hF.n.2; omega
  split
  · show (quoteS t.tx).size ≤ 2000
    have := quoteS_size t.tx; omega
  split
  · show ((⟨#[120]⟩ : ByteArray) ++ quoteS (hexS t.tx)).size ≤ 2000
    rw [ByteArray.size_append]
    have := quoteS_size (hexS t.tx)
    have := hexS_size t.tx
    have : (⟨#[120]⟩ : ByteArray).size = 1 := rfl
    omega
  · exact Nat.zero_le _
theorem texts_sum : ∀ l : List Tk, (∀ t ∈ l, t.fair ∧ t.tx.size ≤ 300) → ((textsTk l).map ByteArray.size).sum ≤ 2000 * l.length ∧ (textsTk l).length ≤ l.length
  | [], _ => by simp [textsTk]
  | t :: r, h => by
    have ih := texts_sum r (fun x hx => h x (List.mem_cons_of_mem _ hx))
    have ht := text_small t (h t List.mem_cons_self).1 (h t List.mem_cons_self).2
    have e : textsTk (t :: r) = (if t.text.2 then [t.text.1] else []) ++ textsTk r := by
      unfold textsTk
      by_cases h2 : t.text.2 = true
      · simp [h2]
      · simp [h2]
    rw [e]
    split
    · simp only [List.singleton_append, List.map_cons, List.sum_cons, List.length_cons]; omega
    · simp only [List.nil_append, List.length_cons]; omega
theorem join_small (l : List Tk) (h : ∀ t ∈ l, t.fair ∧ t.tx.size ≤ 300) (hl : l.length ≤ 200) : (joinS (textsTk l) spS).size ≤ 500000 := by
  have h1 := joinS_size (textsTk l) spS
  have h2 := texts_sum l h
  have h3 : spS.size = 1 := rfl
  rw [h3] at h1
  omega

set_option maxHeartbeats 4000000 in
theorem rTkWrite_any (l : List Tk) (a : Option Addr) (cap : Nat) (w : World) (h : Arr w.heap.size w a (cellsTk l)) (hl2 : l.length ≤ 200) (hF : ∀ t ∈ l, t.fair ∧ t.tx.size ≤ 300) (hb : l.length ≤ cap) (hcap : cap ≤ 9223372036854775807) :
    Calls Tryz.prog 12 #[.slice a l.length cap] w fun e w' => e = .returned (.string (joinS (textsTk l) spS)) ∧ Below w.heap.size w w' := by
  have HA := Lib.hid h
  have HFr := Lib.hid hF
  have HJ : Hid (∀ k, (joinS (textsTk (l.take k)) spS).size ≤ 500000) := fun k => join_small _ (fun t ht => hF t (List.mem_of_mem_take ht)) (by rw [List.length_take]; omega)
  obtain ⟨m, hm⟩ : ∃ m, l.length = m := ⟨_, rfl⟩
  have HM := Lib.hid hm
  rw [hm] at hb hl2 ⊢
  clear h hF hm
  go_enter Tryz.func12, Tryz.ntmps12
  go_wp2
  go_loopw [3, 4, 5] (fun v s i wr => ∃ k : Nat, k ≤ m ∧ v = .string (joinS (textsTk (l.take k)) spS) ∧ s = .bool (!(textsTk (l.take k)).isEmpty) ∧ i = .int .i64 (k : Int) ∧ Hid (Below w.heap.size w wr)) (fun _ _ i _ => m - (intOf i).toNat)
  case atStart => exact ⟨0, by omega, rfl, rfl, rfl, Below.refl _ _⟩
  case round =>
    obtain ⟨k, hk, rfl, rfl, rfl, HB⟩ := hrel
    by_cases hlt : k < m
    · have hkl : k < l.length := by rw [HM.out]; exact hlt
      have htk := textsTk_take hkl
      have hJ := HJ.out k
      obtain ⟨b, o, hab, hbN, t0, t1, t2, t3⟩ := tkAt (HA.out.below HB.out) hkl
      subst hab
      have hfr := HFr.out l[k] (List.getElem_mem hkl)
      have htx := text_small l[k] hfr.1 hfr.2
      have hkd := text_kind l[k]
      have HT := Lib.hid (fun W (h : 1 ≤ l[k].kd ∧ l[k].kd ≤ 5) => rTkTx_any l[k] W hfr.1 h (by omega))
      generalize l[k] = x at *
      obtain ⟨B2, hB2⟩ : ∃ B2, textsTk (l.take (k + 1)) = B2 := ⟨_, rfl⟩
      rw [hB2] at htk
      have HBq := Lib.hid hB2
      clear hB2
      generalize textsTk (l.take k) = B1 at *
      by_cases h15 : 1 ≤ x.kd ∧ x.kd ≤ 5
      · have hkd2 : x.text.2 = true := by rw [hkd]; simpa using h15
        rw [hkd2, if_pos rfl] at htk
        have q1 : decide (x.kd < 1) = false := by simp; omega
        have q2 : decide (5 < x.kd) = false := by simp; omega
        have HY := Lib.hid (HT.out wr h15)
        have HE2 : Hid (B2.isEmpty = false) := by show _ = _; rw [htk]; cases B1 <;> rfl
        have HJ2 : Hid (joinS B2 spS = if B1 = [] then x.text.1 else joinS B1 spS ++ ⟨#[32]⟩ ++ x.text.1) := by
          show _ = _
          rw [htk]
          split
          · rename_i h0; rw [h0, List.nil_append, joinS_one]
          · rename_i h0; rw [joinS_snoc _ _ _ h0]; rfl
        generalize x.text.1 = T at *
        have HB1 : Hid (B1 = [] → joinS B1 spS = ⟨#[]⟩) := fun h => by rw [h, joinS_nil]
        obtain ⟨E, hE⟩ : ∃ E, B1.isEmpty = E := ⟨_, rfl⟩
        rw [hE]
        have hEb : (E = true → B1 = []) ∧ (E = false → B1 ≠ []) := ⟨fun h => List.isEmpty_iff.1 (hE.trans h), fun h h0 => by rw [h0] at hE; rw [← hE] at h; cases h⟩
        generalize joinS B1 spS = J at *
        have s1 : ¬ 9223372036854775807 < J.size + 1 := by omega
        have s2 : ¬ 9223372036854775807 < J.size + T.size := by omega
        have s3 : ¬ 9223372036854775807 < J.size + 1 + T.size := by omega
        cases E with
        | true =>
          have HV : Hid (joinS B2 spS = J ++ T) := by
            show _ = _
            rw [HJ2.out, if_pos (hEb.1 rfl), HB1.out (hEb.1 rfl), joinS_empty]
          clear hEb hE htk h15 hkd hkd2 HT HJ2
          go_wp2_with fail
          refine HY.out.mono ?_
          rintro e w2 ⟨rfl, hb2⟩
          have HB2 := Lib.hid (HB.out.trans (hb2.mono HB.out.size))
          clear hb2 t0 t1 t2 t3
          go_wp2
          go_roundw
          case rel => exact ⟨k + 1, by omega, by rw [HBq.out, HV.out], by rw [HBq.out, HE2.out]; rfl, by go_num, HB2.out⟩
          case measure => (simp [intOf] <;> try omega)
        | false =>
          have HV : Hid (joinS B2 spS = J ++ ⟨#[32]⟩ ++ T) := by
            show _ = _
            rw [HJ2.out, if_neg (hEb.2 rfl)]
          clear hEb hE htk h15 hkd hkd2 HT HJ2
          go_wp2_with fail
          refine HY.out.mono ?_
          rintro e w2 ⟨rfl, hb2⟩
          have HB2 := Lib.hid (HB.out.trans (hb2.mono HB.out.size))
          clear hb2 t0 t1 t2 t3
          go_wp2
          go_roundw
          case rel => exact ⟨k + 1, by omega, by rw [HBq.out, HV.out], by rw [HBq.out, HE2.out]; rfl, by go_num, HB2.out⟩
          case measure => (simp [intOf] <;> try omega)
      · have hkd2 : x.text.2 = false := by rw [hkd]; simpa using h15
        rw [hkd2, if_neg (by simp), List.append_nil] at htk
        have HBB := Lib.hid htk
        clear HT hkd hkd2 htk
        by_cases h1 : x.kd < 1
        · have q1 : decide (x.kd < 1) = true := by simpa using h1
          clear h15 h1
          go_wp2
          go_roundw
          case rel => exact ⟨k + 1, by omega, by rw [HBq.out, HBB.out], by rw [HBq.out, HBB.out], by go_num, HB.out⟩
          case measure => (simp [intOf] <;> try omega)
        · have q1 : decide (x.kd < 1) = false := by simpa using h1
          have q2 : decide (5 < x.kd) = true := by simp; omega
          clear h15 h1
          go_wp2
          go_roundw
          case rel => exact ⟨k + 1, by omega, by rw [HBq.out, HBB.out], by rw [HBq.out, HBB.out], by go_num, HB.out⟩
          case measure => (simp [intOf] <;> try omega)
    · have q0 : decide ((k : Int) < (m : Int)) = false := by simp; omega
      have HV : Hid (joinS (textsTk (l.take k)) spS = joinS (textsTk l) spS) := by
        show _ = _
        rw [List.take_of_length_le (by rw [HM.out]; omega)]
      generalize joinS (textsTk (l.take k)) spS = J at *
      generalize (textsTk (l.take k)).isEmpty = E at *
      go_wp2
      go_ret
      exact ⟨by rw [← HV.out]; rfl, HB.out⟩

/-! Same. -/
def Tk.like (a b : Tk) : Bool := decide (a.kd = b.kd) && (decide (a.tx = b.tx) && decide (a.n = b.n))
def Alike (l m : List Tk) : Prop := l.length = m.length ∧ ∀ i (h1 : i < l.length) (h2 : i < m.length), l[i].like m[i] = true
theorem eqTkG (k1 n1 k2 n2 at_ : Int) (t1 t2 : ByteArray) (r : Bool) (hr : (decide (k1 = k2) && (decide (t1 = t2) && decide (n1 = n2))) = r) (W : World) : (Op.equalIn 10000 36 (.agg #[.int .i64 k1, .int .i64 at_, .string t1, .int .i64 n1]) (.agg #[.int .i64 k2, .int .i64 at_, .string t2, .int .i64 n2])).run Tryz.prog W = .ok r W := by
  have hS : Tryz.prog.underlying 36 = some (.struct (Tryz.prog.fieldsOf 36)) := by kernel_rfl
  have hp : Tryz.prog.stoodInHeld 36 = false := by kernel_rfl
  rw [show (10000 : Nat) = 9999 + 1 from rfl, run_equalIn_agg W 9999 36 _ _ hS hp]
  simp only [Program.fieldsOf, Tryz.underlying36]
  go_simp
  subst hr
  have hne : ¬ t1 = t2 → ¬ t1.toList = t2.toList := fun h h' => h (toListU_inj h')
  by_cases h1 : k1 = k2 <;> by_cases h2 : t1 = t2 <;> by_cases h3 : n1 = n2 <;> simp [h1, h2, h3] <;> exact hne h2
end Go.Proofs.YtbnddpicpomakaaGreatDoor

/- The walk of token.Same, of any rows. -/
set_option linter.unusedSimpArgs false
set_option linter.unusedVariables false
set_option maxRecDepth 100000
namespace Go.Proofs.YtbnddpicpomakaaGreatDoor
open Go.RowKit

set_option maxHeartbeats 2000000 in
theorem same1g_any (kd n a1 kd2 n2 a2 : Int) (tx tx2 : ByteArray) (w : World) :
    Calls Tryz.prog 39 #[.agg #[.int .i64 kd, .int .i64 a1, .string tx, .int .i64 n], .agg #[.int .i64 kd2, .int .i64 a2, .string tx2, .int .i64 n2]] w fun e w' => e = .returned (.bool (decide (kd = kd2) && (decide (tx = tx2) && decide (n = n2)))) ∧ Below w.heap.size w w' := by
  obtain ⟨r, hr⟩ : ∃ r, (decide (kd = kd2) && (decide (tx = tx2) && decide (n = n2))) = r := ⟨_, rfl⟩
  have hE := eqTkG kd n kd2 n2 a2 tx tx2 r hr
  rw [hr]
  clear hr
  have hB1 : Blk (w.alloc (.cells #[.int .i64 kd, .int .i64 a1, .string tx, .int .i64 n] 36)) w.heap.size 36 #[.int .i64 kd, .int .i64 a1, .string tx, .int .i64 n] := Blk.new w _ _
  have hs1 : (w.alloc (.cells #[.int .i64 kd, .int .i64 a1, .string tx, .int .i64 n] 36)).heap.size = w.heap.size + 1 := by simp
  obtain ⟨w1, hw1⟩ : ∃ w1, w.alloc (.cells #[.int .i64 kd, .int .i64 a1, .string tx, .int .i64 n] 36) = w1 := ⟨_, rfl⟩
  have hb1 : Below w.heap.size w w1 := by rw [← hw1]; exact (Below.refl _ w).alloc (Nat.le_refl _) _
  rw [hw1] at hB1 hs1
  have hB2 : Blk (w1.alloc (.cells #[.int .i64 kd2, .int .i64 a2, .string tx2, .int .i64 n2] 36)) w1.heap.size 36 #[.int .i64 kd2, .int .i64 a2, .string tx2, .int .i64 n2] := Blk.new w1 _ _
  have hB1' := hB1.alloc (.cells #[.int .i64 kd2, .int .i64 a2, .string tx2, .int .i64 n2] 36)
  obtain ⟨w2, hw2⟩ : ∃ w2, w1.alloc (.cells #[.int .i64 kd2, .int .i64 a2, .string tx2, .int .i64 n2] 36) = w2 := ⟨_, rfl⟩
  have hb2 : Below w1.heap.size w1 w2 := by rw [← hw2]; exact (Below.refl _ w1).alloc (Nat.le_refl _) _
  rw [hw2] at hB2 hB1'
  have pc := (hB1'.cell 1).trans rfl
  have pf := hB1'.frozen 1
  have pl := hB1'.lt
  have y1 := (hB2.cell 1).trans rfl
  have hB3 : Blk (w2.setCell ⟨w.heap.size, 1, none⟩ (.int .i64 a2)) w.heap.size 36 #[.int .i64 kd, .int .i64 a2, .string tx, .int .i64 n] := hB1'.set_ 1 _
  have hc3 : Chg [w.heap.size] w2 (w2.setCell ⟨w.heap.size, 1, none⟩ (.int .i64 a2)) := (Chg.refl _ _).setCell (.inl (by simp)) _
  obtain ⟨w3, hw3⟩ : ∃ w3, w2.setCell ⟨w.heap.size, 1, none⟩ (.int .i64 a2) = w3 := ⟨_, rfl⟩
  rw [hw3] at hB3 hc3
  have hB4 : Blk w3 w1.heap.size 36 #[.int .i64 kd2, .int .i64 a2, .string tx2, .int .i64 n2] := (hc3.block _ hB2.lt (by rw [List.mem_singleton]; omega)).trans hB2
  have x0 := (hB3.cell 0).trans rfl
  have x1 := (hB3.cell 1).trans rfl
  have x2 := (hB3.cell 2).trans rfl
  have x3 := (hB3.cell 3).trans rfl
  have z0 := (hB4.cell 0).trans rfl
  have z1 := (hB4.cell 1).trans rfl
  have z2 := (hB4.cell 2).trans rfl
  have z3 := (hB4.cell 3).trans rfl
  have HB3 : Hid (Below w.heap.size w w3) := (hb1.trans (hb2.mono hb1.size)).trans (hc3.below (Nat.le_trans hb1.size hb2.size) (by simp))
  clear hB1 hB2 hB1' hb1 hb2 hB3 hB4 hc3 hs1
  go_enter Tryz.func39, Tryz.ntmps39
  go_wp2
  go_ret
  exact ⟨rfl, HB3.out⟩

set_option maxHeartbeats 2000000 in
theorem tkSameG_any (L M : List Tk) (a b : Option Addr) (c d : Nat) (w : World) (hL : Arr w.heap.size w a (cellsTk L)) (hM : Arr w.heap.size w b (cellsTk M)) (hbd : L.length ≤ 1000000) (hc : L.length ≤ c) (hd : M.length ≤ d) (hc2 : c ≤ 9223372036854775807) (hd2 : d ≤ 9223372036854775807) :
    Calls Tryz.prog 38 #[.slice a L.length c, .slice b M.length d, .func (.func 39) #[] #[]] w fun e w' => (∃ r, e = .returned (.bool r) ∧ (r = true ↔ Alike L M)) ∧ Below w.heap.size w w' := by
  by_cases hlen : L.length = M.length
  rotate_left
  · have HN : Hid (¬ Alike L M) := fun h => hlen h.1
    have qn : ((L.length : Int) != (M.length : Int)) = true := by simp; omega
    clear hL hM
    generalize L.length = m at *
    generalize M.length = q at *
    go_enter Tryz.func38, Tryz.ntmps38
    go_wp2
    go_ret
    exact ⟨⟨false, rfl, fun h => (by cases h), fun h => absurd h HN.out⟩, Below.refl _ _⟩
  obtain ⟨m, hm⟩ : ∃ m, L.length = m := ⟨_, rfl⟩
  have hm2 : M.length = m := hlen.symm.trans hm
  have HL := Lib.hid hL
  have HM := Lib.hid hM
  have HLen := Lib.hid hlen
  have HLm := Lib.hid hm
  have HMm := Lib.hid hm2
  have hmm : ((m : Int) != (m : Int)) = false := by simp
  rw [hm] at hbd hc
  rw [hm2] at hd
  rw [hm, hm2]
  clear hL hM hlen hm hm2
  go_enter Tryz.func38, Tryz.ntmps38
  go_wp2
  clear hmm
  go_loopw [17] (fun i wr => ∃ k : Nat, k ≤ m ∧ i = .int .i64 k ∧ Hid (∀ j (h1 : j < L.length) (h2 : j < M.length), j < k → L[j].like M[j] = true) ∧ Hid (Below w.heap.size w wr)) (fun i _ => m - (intOf i).toNat)
  case atStart => exact ⟨0, by omega, rfl, (fun j _ _ hj => by omega), Below.refl _ _⟩
  case round =>
    obtain ⟨k, hk, rfl, HI, HBr⟩ := hrel
    by_cases hlt : k < m
    · have hkl : k < L.length := by rw [HLm.out]; exact hlt
      have hkm : k < M.length := by rw [HMm.out]; exact hlt
      obtain ⟨b1, o1, hab, hbN, t0, t1, t2, t3⟩ := tkAt (HL.out.below HBr.out) hkl
      obtain ⟨r, hr⟩ : ∃ r, L[k].like M[k] = r := ⟨_, rfl⟩
      have HIt : Hid (r = true → ∀ j (h1 : j < L.length) (h2 : j < M.length), j < k + 1 → L[j].like M[j] = true) := fun h j h1 h2 hj => by
        by_cases hjk : j = k
        · subst hjk; rw [hr]; exact h
        · exact HI.out j h1 h2 (by omega)
      have HIf : Hid (r = false → ¬ Alike L M) := fun h hA => by have := hA.2 k hkl hkm; rw [hr, h] at this; cases this
      have hr2 := hr
      unfold Tk.like at hr2
      clear hr HI
      generalize L[k] = x at *
      subst hab
      have hbx := (Below.refl wr.heap.size wr).alloc (Nat.le_refl _) (.cells #[.int .i64 x.kd, .int .i64 x.at_, .string x.tx, .int .i64 x.n] 36)
      obtain ⟨w1, hw1⟩ : ∃ w1, wr.alloc (.cells #[.int .i64 x.kd, .int .i64 x.at_, .string x.tx, .int .i64 x.n] 36) = w1 := ⟨_, rfl⟩
      have hX := Slot4.new wr 36 (.int .i64 x.kd) (.int .i64 x.at_) (.string x.tx) (.int .i64 x.n)
      have hs1 : wr.heap.size < w1.heap.size := by rw [← hw1]; simp
      rw [hw1] at hbx hX
      have hb1 := HBr.out.trans (hbx.mono HBr.out.size)
      obtain ⟨b2, o2, hab2, hbN2, u0, u1, u2, u3⟩ := tkAt (HM.out.below hb1) hkm
      generalize M[k] = y at *
      subst hab2
      have hby := (Below.refl w1.heap.size w1).alloc (Nat.le_refl _) (.cells #[.int .i64 y.kd, .int .i64 y.at_, .string y.tx, .int .i64 y.n] 36)
      have hY := Slot4.new w1 36 (.int .i64 y.kd) (.int .i64 y.at_) (.string y.tx) (.int .i64 y.n)
      obtain ⟨w2, hw2⟩ : ∃ w2, w1.alloc (.cells #[.int .i64 y.kd, .int .i64 y.at_, .string y.tx, .int .i64 y.n] 36) = w2 := ⟨_, rfl⟩
      rw [hw2] at hby hY
      have hX2 := hX.later hs1 hby
      obtain ⟨x0, x1, x2, x3⟩ := hX2
      obtain ⟨y0, y1, y2, y3⟩ := hY
      have HB2 := Lib.hid (hb1.trans (hby.mono hb1.size))
      have HY := Lib.hid (same1g_any x.kd x.n x.at_ y.kd y.n y.at_ x.tx y.tx w2)
      rw [hr2] at HY
      clear hbx hby hX hb1 hkl hkm hr2
      go_wp2_with fail
      refine HY.out.mono ?_
      rintro e w3 ⟨rfl, hb3⟩
      have HB3 := Lib.hid (HB2.out.trans (hb3.mono HB2.out.size))
      clear hb3 HY x0 x1 x2 x3 y0 y1 y2 y3 t0 t1 t2 t3 u0 u1 u2 u3
      cases r with
      | true =>
        go_wp2
        go_roundw
        case rel => exact ⟨k + 1, by omega, by go_num, HIt.out (by trivial), HB3.out⟩
        case measure => (simp [intOf] <;> try omega)
      | false =>
        go_wp2
        go_ret
        exact ⟨⟨false, rfl, fun h => (by cases h), fun h => absurd h (HIf.out (by trivial))⟩, HB3.out⟩
    · have q0 : decide ((k : Int) < (m : Int)) = false := by simp; omega
      have HAl : Hid (Alike L M) := ⟨HLen.out, fun j h1 h2 => HI.out j h1 h2 (by rw [HLm.out] at h1; omega)⟩
      go_wp2
      go_ret
      exact ⟨⟨true, rfl, fun _ => HAl.out, fun _ => rfl⟩, HBr.out⟩
theorem tkSmG_any (L M : List Tk) (a b : Option Addr) (c d : Nat) (w : World) (hL : Arr w.heap.size w a (cellsTk L)) (hM : Arr w.heap.size w b (cellsTk M)) (hbd : L.length ≤ 1000000) (hc : L.length ≤ c) (hd : M.length ≤ d) (hc2 : c ≤ 9223372036854775807) (hd2 : d ≤ 9223372036854775807) :
    Calls Tryz.prog 14 #[.slice a L.length c, .slice b M.length d] w fun e w' => (∃ r, e = .returned (.bool r) ∧ (r = true ↔ Alike L M)) ∧ Below w.heap.size w w' := by
  have HS := Lib.hid (tkSameG_any L M a b c d w hL hM hbd hc hd hc2 hd2)
  clear hL hM hbd hc hd
  obtain ⟨P, hP⟩ : ∃ P : Prop, Alike L M = P := ⟨_, rfl⟩
  rw [hP] at HS ⊢
  clear hP
  generalize L.length = m at *
  generalize M.length = q at *
  go_enter Tryz.func14, Tryz.ntmps14
  go_wp2_with fail
  refine HS.out.mono ?_
  rintro e w1 ⟨⟨r, rfl, hr⟩, hb⟩
  have HB := Lib.hid hb
  clear hb
  go_wp2
  go_ret
  exact ⟨⟨r, rfl, hr⟩, HB.out⟩
end Go.Proofs.YtbnddpicpomakaaGreatDoor

/- The walk of the law TokenWrites. -/
set_option linter.unusedSimpArgs false
set_option linter.unusedVariables false
set_option maxRecDepth 100000
namespace Go.Proofs.YtbnddpicpomakaaGreatDoor
open Go.RowKit

theorem like_of (x y : Tk) (k t n : Bool) (hk : (x.kd == y.kd) = k) (ht : (x.tx.toList == y.tx.toList) = t) (hn : (x.n == y.n) = n) : x.like y = (k && (t && n)) := by
  subst hk ht hn
  unfold Tk.like
  have hne : ¬ x.tx = y.tx → ¬ x.tx.toList = y.tx.toList := fun h h' => h (toListU_inj h')
  by_cases h1 : x.kd = y.kd <;> by_cases h2 : x.tx = y.tx <;> by_cases h3 : x.n = y.n <;> simp [h1, h2, h3] <;> exact hne h2

set_option maxHeartbeats 16000000 in
theorem writes_walk (a b : Option Addr) (len1 cap1 len2 cap2 : Nat) (l m : List Tk) (w : World) (hT : Pre6 w) (hl : ToksIn w a len1 cap1 l) (hm : ToksIn w b len2 cap2 m) :
    Calls Tryz.prog 4 #[.slice a len1 cap1, .slice b len2 cap2] w fun e w' => e = .returned (.bool true) ∧ Below w.heap.size w w' := by
  obtain ⟨hq, hc1, hx1, hA1, hf1⟩ := hl
  obtain ⟨hr, hc2, hx2, hA2, hf2⟩ := hm
  have HAl := Lib.hid (fun W (hb : Below w.heap.size w W) => alive19_any W (hT.below hb))
  have HG1 := Lib.hid (great19_any l a cap1 w hA1 (by omega) hx1)
  have HG2 := Lib.hid (great19_any m b cap2 w hA2 (by omega) hx2)
  have hfr : SmallTk l → ∀ t ∈ l, t.fair ∧ t.tx.size ≤ 300 := fun h t ht => ⟨⟨(hf1 t ht).kd, (hf1 t ht).at_, by have := h.2 t ht; omega, (hf1 t ht).n⟩, h.2 t ht⟩
  obtain ⟨J, hJ⟩ : ∃ J, joinS (textsTk l) spS = J := ⟨_, rfl⟩
  have HW : Hid (SmallTk l → ∀ W, Below w.heap.size w W → Calls Tryz.prog 11 #[.slice a len1 cap1] W fun e w' => e = .returned (.string J) ∧ Below W.heap.size W w') := fun h W hb => by
    rw [← hJ]
    have h5 := join_small l (hfr h) h.1
    unfold joinS at h5
    rw [baL_size] at h5
    exact tkWrite_any l a len1 cap1 W (hT.below hb).toPre5.toPre4 ((hA1.below hb).mono hb.size) hq (by have := h.1; omega) (fun t ht => ⟨(hfr h t ht).1, by have := (hfr h t ht).2; omega⟩) (by omega)
  have HAs : Hid (SmallTk l → ∀ W, Below w.heap.size w W → Calls Tryz.prog 13 #[.slice a len1 cap1] W fun e w' => ∃ (a2 : Option Addr) (c2 : Nat), e = .returned (.slice a2 len1 c2) ∧ len1 ≤ c2 ∧ c2 ≤ 9223372036854775807 ∧ Arr w'.heap.size w' a2 (cellsTk l) ∧ Below W.heap.size W w') := fun h W hb => by
    have := as19_any l a cap1 W ((hA1.below hb).mono hb.size) h.1 (by omega) hx1
    rw [← hq] at this
    unfold RetTks at this
    rw [← hq] at this
    exact this
  have HRW : Hid (SmallTk l → ∀ (a2 : Option Addr) (c2 : Nat) W, Arr W.heap.size W a2 (cellsTk l) → len1 ≤ c2 → c2 ≤ 9223372036854775807 → Calls Tryz.prog 12 #[.slice a2 len1 c2] W fun e w' => e = .returned (.string J) ∧ Below W.heap.size W w') := fun h a2 c2 W hA h1 h2 => by
    rw [← hJ]
    have := rTkWrite_any l a2 c2 W hA h.1 (hfr h) (by omega) h2
    rw [← hq] at this
    exact this
  have HSm : Hid (SmallTk l → ∀ W, Below w.heap.size w W → Calls Tryz.prog 14 #[.slice a len1 cap1, .slice b len2 cap2] W fun e w' => (∃ r, e = .returned (.bool r) ∧ (r = true ↔ Alike l m)) ∧ Below W.heap.size W w') := fun h W hb => by
    have := tkSmG_any l m a b cap1 cap2 W ((hA1.below hb).mono hb.size) ((hA2.below hb).mono hb.size) (by have := h.1; omega) (by omega) (by omega) hx1 hx2
    rw [← hq, ← hr] at this
    exact this
  rw [← hq] at HG1
  rw [← hr] at HG2
  have HA1 := Lib.hid hA1
  have HA2 := Lib.hid hA2
  have HQ := Lib.hid hq
  have HR := Lib.hid hr
  clear hA1 hA2 hf1 hf2 hfr hJ hT hq hr
  go_enter Tryz.func4, Tryz.ntmps4
  go_wp2_with fail
  refine HG1.out.mono ?_
  rintro e w1 ⟨⟨g1, rfl, hg1⟩, rfl⟩
  cases g1 with
  | true =>
    go_wp2_with fail
    refine (HAl.out _ (Below.refl _ _)).mono ?_
    rintro e w2 ⟨rfl, hb2⟩
    have HB2 := Lib.hid hb2
    clear hb2
    go_wp2
    go_ret
    exact ⟨rfl, HB2.out⟩
  | false =>
    have HS := Lib.hid (hg1 rfl)
    clear hg1 HG1
    go_wp2_with fail
    refine HG2.out.mono ?_
    rintro e w2 ⟨⟨g2, rfl, -⟩, rfl⟩
    cases g2 with
    | true =>
      go_wp2_with fail
      refine (HAl.out _ (Below.refl _ _)).mono ?_
      rintro e w3 ⟨rfl, hb3⟩
      have HB3 := Lib.hid hb3
      clear hb3
      go_wp2
      go_ret
      exact ⟨rfl, HB3.out⟩
    | false =>
      clear HG2
      obtain ⟨E, hE⟩ : ∃ E, ((len1 : Int) == (len2 : Int)) = E := ⟨_, rfl⟩
      have HE : Hid ((E = true → len1 = len2) ∧ (E = false → ¬ Alike l m)) := ⟨fun h => by rw [h] at hE; have := eq_of_beq hE; omega, fun h hA => by
        have h1 := hA.1
        rw [← HQ.out, ← HR.out] at h1
        rw [h1] at hE
        rw [h] at hE
        simp at hE⟩
      go_wp2
      clear hE
      go_loopw [5, 6] (fun v i wr => ∃ (k : Nat) (e : Bool), k ≤ len1 ∧ v = .bool e ∧ i = .int .i64 (k : Int) ∧ Hid (e = true → len1 = len2 ∧ ∀ j (h1 : j < l.length) (h2 : j < m.length), j < k → l[j].like m[j] = true) ∧ Hid (e = false → ¬ Alike l m) ∧ Hid (Below w2.heap.size w2 wr)) (fun _ i _ => len1 - (intOf i).toNat)
      case atStart => exact ⟨0, E, by omega, rfl, rfl, (fun h => ⟨HE.out.1 h, fun j _ _ hj => by omega⟩), HE.out.2, Below.refl _ _⟩
      case round =>
        obtain ⟨k, e, hk, rfl, rfl, HI, HF, HB⟩ := hrel
        by_cases hgo : k < len1 ∧ e = true
        · obtain ⟨hlt, rfl⟩ := hgo
          have hkl : k < l.length := by rw [← HQ.out]; exact hlt
          have hkm : k < m.length := by rw [← HR.out, ← (HI.out rfl).1]; exact hlt
          have hlt2 : k < len2 := by rw [← (HI.out rfl).1]; exact hlt
          obtain ⟨b1, o1, hab, hbN, t0, t1, t2, t3⟩ := tkAt (HA1.out.below HB.out |>.mono HB.out.size) hkl
          obtain ⟨b2, o2, hab2, hbN2, u0, u1, u2, u3⟩ := tkAt (HA2.out.below HB.out |>.mono HB.out.size) hkm
          obtain ⟨bk, hbk⟩ : ∃ x, (l[k].kd == m[k].kd) = x := ⟨_, rfl⟩
          obtain ⟨bt, hbt⟩ : ∃ x, (l[k].tx.toList == m[k].tx.toList) = x := ⟨_, rfl⟩
          obtain ⟨bn, hbn⟩ : ∃ x, (l[k].n == m[k].n) = x := ⟨_, rfl⟩
          have hlk := like_of l[k] m[k] bk bt bn hbk hbt hbn
          have HIt : Hid ((bk && (bt && bn)) = true → len1 = len2 ∧ ∀ j (h1 : j < l.length) (h2 : j < m.length), j < k + 1 → l[j].like m[j] = true) := fun h => ⟨(HI.out rfl).1, fun j h1 h2 hj => by
            by_cases hjk : j = k
            · subst hjk; rw [hlk]; exact h
            · exact (HI.out rfl).2 j h1 h2 (by omega)⟩
          have HIf : Hid ((bk && (bt && bn)) = false → ¬ Alike l m) := fun h hA => by have := hA.2 k hkl hkm; rw [hlk, h] at this; cases this
          clear hlk HI HF
          generalize l[k] = x at *
          generalize m[k] = y at *
          subst hab hab2
          have T0 : ∀ V, Later wr.drew V → V.cell? ⟨b1, o1 + k * 4, none⟩ = some (.int .i64 x.kd) := fun V hV => ((Later.undrew hV).cell (p := ⟨b1, o1 + k * 4, none⟩) hbN).trans t0
          have T2 : ∀ V, Later wr.drew V → V.cell? ⟨b1, o1 + k * 4 + 2, none⟩ = some (.string x.tx) := fun V hV => ((Later.undrew hV).cell (p := ⟨b1, o1 + k * 4 + 2, none⟩) hbN).trans t2
          have T3 : ∀ V, Later wr.drew V → V.cell? ⟨b1, o1 + k * 4 + 3, none⟩ = some (.int .i64 x.n) := fun V hV => ((Later.undrew hV).cell (p := ⟨b1, o1 + k * 4 + 3, none⟩) hbN).trans t3
          have U0 : ∀ V, Later wr.drew V → V.cell? ⟨b2, o2 + k * 4, none⟩ = some (.int .i64 y.kd) := fun V hV => ((Later.undrew hV).cell (p := ⟨b2, o2 + k * 4, none⟩) hbN2).trans u0
          have U2 : ∀ V, Later wr.drew V → V.cell? ⟨b2, o2 + k * 4 + 2, none⟩ = some (.string y.tx) := fun V hV => ((Later.undrew hV).cell (p := ⟨b2, o2 + k * 4 + 2, none⟩) hbN2).trans u2
          have U3 : ∀ V, Later wr.drew V → V.cell? ⟨b2, o2 + k * 4 + 3, none⟩ = some (.int .i64 y.n) := fun V hV => ((Later.undrew hV).cell (p := ⟨b2, o2 + k * 4 + 3, none⟩) hbN2).trans u3
          have HBd : Hid (Below w2.heap.size w2 wr.drew) := HB.out.drew
          have ql : decide ((k : Int) < (len1 : Int)) = true := by simp; omega
          clear t0 t1 t2 t3 u0 u1 u2 u3 hkl hkm
          cases bk with
          | false =>
            go_wp2_with fail
            refine wp_region_ord [(0, true), (1, true), (2, true), (3, true), (4, true), (5, true), (6, true), (7, true), (8, true), (9, true), (10, true), (11, true), (12, true), (13, true), (14, true), (15, true), (16, true), (17, true), (18, true), (19, true), (20, true), (21, true), (22, true), (23, true), (24, true), (25, true), (26, true), (27, true), (28, true), (29, true), (30, true), (31, true), (32, true), (33, true), (34, true), (35, true), (36, true), (37, true)] (by kernel_rfl) (by kernel_rfl) (by kernel_rfl) (by kernel_rfl) ?_
            repeat (first | (refine wpO_F (v := ?_) rfl (by rfl) (fun w' hL => ?_) ?_; rotate_left; (solve | (go_simp; with_reducible rfl) | go_simp); try simp only [Act.put, List.setIfInBounds_toArray, List.set_cons_zero, List.set_cons_succ]) | (refine wpO_G rfl (by rfl) ?_; try simp only [Act.put, List.setIfInBounds_toArray, List.set_cons_zero, List.set_cons_succ]))
            refine wpO_nil ?_
            clear T0 T2 T3 U0 U2 U3
            go_wp2
            go_roundw
            case rel => exact ⟨k + 1, false, by omega, (by first | rfl | trivial), by go_num, (fun h => by cases h), (fun _ => HIf.out rfl), HBd.out⟩
            case measure => (simp [intOf] <;> try omega)
          | true =>
            cases bt with
            | false =>
              go_wp2_with fail
              refine wp_region_ord [(0, true), (1, true), (2, true), (3, true), (4, true), (5, true), (6, true), (7, true), (8, true), (9, true), (10, true), (11, true), (12, true), (13, true), (14, true), (15, true), (16, true), (17, true), (18, true), (19, true), (20, true), (21, true), (22, true), (23, true), (24, true), (25, true), (26, true), (27, true), (28, true), (29, true), (30, true), (31, true), (32, true), (33, true), (34, true), (35, true), (36, true), (37, true)] (by kernel_rfl) (by kernel_rfl) (by kernel_rfl) (by kernel_rfl) ?_
              repeat (first | (refine wpO_F (v := ?_) rfl (by rfl) (fun w' hL => ?_) ?_; rotate_left; (solve | (go_simp; with_reducible rfl) | go_simp); try simp only [Act.put, List.setIfInBounds_toArray, List.set_cons_zero, List.set_cons_succ]) | (refine wpO_G rfl (by rfl) ?_; try simp only [Act.put, List.setIfInBounds_toArray, List.set_cons_zero, List.set_cons_succ]))
              refine wpO_nil ?_
              clear T0 T2 T3 U0 U2 U3
              go_wp2
              go_roundw
              case rel => exact ⟨k + 1, false, by omega, (by first | rfl | trivial), by go_num, (fun h => by cases h), (fun _ => HIf.out rfl), HBd.out⟩
              case measure => (simp [intOf] <;> try omega)
            | true =>
              go_wp2_with fail
              refine wp_region_ord [(0, true), (1, true), (2, true), (3, true), (4, true), (5, true), (6, true), (7, true), (8, true), (9, true), (10, true), (11, true), (12, true), (13, true), (14, true), (15, true), (16, true), (17, true), (18, true), (19, true), (20, true), (21, true), (22, true), (23, true), (24, true), (25, true), (26, true), (27, true), (28, true), (29, true), (30, true), (31, true), (32, true), (33, true), (34, true), (35, true), (36, true), (37, true)] (by kernel_rfl) (by kernel_rfl) (by kernel_rfl) (by kernel_rfl) ?_
              repeat (first | (refine wpO_F (v := ?_) rfl (by rfl) (fun w' hL => ?_) ?_; rotate_left; (solve | (go_simp; with_reducible rfl) | go_simp); try simp only [Act.put, List.setIfInBounds_toArray, List.set_cons_zero, List.set_cons_succ]) | (refine wpO_G rfl (by rfl) ?_; try simp only [Act.put, List.setIfInBounds_toArray, List.set_cons_zero, List.set_cons_succ]))
              refine wpO_nil ?_
              clear T0 T2 T3 U0 U2 U3
              go_wp2
              go_roundw
              case rel => exact ⟨k + 1, bn, by omega, (by first | rfl | trivial), by go_num, (fun h => HIt.out (by rw [h]; rfl)), (fun h => HIf.out (by rw [h]; rfl)), HBd.out⟩
              case measure => (simp [intOf] <;> try omega)
        · have HZ : Hid (e = true ↔ Alike l m) := ⟨fun h => ⟨by rw [← HQ.out, ← HR.out]; exact (HI.out h).1, fun j h1 h2 => (HI.out h).2 j h1 h2 (by rw [← HQ.out] at h1; have : ¬ k < len1 := fun h5 => hgo ⟨h5, h⟩; omega)⟩, fun h => by
            cases e with
            | true => rfl
            | false => exact absurd h (HF.out rfl)⟩
          by_cases hlt : k < len1
          · have ql : decide ((k : Int) < (len1 : Int)) = true := by simp; omega
            have he : e = false := by
              cases e with
              | true => exact absurd ⟨hlt, rfl⟩ hgo
              | false => rfl
            subst he
            clear hgo HI HF
            go_wp2_with fail
            refine (HAl.out _ HB.out).mono ?_
            rintro e w3 ⟨rfl, hb3⟩
            have HB3 := Lib.hid (HB.out.trans (hb3.mono HB.out.size))
            clear hb3
            go_wp2_with fail
            refine (HW.out HS.out _ HB3.out).mono ?_
            rintro e w4 ⟨rfl, hb4⟩
            have HB4 := Lib.hid (HB3.out.trans (hb4.mono HB3.out.size))
            clear hb4
            go_wp2_with fail
            refine (HAs.out HS.out _ HB4.out).mono ?_
            rintro e w5 ⟨a2, c2, rfl, hc5, hm5, hA5, hb5⟩
            have HB5 := Lib.hid (HB4.out.trans (hb5.mono HB4.out.size))
            have HRW5 := Lib.hid (HRW.out HS.out a2 c2 w5 hA5 hc5 hm5)
            clear hb5 hA5
            go_wp2_with fail
            refine HRW5.out.mono ?_
            rintro e w6 ⟨rfl, hb6⟩
            have HB6 := Lib.hid (HB5.out.trans (hb6.mono HB5.out.size))
            clear hb6 HRW5
            go_wp2_with fail
            refine (HSm.out HS.out _ HB6.out).mono ?_
            rintro e w7 ⟨⟨r, rfl, hr⟩, hb7⟩
            have HB7 := Lib.hid (HB6.out.trans (hb7.mono HB6.out.size))
            have hre : r = false := by
              cases r with
              | true => have := HZ.out.2 (hr.1 rfl); cases this
              | false => rfl
            subst hre
            clear hb7 hr
            go_wp2
            go_ret
            exact ⟨ret_b (by first | rfl | simp), HB7.out⟩
          · have ql : decide ((k : Int) < (len1 : Int)) = false := by simp; omega
            clear hgo HI HF
            go_wp2_with fail
            refine (HAl.out _ HB.out).mono ?_
            rintro e9 w3 ⟨rfl, hb3⟩
            have HB3 := Lib.hid (HB.out.trans (hb3.mono HB.out.size))
            clear hb3
            go_wp2_with fail
            refine (HW.out HS.out _ HB3.out).mono ?_
            rintro e9 w4 ⟨rfl, hb4⟩
            have HB4 := Lib.hid (HB3.out.trans (hb4.mono HB3.out.size))
            clear hb4
            go_wp2_with fail
            refine (HAs.out HS.out _ HB4.out).mono ?_
            rintro e9 w5 ⟨a2, c2, rfl, hc5, hm5, hA5, hb5⟩
            have HB5 := Lib.hid (HB4.out.trans (hb5.mono HB4.out.size))
            have HRW5 := Lib.hid (HRW.out HS.out a2 c2 w5 hA5 hc5 hm5)
            clear hb5 hA5
            go_wp2_with fail
            refine HRW5.out.mono ?_
            rintro e9 w6 ⟨rfl, hb6⟩
            have HB6 := Lib.hid (HB5.out.trans (hb6.mono HB5.out.size))
            clear hb6 HRW5
            go_wp2_with fail
            refine (HSm.out HS.out _ HB6.out).mono ?_
            rintro e9 w7 ⟨⟨r, rfl, hr⟩, hb7⟩
            have HB7 := Lib.hid (HB6.out.trans (hb7.mono HB6.out.size))
            have hre : r = e := by
              have h9 := hr.trans HZ.out.symm
              cases r <;> cases e <;> simp_all
            subst hre
            clear hb7 hr
            go_wp2
            go_ret
            exact ⟨ret_b (by first | rfl | simp), HB7.out⟩
end Go.Proofs.YtbnddpicpomakaaGreatDoor

/- Go's tables of UTF-8, out of what the card lists. -/
set_option linter.unusedSimpArgs false
set_option linter.unusedVariables false
set_option maxRecDepth 100000
namespace Go.Proofs.YtbnddpicpomakaaGreatDoor
open Go Go.Lib Go.Shelf

theorem tabs_of {P : Program} {ρ : Ren} (L : Lays.n196 P ρ) {nm3 nm4 : String} (n3 : P.globalNamed nm3 = some (ρ.g 3)) (n4 : P.globalNamed nm4 = some (ρ.g 4)) (y3 : (P.globals[ρ.g 3]?).map (·.type) = some (ρ.t 119)) (y4 : (P.globals[ρ.g 4]?).map (·.type) = some (ρ.t 139))
    (c5 : P.cellsOf (ρ.t 5) = 1) (c119 : P.cellsOf (ρ.t 119) = 256) (c138 : P.cellsOf (ρ.t 138) = 2) {w : World} (h3 : VarReads P w nm3 firstData) (h4 : VarReads P w nm4 acceptData) : Lib.Utf8Tabs (ρ.g 3) (ρ.g 4) w := by
  refine ⟨fun c hc => ?_, fun i hi => ?_⟩
  · obtain ⟨g, t, cs, fuel, p, hg, hty, hvar, hd⟩ := h3
    obtain rfl := Option.some.inj (n3.symm.trans hg)
    obtain rfl := Option.some.inj (y3.symm.trans hty)
    have hcs := cells_of_tab L.t119 L.t5 c5 c119 hd
    have := World.var?_cell hg hvar c
    rw [this, ← Array.getElem?_toList, hcs]
    simp [firstTab, hc]
  · obtain ⟨g, t, cs, fuel, p, hg, hty, hvar, hd⟩ := h4
    obtain rfl := Option.some.inj (n4.symm.trans hg)
    obtain rfl := Option.some.inj (y4.symm.trans hty)
    obtain ⟨fuel', d, q, hdi, he⟩ := array_elem L.t139 hd i hi
    simp only [List.getElem?_map, List.getElem?_range hi, Option.map_some, Option.some.injEq] at hdi
    subst hdi
    rw [c138] at he
    have hcs := ints_of_struct L.t138 (fun j f hj => by
      match j, hj with
      | 0, hj => simp at hj; subst hj; exact ⟨L.t5, rfl, c5⟩
      | 1, hj => simp at hj; subst hj; exact ⟨L.t5, rfl, c5⟩
      | j + 2, hj => simp at hj) (by rw [c138]; rfl) he
    have e0 := congrArg (·[0]?) hcs
    have e1 := congrArg (·[1]?) hcs
    simp only [List.getElem?_take, List.getElem?_drop] at e0 e1
    constructor
    · rw [World.var?_cell hg hvar (2 * i), ← Array.getElem?_toList]
      simpa [Nat.mul_comm] using e0
    · rw [World.var?_cell hg hvar (2 * i + 1), ← Array.getElem?_toList]
      simpa [Nat.mul_comm] using e1

theorem first_eq : Rows.laid_unicode_utf8_first = firstData := Pinned.utf8First_eq
theorem accept_eq : (Rows.laid_unicode_utf8_acceptRanges : DataW Unit) = acceptData := by kernel_rfl

/-- The two tables, where the listed variables read as the card has them. -/
theorem tabs_laid {l : List (String × DataW Unit)} {w : World} (h : laidMet Tryz.prog l w) {nm3 nm4 : String} (m3 : (nm3, Rows.laid_unicode_utf8_first) ∈ l) (m4 : (nm4, (Rows.laid_unicode_utf8_acceptRanges : DataW Unit)) ∈ l)
    (n3 : Tryz.prog.globalNamed nm3 = some (Tryz.laysValid_ren.g 3)) (n4 : Tryz.prog.globalNamed nm4 = some (Tryz.laysValid_ren.g 4)) : Tabs w :=
  tabs_of Tryz.laysValid n3 n4 (by kernel_rfl) (by kernel_rfl) (by kernel_rfl) (by kernel_rfl) (by kernel_rfl) (first_eq ▸ Lib.laidMet.reads h m3) (accept_eq ▸ Lib.laidMet.reads h m4)
end Go.Proofs.YtbnddpicpomakaaGreatDoor

/- What the package's variables hold, out of what the card lists; and the wrap that hands the world's shape too. -/
set_option linter.unusedSimpArgs false
set_option linter.unusedVariables false
set_option maxRecDepth 100000
namespace Go.Proofs.YtbnddpicpomakaaGreatDoor
set_option linter.unusedSimpArgs false
open Go Go.Lib Go.Shelf Go.RowKit Go.ChangeShapes

theorem star5 : "*" ++ "errors.errorString" = "*errors.errorString" := by decide
theorem row5 (u : TypeId) (h : Tryz.prog.typeName? 3 u = some "*errors.errorString") : u = 168 :=
  typeName_ptr_named (nm := "errors.errorString") (by rw [star5]; kernel_rfl) (by kernel_rfl) (by decide) u (by rw [star5]; exact h)

theorem pow_eq : Rows.laid_internal_strconv_uint64pow10 = tabData (H := Unit) .u64 Lib.pow10Tab := by kernel_rfl

theorem pow_reads {P : Program} {w : World} {nm : String} {t e : TypeId} {g : Nat} (hg : P.globalNamed nm = some g) (hty : (P.globals[g]?).map (·.type) = some t) (ht : P.underlying t = some (.array 20 e)) (he : P.underlying e = some (.int .u64)) (hce : P.cellsOf e = 1) (hct : P.cellsOf t = 20)
    (h : VarReads P w nm (tabData .u64 Lib.pow10Tab)) : Lib.TabIs P w nm .u64 Lib.pow10Tab := by
  obtain ⟨g', t', cs, fuel, p, hg', ht', hvar, hd⟩ := h
  obtain rfl := Option.some.inj (hg.symm.trans hg')
  obtain rfl := Option.some.inj (hty.symm.trans ht')
  unfold TabIs
  rw [hvar, ← cells_of_tab ht he hce hct hd]

theorem pre4_laid {l : List (String × DataW Unit)} {w : World} (h : laidMet Tryz.prog l w) (hsh : w.ShapedOpen Tryz.prog) {nm3 nm4 : String} (m2 : (powName, Rows.laid_internal_strconv_uint64pow10) ∈ l) (m3 : (nm3, Rows.laid_unicode_utf8_first) ∈ l) (m4 : (nm4, (Rows.laid_unicode_utf8_acceptRanges : DataW Unit)) ∈ l)
    (n3 : Tryz.prog.globalNamed nm3 = some (Tryz.laysValid_ren.g 3)) (n4 : Tryz.prog.globalNamed nm4 = some (Tryz.laysValid_ren.g 4)) : Pre4 w where
  tabs := tabs_laid h m3 m4 n3 n4
  maxlen := Tryz.laysRepl.s1_3 w hsh
  pow := pow_reads (g := (Tryz.prog.globalNamed powName).getD 0) (t := 158) (e := 132) (by kernel_rfl) (by kernel_rfl) Tryz.underlying158 Tryz.underlying132 (by kernel_rfl) (by kernel_rfl) (pow_eq ▸ Lib.laidMet.reads h m2)

theorem pre5_laid {x0 x1 x5 : String × DataW Unit} {nm3 nm4 nm5 : String} {r : List (String × DataW Unit)} {w : World} (h : laidMet Tryz.prog (x0 :: x1 :: (powName, Rows.laid_internal_strconv_uint64pow10) :: (nm4, (Rows.laid_unicode_utf8_acceptRanges : DataW Unit)) :: (nm5, Rows.laid_strconv_ErrRange) :: x5 :: (nm3, Rows.laid_unicode_utf8_first) :: r) w) (hsh : w.ShapedOpen Tryz.prog)
    (n3 : Tryz.prog.globalNamed nm3 = some (Tryz.laysValid_ren.g 3)) (n4 : Tryz.prog.globalNamed nm4 = some (Tryz.laysValid_ren.g 4)) (n5 : Tryz.prog.globalNamed nm5 = some (Tryz.laysParse_ren.g 16)) : Pre5 w where
  toPre4 := pre4_laid h hsh (List.Mem.tail _ (List.Mem.tail _ (List.Mem.head _))) (List.Mem.tail _ (List.Mem.tail _ (List.Mem.tail _ (List.Mem.tail _ (List.Mem.tail _ (List.Mem.tail _ (List.Mem.head _))))))) (List.Mem.tail _ (List.Mem.tail _ (List.Mem.tail _ (List.Mem.head _)))) n3 n4
  rng := by
    obtain ⟨a, s, hv, _⟩ := laid_sentinel h.tail.tail.tail.tail (g := Tryz.laysParse_ren.g 16) (ti := 104) (tp := 168) (te := 170) (ts := 9) n5 (by kernel_rfl) Tryz.underlying104 row5 Tryz.underlying168 Tryz.underlying170 rfl rfl Tryz.underlying9 (by kernel_rfl) (by kernel_rfl)
    exact ⟨_, by simpa using World.var?_cell n5 hv 0, .inr ⟨_, _, rfl⟩⟩

section
variable {H : Type} {enc : TypeId × Value → H}

/-- As the wrap of a row with a premise of its own; it hands the contract the world's shape too. -/
theorem handed_change_shaped {a : Assume} {C : Checked} {os : Os} {f : FuncId} {fn : Func} {s : ChangeSpec} {conds : List PathCond} {apart fresh handsOn again : Bool} {X : World → Array Value → Prop}
    (hX : ∀ (w w' : World) (args : Array Value), w.heap = w'.heap → X w args → X w' args)
    (own : ownKnob C.prog.godebug = none) (started : os.Started) (noInit : C.prog.inits.idxOf? f = none) (hfn : C.prog.funcs[f]? = some fn)
    (witness : ∃ (w : World) (tape : Tape) (i : Input), w.os = os ∧ (w.forCall tape i).Shaped C.prog ∧ i.vars = [] ∧ Input.okWide C.prog (w.forCall tape i) .any w.heap.size f i ∧
      ((s.pre enc C.prog fn conds apart (w.forCall tape i).memory i.args ∧ X (w.forCall tape i).memory i.args) ∧ sizedMet enc C.prog fn (OpenSpec.ofChange s) apart (w.forCall tape i).memory i.args) ∧ a.holds C.prog (lone (Frame.enter C.prog f i.args .normal) [] (w.forCall tape i)))
    (contract : ∀ (W : World) (base : Nat) (args : Array Value) (ds gs : List (DataW H)) (before : List MemPlace),
      (∀ (j : Nat) t v, fn.params[j]? = some t → args[j]? = some v → Value.okWide C.prog W .any base t v) →
      DataW.Whole enc C.prog fn.params.toList s.vars apart W args.toList ds gs before →
      conds.all (PathCond.test C.prog ⟨fn.params.toList, ds, s.plain.varTypes C.prog, gs⟩) = true →
      (DataW.weightsEach C.prog (fn.params.toList ++ s.plain.varTypes C.prog) (ds ++ gs)).all (· ≤ reachBytes) = true → X W args → W.ShapedOpen C.prog →
      a.holds C.prog (lone (Frame.enter C.prog f args .normal) [] W) →
      Calls C.prog f args W fun e W' => ∃ v, e = .returned v ∧ s.post enc C.prog fn apart fresh handsOn again W args v W') :
    ReturnsInHanded a C os f .any (fun w args => (s.pre enc C.prog fn conds apart w args ∧ X w args) ∧ sizedMet enc C.prog fn (OpenSpec.ofChange s) apart w args) (s.post enc C.prog fn apart fresh handsOn again) := by
  refine returnsInHanded_of_calls own started noInit witness ?_
  intro w tape i _ hsh _ hok hpre hholds
  obtain ⟨_, _, _, fn', hfn', _, _, _, _, hval⟩ := hok
  have e : fn' = fn := Option.some.inj (hfn'.symm.trans hfn)
  subst e
  obtain ⟨⟨⟨ds, gs, before, hw, hc⟩, hx⟩, hz⟩ := hpre
  have hw' := DataW.Whole.of_heap (w' := w.forCall tape i) (by rfl) hw
  refine (contract (w.forCall tape i) w.heap.size i.args ds gs before hval hw' hc (hz.weights hw) (hX _ _ _ (by rfl) hx) hsh hholds).mono fun e W' ⟨v, he, hp⟩ => ?_
  subst he
  exact ChangeSpec.post_blind hp
end
end Go.Proofs.YtbnddpicpomakaaGreatDoor

/- The package's variables for token's laws. -/
set_option linter.unusedSimpArgs false
set_option linter.unusedVariables false
set_option maxRecDepth 100000
namespace Go.Proofs.YtbnddpicpomakaaGreatDoor
open Go Go.Lib Go.Shelf Go.RowKit Go.ChangeShapes

theorem pre6_laid {x0 x1 : String × DataW Unit} {nm3 nm4 nm5 nm6 : String} {r : List (String × DataW Unit)} {w : World} (h : laidMet Tryz.prog (x0 :: x1 :: (powName, Rows.laid_internal_strconv_uint64pow10) :: (nm4, (Rows.laid_unicode_utf8_acceptRanges : DataW Unit)) :: (nm5, Rows.laid_strconv_ErrRange) :: (nm6, Rows.laid_strconv_ErrSyntax) :: (nm3, Rows.laid_unicode_utf8_first) :: r) w) (hsh : w.ShapedOpen Tryz.prog)
    (n3 : Tryz.prog.globalNamed nm3 = some (Tryz.laysValid_ren.g 3)) (n4 : Tryz.prog.globalNamed nm4 = some (Tryz.laysValid_ren.g 4)) (n5 : Tryz.prog.globalNamed nm5 = some (Tryz.laysParse_ren.g 16)) (n6 : Tryz.prog.globalNamed nm6 = some (Tryz.laysTo_ren.g 15)) : Pre6 w where
  toPre5 := pre5_laid h hsh n3 n4 n5
  syn := by
    obtain ⟨a, s, hv, _⟩ := laid_sentinel h.tail.tail.tail.tail.tail (g := Tryz.laysTo_ren.g 15) (ti := 104) (tp := 168) (te := 170) (ts := 9) n6 (by kernel_rfl) Tryz.underlying104 row5 Tryz.underlying168 Tryz.underlying170 rfl rfl Tryz.underlying9 (by kernel_rfl) (by kernel_rfl)
    exact ⟨_, by simpa using World.var?_cell n6 hv 0, .inr ⟨_, _, rfl⟩⟩
end Go.Proofs.YtbnddpicpomakaaGreatDoor
