/- Several texts of one proof, one behind the other. -/
import Derived.Test.YtbnddpicpomakaaDoorIPk10
import Derived.Test.YtbnddpicpomakaaDoorRows
import Derived.Lib.LaidU8
import Derived.PinnedBridge
import Derived.Stop.LaidErr
import Derived.RowKitTokens
import Derived.Stop.ErrReads
import Derived.Handed
set_option linter.unusedSimpArgs false
set_option linter.unusedVariables false

/- The walk of token.Same, of tokens that are alike. -/
set_option linter.unusedSimpArgs false
set_option linter.unusedVariables false
set_option maxRecDepth 100000
namespace Go.Proofs.YtbnddpicpomakaaDoor
open Go.RowKit

theorem eqTk (kd n at_ : Int) (tx : ByteArray) (W : World) : (Op.equalIn 10000 33 (.agg #[.int .i64 kd, .int .i64 at_, .string tx, .int .i64 n]) (.agg #[.int .i64 kd, .int .i64 at_, .string tx, .int .i64 n])).run Tryd.prog W = .ok true W := by
  have hS : Tryd.prog.underlying 33 = some (.struct (Tryd.prog.fieldsOf 33)) := by kernel_rfl
  have hp : Tryd.prog.stoodInHeld 33 = false := by kernel_rfl
  rw [show (10000 : Nat) = 9999 + 1 from rfl, run_equalIn_agg W 9999 33 _ _ hS hp]
  simp only [Program.fieldsOf, Tryd.underlying33]
  go_simp
@[go_sem] theorem eqGuardTk : Tryd.prog.eqGuardType Tryd.prog.depth 33 = false := by kernel_rfl

set_option maxHeartbeats 2000000 in
theorem same1_any (kd n a1 a2 : Int) (tx : ByteArray) (w : World) :
    Calls Tryd.prog 31 #[.agg #[.int .i64 kd, .int .i64 a1, .string tx, .int .i64 n], .agg #[.int .i64 kd, .int .i64 a2, .string tx, .int .i64 n]] w fun e w' => e = .returned (.bool true) ∧ Below w.heap.size w w' := by
  have hE := eqTk kd n a2 tx
  have hB1 : Blk (w.alloc (.cells #[.int .i64 kd, .int .i64 a1, .string tx, .int .i64 n] 33)) w.heap.size 33 #[.int .i64 kd, .int .i64 a1, .string tx, .int .i64 n] := Blk.new w _ _
  have hs1 : (w.alloc (.cells #[.int .i64 kd, .int .i64 a1, .string tx, .int .i64 n] 33)).heap.size = w.heap.size + 1 := by simp
  obtain ⟨w1, hw1⟩ : ∃ w1, w.alloc (.cells #[.int .i64 kd, .int .i64 a1, .string tx, .int .i64 n] 33) = w1 := ⟨_, rfl⟩
  have hb1 : Below w.heap.size w w1 := by rw [← hw1]; exact (Below.refl _ w).alloc (Nat.le_refl _) _
  rw [hw1] at hB1 hs1
  have hB2 : Blk (w1.alloc (.cells #[.int .i64 kd, .int .i64 a2, .string tx, .int .i64 n] 33)) w1.heap.size 33 #[.int .i64 kd, .int .i64 a2, .string tx, .int .i64 n] := Blk.new w1 _ _
  have hB1' := hB1.alloc (.cells #[.int .i64 kd, .int .i64 a2, .string tx, .int .i64 n] 33)
  obtain ⟨w2, hw2⟩ : ∃ w2, w1.alloc (.cells #[.int .i64 kd, .int .i64 a2, .string tx, .int .i64 n] 33) = w2 := ⟨_, rfl⟩
  have hb2 : Below w1.heap.size w1 w2 := by rw [← hw2]; exact (Below.refl _ w1).alloc (Nat.le_refl _) _
  rw [hw2] at hB2 hB1'
  have pc := (hB1'.cell 1).trans rfl
  have pf := hB1'.frozen 1
  have pl := hB1'.lt
  have y1 := (hB2.cell 1).trans rfl
  have hB3 : Blk (w2.setCell ⟨w.heap.size, 1, none⟩ (.int .i64 a2)) w.heap.size 33 #[.int .i64 kd, .int .i64 a2, .string tx, .int .i64 n] := hB1'.set_ 1 _
  have hc3 : Chg [w.heap.size] w2 (w2.setCell ⟨w.heap.size, 1, none⟩ (.int .i64 a2)) := (Chg.refl _ _).setCell (.inl (by simp)) _
  obtain ⟨w3, hw3⟩ : ∃ w3, w2.setCell ⟨w.heap.size, 1, none⟩ (.int .i64 a2) = w3 := ⟨_, rfl⟩
  rw [hw3] at hB3 hc3
  have hB4 : Blk w3 w1.heap.size 33 #[.int .i64 kd, .int .i64 a2, .string tx, .int .i64 n] := (hc3.block _ hB2.lt (by rw [List.mem_singleton]; omega)).trans hB2
  have x0 := (hB3.cell 0).trans rfl
  have x1 := (hB3.cell 1).trans rfl
  have x2 := (hB3.cell 2).trans rfl
  have x3 := (hB3.cell 3).trans rfl
  have z0 := (hB4.cell 0).trans rfl
  have z1 := (hB4.cell 1).trans rfl
  have z2 := (hB4.cell 2).trans rfl
  have z3 := (hB4.cell 3).trans rfl
  have HB3 : Hid (Below w.heap.size w w3) := (hb1.trans (hb2.mono hb1.size)).trans (hc3.below (Nat.le_trans hb1.size hb2.size) (by simp))
  clear hB1 hB2 hB1' hb1 hb2 hB3 hB4 hc3 hs1
  go_enter Tryd.func31, Tryd.ntmps31
  go_wp2
  go_ret
  exact ⟨ret_b (by first | rfl | simp), HB3.out⟩

set_option maxHeartbeats 2000000 in
theorem tkSame_any (L M : List Tk) (a b : Option Addr) (c d : Nat) (w : World) (hL : Arr w.heap.size w a (cellsTk L)) (hM : Arr w.heap.size w b (cellsTk M)) (hlen : L.length = M.length) (hbd : L.length ≤ 1000000)
    (hlike : ∀ k (h1 : k < L.length) (h2 : k < M.length), L[k].kd = M[k].kd ∧ L[k].tx = M[k].tx ∧ L[k].n = M[k].n) :
    Calls Tryd.prog 30 #[.slice a L.length c, .slice b M.length d, .func (.func 31) #[] #[]] w fun e w' => e = .returned (.bool true) ∧ Below w.heap.size w w' := by
  obtain ⟨m, hm⟩ : ∃ m, L.length = m := ⟨_, rfl⟩
  have hm2 : M.length = m := hlen.symm.trans hm
  have HL := Lib.hid hL
  have HM := Lib.hid hM
  have HK := Lib.hid hlike
  have HLm := Lib.hid hm
  have HMm := Lib.hid hm2
  have hmm : ((m : Int) != (m : Int)) = false := by simp
  rw [hm] at hbd
  rw [hm, hm2]
  clear hL hM hlen hlike hm hm2
  go_enter Tryd.func30, Tryd.ntmps30
  go_wp2
  clear hmm
  go_loopw [17] (fun i wr => ∃ k : Nat, k ≤ m ∧ i = .int .i64 k ∧ Hid (Below w.heap.size w wr)) (fun i _ => m - (intOf i).toNat)
  case atStart => exact ⟨0, by omega, rfl, Below.refl _ _⟩
  case round =>
    obtain ⟨k, hk, rfl, HBr⟩ := hrel
    by_cases hlt : k < m
    · have hkl : k < L.length := by rw [HLm.out]; exact hlt
      have hkm : k < M.length := by rw [HMm.out]; exact hlt
      obtain ⟨b1, o1, hab, hbN, t0, t1, t2, t3⟩ := tkAt (HL.out.below HBr.out) hkl
      obtain ⟨e1, e2, e3⟩ := HK.out k hkl hkm
      generalize L[k] = x at *
      subst hab
      have hbx := (Below.refl wr.heap.size wr).alloc (Nat.le_refl _) (.cells #[.int .i64 x.kd, .int .i64 x.at_, .string x.tx, .int .i64 x.n] 33)
      obtain ⟨w1, hw1⟩ : ∃ w1, wr.alloc (.cells #[.int .i64 x.kd, .int .i64 x.at_, .string x.tx, .int .i64 x.n] 33) = w1 := ⟨_, rfl⟩
      have hX := Slot4.new wr 33 (.int .i64 x.kd) (.int .i64 x.at_) (.string x.tx) (.int .i64 x.n)
      have hs1 : wr.heap.size < w1.heap.size := by rw [← hw1]; simp
      rw [hw1] at hbx hX
      have hb1 := HBr.out.trans (hbx.mono HBr.out.size)
      obtain ⟨b2, o2, hab2, hbN2, u0, u1, u2, u3⟩ := tkAt (HM.out.below hb1) hkm
      rw [← e1] at u0
      rw [← e2] at u2
      rw [← e3] at u3
      generalize M[k].at_ = y at *
      subst hab2
      have hby := (Below.refl w1.heap.size w1).alloc (Nat.le_refl _) (.cells #[.int .i64 x.kd, .int .i64 y, .string x.tx, .int .i64 x.n] 33)
      have hY := Slot4.new w1 33 (.int .i64 x.kd) (.int .i64 y) (.string x.tx) (.int .i64 x.n)
      obtain ⟨w2, hw2⟩ : ∃ w2, w1.alloc (.cells #[.int .i64 x.kd, .int .i64 y, .string x.tx, .int .i64 x.n] 33) = w2 := ⟨_, rfl⟩
      rw [hw2] at hby hY
      have hX2 := hX.later hs1 hby
      obtain ⟨x0, x1, x2, x3⟩ := hX2
      obtain ⟨y0, y1, y2, y3⟩ := hY
      have HB2 := Lib.hid (hb1.trans (hby.mono hb1.size))
      have HY := Lib.hid (same1_any x.kd x.n x.at_ y x.tx w2)
      clear hbx hby hX hb1 e1 e2 e3 hkl hkm
      go_wp2_with fail
      refine HY.out.mono ?_
      rintro e w3 ⟨rfl, hb3⟩
      have HB3 := Lib.hid (HB2.out.trans (hb3.mono HB2.out.size))
      clear hb3 HY x0 x1 x2 x3 y0 y1 y2 y3 t0 t1 t2 t3 u0 u1 u2 u3
      go_wp2
      go_roundw
      case rel => exact ⟨k + 1, by omega, by go_num, HB3.out⟩
      case measure => simp [intOf]; omega
    · have q0 : decide ((k : Int) < (m : Int)) = false := by simp; omega
      go_wp2
      go_ret
      exact ⟨rfl, HBr.out⟩
theorem tkSm_any (L M : List Tk) (a b : Option Addr) (c d : Nat) (w : World) (hL : Arr w.heap.size w a (cellsTk L)) (hM : Arr w.heap.size w b (cellsTk M)) (hlen : L.length = M.length) (hbd : L.length ≤ 1000000)
    (hlike : ∀ k (h1 : k < L.length) (h2 : k < M.length), L[k].kd = M[k].kd ∧ L[k].tx = M[k].tx ∧ L[k].n = M[k].n) :
    Calls Tryd.prog 11 #[.slice a L.length c, .slice b M.length d] w fun e w' => e = .returned (.bool true) ∧ Below w.heap.size w w' := by
  have HS := Lib.hid (tkSame_any L M a b c d w hL hM hlen hbd hlike)
  clear hL hM hlen hlike hbd
  generalize L.length = m at *
  generalize M.length = q at *
  go_enter Tryd.func11, Tryd.ntmps11
  go_wp2_with fail
  refine HS.out.mono ?_
  rintro e w1 ⟨rfl, hb⟩
  have HB := Lib.hid hb
  clear hb
  go_wp2
  go_ret
  exact ⟨rfl, HB.out⟩
end Go.Proofs.YtbnddpicpomakaaDoor

/- The walk of the law TokenPlaces. -/
set_option linter.unusedSimpArgs false
set_option linter.unusedVariables false
set_option maxRecDepth 100000
namespace Go.Proofs.YtbnddpicpomakaaDoor
open Go.RowKit

theorem blanks_step (n : Nat) : blanksS (n + 1) = blanksS n ++ ⟨#[32]⟩ := by
  unfold blanksS blanksL
  rw [List.replicate_succ']
  apply ByteArray.ext
  unfold strN
  apply Array.toList_inj.1
  simp
theorem blanks_size (n : Nat) : (blanksS n).size = n := by unfold blanksS; rw [strN_size, blanks_len]
/-- What lies there: the tokens, the fault. -/
structure PlE (w W : World) (a : Option Addr) (T : List Tk) (B : Nat) (p c : Int) : Prop where
  arr : Arr W.heap.size W a (cellsTk T)
  f0 : W.cell? ⟨B, 0, none⟩ = some (.int .i64 p)
  f1 : W.cell? ⟨B, 1, none⟩ = some (.int .i64 c)
  lt : B < W.heap.size
  bel : Below w.heap.size w W
theorem PlE.later {w W W' : World} {a : Option Addr} {T : List Tk} {B : Nat} {p c : Int} (h : PlE w W a T B p c) (hb : Below W.heap.size W W') : PlE w W' a T B p c :=
  ⟨(h.arr.below hb).mono hb.size, (hb.cell (p := ⟨B, 0, none⟩) h.lt).trans h.f0, (hb.cell (p := ⟨B, 1, none⟩) h.lt).trans h.f1, Nat.lt_of_lt_of_le h.lt hb.size, h.bel.trans (hb.mono h.bel.size)⟩
theorem PlE.new {w W : World} {a : Option Addr} {T : List Tk} {p c : Int} (hA : Arr W.heap.size W a (cellsTk T)) (hb : Below w.heap.size w W) : PlE w (W.alloc (.cells #[.int .i64 p, .int .i64 c] 26)) a T W.heap.size p c := by
  have b1 := (Below.refl W.heap.size W).alloc (Nat.le_refl _) (.cells #[.int .i64 p, .int .i64 c] 26)
  exact ⟨(hA.below b1).mono b1.size, by rw [World.cell?_alloc_at _ _ _ _ rfl]; rfl, by rw [World.cell?_alloc_at _ _ _ _ rfl]; rfl, by simp, hb.trans (b1.mono hb.size)⟩

set_option maxHeartbeats 16000000 in
theorem places_walk (s : ByteArray) (bl : Int) (w : World) (hT : Pre6 w) (hs : s.size ≤ 140737488351232) :
    Calls Tryd.prog 4 #[.string s, .int .i64 bl] w fun e w' => e = .returned (.bool true) ∧ Below w.heap.size w w' := by
  have HAl := Lib.hid (fun W (hb : Below w.heap.size w W) => alive19_any W (hT.below hb))
  have HRd := Lib.hid (fun (t : ByteArray) W (hb : Below w.heap.size w W) (ht : t.size ≤ 140737488351232) => tkRead_any t W (hT.below hb) ht)
  have HBw : Hid (Below w.heap.size w w) := Below.refl _ _
  clear hT
  by_cases h1 : 1000 < s.size
  · have q1 : decide ((1000 : Int) < (s.size : Int)) = true := by simp; omega
    have q2 : (1000 : Int) < (s.size : Int) := by omega
    go_enter Tryd.func4, Tryd.ntmps4
    go_wp2_with fail
    refine (HAl.out _ HBw.out).mono ?_
    rintro e w1 ⟨rfl, hb1⟩
    have HB1 := Lib.hid hb1
    clear hb1
    go_wp2
    go_ret
    exact ⟨rfl, HB1.out⟩
  have q1 : decide ((1000 : Int) < (s.size : Int)) = false := by simp; omega
  by_cases h2 : bl < 0
  · have q2 : decide (bl < 0) = true := by simpa using h2
    go_enter Tryd.func4, Tryd.ntmps4
    go_wp2_with fail
    refine (HAl.out _ HBw.out).mono ?_
    rintro e w1 ⟨rfl, hb1⟩
    have HB1 := Lib.hid hb1
    clear hb1
    go_wp2
    go_ret
    exact ⟨rfl, HB1.out⟩
  have q2 : decide (bl < 0) = false := by simpa using h2
  by_cases h3 : 50 < bl
  · have q3 : decide (50 < bl) = true := by simpa using h3
    go_enter Tryd.func4, Tryd.ntmps4
    go_wp2_with fail
    refine (HAl.out _ HBw.out).mono ?_
    rintro e w1 ⟨rfl, hb1⟩
    have HB1 := Lib.hid hb1
    clear hb1
    go_wp2
    go_ret
    exact ⟨rfl, HB1.out⟩
  have q3 : decide (50 < bl) = false := by simpa using h3
  obtain ⟨n, rfl⟩ : ∃ n : Nat, bl = (n : Int) := ⟨bl.toNat, by omega⟩
  have hn : n ≤ 50 := by omega
  have hat := read_at s (by omega)
  have hup := read_up s n (by omega)
  have hdec : (decS (bytesU s)).isSome = false → readV19 s = ([], 0, 3) := fun h => by simp only [readV19]; rw [if_neg (by omega), if_pos h]
  have HY := Lib.hid (HRd.out s w HBw.out hs)
  obtain ⟨⟨T, p, c⟩, hv⟩ : ∃ v, readV19 s = v := ⟨_, rfl⟩
  rw [hv] at hat hup hdec HY
  simp only at hat hup
  have HS2 : Hid (∀ W, Below w.heap.size w W → Calls Tryd.prog 9 #[.string (blanksS n ++ s)] W (RetRd19 (readV19 (blanksS n ++ s)) W)) := fun W hb => HRd.out _ W hb (by rw [ByteArray.size_append, blanks_size]; omega)
  have hz : ∀ k, (blanksS k).size = k := blanks_size
  have HBs := Lib.hid (fun k => blanks_step k)
  have HB0 : Hid (blanksS 0 = ⟨#[]⟩) := rfl
  have HPs : Hid (s.size ≤ 1000) := by show _ ≤ _; omega
  by_cases h0 : c = 0
  · rw [if_pos h0] at hup
    have qc0 : (c == 0) = true := by simpa using h0
    have qc1 : (c != 0) = false := by simpa using h0
    have qc4 : (c == 40) = false := by rw [h0]; rfl
    obtain ⟨z0, hz0⟩ : ∃ z0 : Nat, 0 = z0 := ⟨_, rfl⟩
    obtain ⟨z1, hz1'⟩ : ∃ z1 : Int, 0 = z1 := ⟨_, rfl⟩
    have hup2 : readV19 (blanksS n ++ s) = (T.map (Tk.up n), z0, z1) := by rw [hup, ← hz0, ← hz1']
    rw [hup2] at HS2
    have hz1 : z1 = 0 := hz1'.symm
    have hcz : c = 0 := h0
    have qz : (z1 != c) = false := by rw [hz1, hcz]; rfl
    have qz2 : (z1 == c) = true := by rw [hz1, hcz]; rfl
    obtain ⟨L, hL, h0s, hpw⟩ := hat.1 h0
    obtain ⟨q, hq⟩ : ∃ q, L.length = q := ⟨_, rfl⟩
    have hTl : T.length = q + 1 := by rw [hL, List.length_append, hq]; rfl
    have hTq : ∀ h : q < T.length, T[q] = ⟨0, (s.size : Int), ⟨#[]⟩, 0⟩ := fun h => by
      have : (L ++ [(⟨0, (s.size : Int), ⟨#[]⟩, 0⟩ : Tk)])[q]? = some ⟨0, (s.size : Int), ⟨#[]⟩, 0⟩ := by rw [List.getElem?_append_right (by omega), hq, Nat.sub_self]; rfl
      rw [← hL, List.getElem?_eq_getElem h] at this
      injection this
    have HT0 : Hid (∀ k (h : k < T.length), 0 ≤ T[k].at_) := fun k h => h0s _ (List.getElem_mem h)
    have HTr : Hid (∀ k (h : k + 1 < T.length), T[k].at_ < T[k + 1].at_) := fun k h => List.pairwise_iff_getElem.1 hpw k (k + 1) (by omega) h (by omega)
    have hsmall : T.length ≤ 100000 := by
      have : ∀ k (h : k < T.length), (k : Int) ≤ T[k].at_ := fun k => by
        induction k with
        | zero => intro h; have := HT0.out 0 h; omega
        | succ k ih => intro h; have := HTr.out k h; have := ih (by omega); omega
      have h5 := this q (by omega)
      rw [hTq (by omega)] at h5
      simp only at h5
      omega
    have hlk : ∀ k (h1 : k < T.length) (h2 : k < (T.map (Tk.up n)).length), T[k].kd = (T.map (Tk.up n))[k].kd ∧ T[k].tx = (T.map (Tk.up n))[k].tx ∧ T[k].n = (T.map (Tk.up n))[k].n := fun k h1 h2 => by
      rw [List.getElem_map]; exact ⟨rfl, rfl, rfl⟩
    have HSm : Hid (∀ (a b : Option Addr) (c d : Nat) W, Arr W.heap.size W a (cellsTk T) → Arr W.heap.size W b (cellsTk (T.map (Tk.up n))) → Calls Tryd.prog 11 #[.slice a (q + 1) c, .slice b (q + 1) d] W fun e w' => e = .returned (.bool true) ∧ Below W.heap.size W w') := fun a b c d W hA hB => by
      have := tkSm_any T (T.map (Tk.up n)) a b c d W hA hB (by rw [List.length_map]) (by omega) hlk
      rw [List.length_map, hTl] at this; exact this
    have hml : (T.map (Tk.up n)).length = q + 1 := by rw [List.length_map]; exact hTl
    have HTl := Lib.hid hTl
    have HTq := Lib.hid hTq
    generalize T.map (Tk.up n) = M at *
    have hqb : q + 1 ≤ 100000 := by omega
    clear hz1 hz1' hcz hz0 hup2 h0 hat hup hdec hv hL h0s hpw hq hlk hTq h1 h2 h3 HRd
    unfold RetRd19 at HY HS2
    simp only at HY HS2
    rw [hTl] at HY
    rw [hml] at HS2
    have wqf : IntKind.i64.wrap (((q + 1 : Nat) : Int) - 1) = (q : Int) := by rw [show ((q + 1 : Nat) : Int) - 1 = (q : Int) by omega]; exact IntWalk.i64_in _ (by omega)
    have qm0 : (((q + 1 : Nat) : Int) == 0) = false := by simp; omega
    clear hTl hml hsmall
    generalize hm : q + 1 = m at *
    have hqm : q < m := by omega
    have HMq := Lib.hid hm
    clear hm
    go_enter Tryd.func4, Tryd.ntmps4
    go_wp2_with fail
    refine HY.out.mono ?_
    rintro e w1 ⟨a1, c1, rfl, hc1, hm1, hA1, hb1⟩
    have HE1 := Lib.hid (PlE.new (p := (p : Int)) (c := c) hA1 hb1)
    obtain ⟨B, hB⟩ : ∃ B, w1.heap.size = B := ⟨_, rfl⟩
    obtain ⟨w2, hw2⟩ : ∃ w2, w1.alloc (.cells #[.int .i64 (p : Int), .int .i64 c] 26) = w2 := ⟨_, rfl⟩
    rw [hw2, hB] at HE1
    obtain ⟨b1, o1, hab, hbN, t0, t1, t2, t3⟩ := tkAt HE1.out.arr (k := q) (by rw [HTl.out]; have := HMq.out; omega)
    rw [HTq.out _] at t0 t1
    simp only at t0 t1
    have f1 := HE1.out.f1
    subst hab
    clear hA1 hb1 hbN t2 t3
    go_wp2
    clear t0 t1 f1 hw2 hB HY
    go_loopw [7] (fun i wr => ∃ k : Nat, k ≤ m ∧ i = .int .i64 (k : Int) ∧ Hid (PlE w wr (some ⟨b1, o1, none⟩) T B (p : Int) c)) (fun i _ => m - (intOf i).toNat)
    case atStart => exact ⟨0, by omega, rfl, HE1.out⟩
    case round =>
      obtain ⟨k, hk, rfl, HE⟩ := hrel
      by_cases hlt : k < m
      · have hkl : k < T.length := by rw [HTl.out]; have := HMq.out; omega
        obtain ⟨b2, o2, hab, hbN, -, t1, -, -⟩ := tkAt HE.out.arr hkl
        injection hab with hab
        injection hab with e1 e2
        subst e1 e2
        have hx0 := HT0.out k hkl
        have qx0 : decide (T[k].at_ < 0) = false := by simp; omega
        by_cases hk0 : k = 0
        · subst hk0
          generalize T[0].at_ = x at *
          rw [Nat.zero_mul] at t1
          have T1 : ∀ V, Later wr.drew V → V.cell? ⟨b1, o1 + 0 + 1, none⟩ = some (.int .i64 x) := fun V hV => ((Later.undrew hV).cell (p := ⟨b1, o1 + 0 + 1, none⟩) hbN).trans t1
          have T1' : ∀ V, Later wr.drew V → V.cell? ⟨b1, o1 + 1, none⟩ = some (.int .i64 x) := fun V hV => by have := T1 V hV; rw [Nat.add_zero] at this; exact this
          clear t1
          go_wp2_with fail
          refine wp_region_ord [(0, true), (1, true), (2, true), (3, true), (4, true), (5, true), (6, true), (7, true), (8, true), (9, true), (10, true), (11, true), (12, true), (13, true), (14, true), (15, true), (16, true), (17, true), (18, true), (19, true), (20, true), (21, true), (22, true), (23, true)] (by kernel_rfl) (by kernel_rfl) (by kernel_rfl) (by kernel_rfl) ?_
          repeat (first | (refine wpO_F (v := ?_) rfl (by rfl) (fun w' hL => ?_) ?_; rotate_left; (solve | (go_simp; with_reducible rfl) | go_simp); try simp only [Act.put, List.setIfInBounds_toArray, List.set_cons_zero, List.set_cons_succ]) | (refine wpO_G rfl (by rfl) ?_; try simp only [Act.put, List.setIfInBounds_toArray, List.set_cons_zero, List.set_cons_succ]))
          refine wpO_nil ?_
          have HE2 := Lib.hid (HE.out.later (Below.refl _ wr).drew)
          clear T1 T1'
          go_wp2
          go_roundw
          case rel => exact ⟨1, by omega, by go_num, HE2.out⟩
          case measure => (simp [intOf] <;> try omega)
        · obtain ⟨j, rfl⟩ : ∃ j, k = j + 1 := ⟨k - 1, by omega⟩
          have hjl : j < T.length := by omega
          obtain ⟨b3, o3, hab, hbN3, -, u1, -, -⟩ := tkAt HE.out.arr hjl
          injection hab with hab
          injection hab with e1 e2
          subst e1 e2
          have hr := HTr.out j hkl
          have qr : decide (T[j + 1].at_ ≤ T[j].at_) = false := by simp; omega
          generalize T[j + 1].at_ = x at *
          generalize T[j].at_ = y at *
          have qg : decide ((0 : Int) < ((j + 1 : Nat) : Int)) = true := decide_eq_true (by omega)
          have wj : IntKind.i64.wrap (((j + 1 : Nat) : Int) - 1) = (j : Int) := by rw [show ((j + 1 : Nat) : Int) - 1 = (j : Int) by omega]; exact IntWalk.i64_in _ (by omega)
          have hjm : j < m := by omega
          obtain ⟨K, hK⟩ : ∃ K, j + 1 = K := ⟨_, rfl⟩
          rw [hK] at t1 qg wj hlt
          have T1 : ∀ V, Later wr.drew V → V.cell? ⟨b1, o1 + K * 4 + 1, none⟩ = some (.int .i64 x) := fun V hV => ((Later.undrew hV).cell (p := ⟨b1, o1 + K * 4 + 1, none⟩) hbN).trans t1
          have U1 : ∀ V, Later wr.drew V → V.cell? ⟨b1, o1 + j * 4 + 1, none⟩ = some (.int .i64 y) := fun V hV => ((Later.undrew hV).cell (p := ⟨b1, o1 + j * 4 + 1, none⟩) hbN).trans u1
          have qK : 0 < K := by omega
          have HK := Lib.hid hK
          rw [hK]
          clear t1 u1 hK
          go_wp2_with fail
          refine wp_region_ord [(0, true), (1, true), (2, true), (3, true), (4, true), (5, true), (6, true), (7, true), (8, true), (9, true), (10, true), (11, true), (12, true), (13, true), (14, true), (15, true), (16, true), (17, true), (18, true), (19, true), (20, true), (21, true), (22, true), (23, true)] (by kernel_rfl) (by kernel_rfl) (by kernel_rfl) (by kernel_rfl) ?_
          repeat (first | (refine wpO_F (v := ?_) rfl (by rfl) (fun w' hL => ?_) ?_; rotate_left; (solve | (go_simp; with_reducible rfl) | go_simp); try simp only [Act.put, List.setIfInBounds_toArray, List.set_cons_zero, List.set_cons_succ]) | (refine wpO_G rfl (by rfl) ?_; try simp only [Act.put, List.setIfInBounds_toArray, List.set_cons_zero, List.set_cons_succ]))
          refine wpO_nil ?_
          have HE2 := Lib.hid (HE.out.later (Below.refl _ wr).drew)
          clear T1 U1
          go_wp2
          go_roundw
          case rel => exact ⟨K + 1, by omega, by go_num, HE2.out⟩
          case measure => (simp [intOf] <;> try omega)
      · have q0 : decide ((k : Int) < (m : Int)) = false := by simp; omega
        clear hk
        go_wp2
        clear q0
        go_loopw [8, 9] (fun v i wq => ∃ k2 : Nat, k2 ≤ n ∧ v = .string (blanksS k2) ∧ i = .int .i64 (k2 : Int) ∧ wq = wr) (fun _ i _ => n - (intOf i).toNat)
        case atStart => exact ⟨0, by omega, by rw [HB0.out], rfl, rfl⟩
        case round =>
          obtain ⟨k2, hk2, rfl, rfl, rfl⟩ := hrel
          by_cases hlt2 : k2 < n
          · have hz2 := hz k2
            have HSt := Lib.hid (HBs.out k2)
            generalize blanksS k2 = O at *
            have s1 : ¬ 9223372036854775807 < O.size + 1 := by omega
            have s2 : ¬ 9223372036854775807 < k2 + 1 := by omega
            have ql : decide ((k2 : Int) < (n : Int)) = true := by simp; omega
            clear hz
            go_wp2
            go_roundw
            case rel => exact ⟨k2 + 1, by omega, by rw [HSt.out], by go_num, (by first | rfl | trivial)⟩
            case measure => (simp [intOf] <;> try omega)
          · have hkn : k2 = n := by omega
            subst hkn
            have ql : decide ((k2 : Int) < (k2 : Int)) = false := by simp
            have hzn := hz k2
            have hPs := HPs.out
            have HY2 := Lib.hid (HS2.out _ HE.out.bel)
            generalize blanksS k2 = O at *
            have s1 : ¬ 9223372036854775807 < O.size + s.size := by omega
            have s2 : ¬ 9223372036854775807 < k2 + s.size := by omega
            clear hz HS2 hk2 hlt2
            go_wp2_with fail
            refine HY2.out.mono ?_
            rintro e w3 ⟨a3, c3, rfl, hc3, hm3, hA3, hb3⟩
            have HEa := Lib.hid (HE.out.later hb3)
            have HGa := Lib.hid (PlE.new (w := w) (p := (z0 : Int)) (c := z1) hA3 HEa.out.bel)
            obtain ⟨w4, hw4⟩ : ∃ w4, w3.alloc (.cells #[.int .i64 (z0 : Int), .int .i64 z1] 26) = w4 := ⟨_, rfl⟩
            have hbA : Below w3.heap.size w3 w4 := by rw [← hw4]; exact (Below.refl _ w3).alloc (Nat.le_refl _) _
            rw [hw4] at HGa
            have HEb := Lib.hid (HEa.out.later hbA)
            have f0 := HEb.out.f0
            have f1 := HEb.out.f1
            have g0 := HGa.out.f0
            have g1 := HGa.out.f1
            obtain ⟨C, hC⟩ : ∃ C, w3.heap.size = C := ⟨_, rfl⟩
            rw [hC] at HGa g0 g1
            clear hA3 hb3 hbA HY2 s1 s2
            have qmm : ((m : Int) != (m : Int)) = false := by simp
            go_wp2_with fail
            refine (HAl.out _ HGa.out.bel).mono ?_
            rintro e w5 ⟨rfl, hb5⟩
            have HEc := Lib.hid (HEb.out.later hb5)
            have HGc := Lib.hid (HGa.out.later hb5)
            clear hb5 f0 f1 g0 g1 hw4 hC
            have f1 := HEc.out.f1
            have HY3 := Lib.hid (HSm.out _ _ c1 c3 w5 HEc.out.arr HGc.out.arr)
            go_wp2_with fail
            refine HY3.out.mono ?_
            rintro e w6 ⟨rfl, hb6⟩
            have HB6 := Lib.hid (HEc.out.bel.trans (hb6.mono HEc.out.bel.size))
            clear hb6 HY3 f1
            go_wp2
            go_ret
            exact ⟨ret_b (by first | rfl | simp), HB6.out⟩
  · have qc1 : (c != 0) = true := by simpa using h0
    have qc0 : (c == 0) = false := by simpa using h0
    rw [if_neg h0] at hup
    have hT0 := hat.2.1 h0
    have hps := hat.2.2
    subst hT0
    have hv2 : ∃ p2, readV19 (blanksS n ++ s) = ([], p2, c) ∧ (c = 40 → p2 = n + p) := by
      rw [hup]
      by_cases hd : (decS (bytesU s)).isSome = false
      · rw [if_pos hd]
        have := hdec hd
        injection this with _ h5
        injection h5 with h6 h7
        exact ⟨0, by rw [h7], fun h => by rw [h7] at h; cases h⟩
      · rw [if_neg hd]; exact ⟨_, rfl, fun _ => rfl⟩
    obtain ⟨p2, hv2, hp2⟩ := hv2
    rw [hv2] at HS2
    have qp0 : decide ((p : Int) < 0) = false := by simp
    have qps : decide ((s.size : Int) < (p : Int)) = false := by simp; omega
    clear h0 hat hup hdec hv h1 h2 h3 HRd hv2
    unfold RetRd19 at HY HS2
    try simp only [List.length_nil] at HY
    try simp only [List.length_nil] at HS2
    go_enter Tryd.func4, Tryd.ntmps4
    go_wp2_with fail
    refine HY.out.mono ?_
    rintro e w1 ⟨a1, c1, rfl, hc1, hm1, hA1, hb1⟩
    have HE := Lib.hid (PlE.new (p := (p : Int)) (c := c) hA1 hb1)
    obtain ⟨B, hB⟩ : ∃ B, w1.heap.size = B := ⟨_, rfl⟩
    obtain ⟨wr, hw2⟩ : ∃ w2, w1.alloc (.cells #[.int .i64 (p : Int), .int .i64 c] 26) = w2 := ⟨_, rfl⟩
    rw [hw2, hB] at HE
    have f0 := HE.out.f0
    have f1 := HE.out.f1
    clear hA1 hb1 HY
    go_wp2
    clear f0 f1 hw2 hB
    go_loopw [8, 9] (fun v i wq => ∃ k2 : Nat, k2 ≤ n ∧ v = .string (blanksS k2) ∧ i = .int .i64 (k2 : Int) ∧ wq = wr) (fun _ i _ => n - (intOf i).toNat)
    case atStart => exact ⟨0, by omega, by rw [HB0.out], rfl, rfl⟩
    case round =>
      obtain ⟨k2, hk2, rfl, rfl, rfl⟩ := hrel
      by_cases hlt2 : k2 < n
      · have hz2 := hz k2
        have HSt := Lib.hid (HBs.out k2)
        generalize blanksS k2 = O at *
        have s1 : ¬ 9223372036854775807 < O.size + 1 := by omega
        have s2 : ¬ 9223372036854775807 < k2 + 1 := by omega
        have ql : decide ((k2 : Int) < (n : Int)) = true := by simp; omega
        clear hz
        go_wp2
        go_roundw
        case rel => exact ⟨k2 + 1, by omega, by rw [HSt.out], by go_num, (by first | rfl | trivial)⟩
        case measure => (simp [intOf] <;> try omega)
      · have hkn : k2 = n := by omega
        subst hkn
        have ql : decide ((k2 : Int) < (k2 : Int)) = false := by simp
        have hzn := hz k2
        have hPs := HPs.out
        have HY2 := Lib.hid (HS2.out _ HE.out.bel)
        generalize blanksS k2 = O at *
        have s1 : ¬ 9223372036854775807 < O.size + s.size := by omega
        have s2 : ¬ 9223372036854775807 < k2 + s.size := by omega
        clear hz HS2 hk2 hlt2
        go_wp2_with fail
        refine HY2.out.mono ?_
        rintro e w3 ⟨a3, c3, rfl, hc3, hm3, hA3, hb3⟩
        have HEa := Lib.hid (HE.out.later hb3)
        have HGa := Lib.hid (PlE.new (w := w) (p := (p2 : Int)) (c := c) hA3 HEa.out.bel)
        obtain ⟨w4, hw4⟩ : ∃ w4, w3.alloc (.cells #[.int .i64 (p2 : Int), .int .i64 c] 26) = w4 := ⟨_, rfl⟩
        have hbA : Below w3.heap.size w3 w4 := by rw [← hw4]; exact (Below.refl _ w3).alloc (Nat.le_refl _) _
        rw [hw4] at HGa
        have HEb := Lib.hid (HEa.out.later hbA)
        have f0 := HEb.out.f0
        have f1 := HEb.out.f1
        have g0 := HGa.out.f0
        have g1 := HGa.out.f1
        obtain ⟨C, hC⟩ : ∃ C, w3.heap.size = C := ⟨_, rfl⟩
        rw [hC] at HGa g0 g1
        clear hA3 hb3 hbA HY2 s1 s2
        have qcc : (c != c) = false := by simp
        by_cases hc40 : c = 40
        · have q40 : (c == 40) = true := by simpa using hc40
          have hpp := hp2 hc40
          have wp : IntKind.i64.wrap ((p2 : Int) - (k2 : Int)) = (p : Int) := by rw [show (p2 : Int) - (k2 : Int) = (p : Int) by omega]; exact IntWalk.i64_in _ (by omega)
          have wp2 : (p2 : Int) - (k2 : Int) = (p : Int) := by omega
          have qpp : ((p : Int) != (p : Int)) = false := by simp
          clear hc40 hp2 hpp
          go_wp2_with fail
          refine (HAl.out _ HGa.out.bel).mono ?_
          rintro e w5 ⟨rfl, hb5⟩
          have HEc := Lib.hid (HEb.out.later hb5)
          clear hb5 f0 f1 g0 g1 hw4 hC
          have f1 := HEc.out.f1
          go_wp2
          go_ret
          exact ⟨ret_b (by first | rfl | simp), HEc.out.bel⟩
        · have q40 : (c == 40) = false := by simpa using hc40
          clear hc40 hp2
          go_wp2_with fail
          refine (HAl.out _ HGa.out.bel).mono ?_
          rintro e w5 ⟨rfl, hb5⟩
          have HEc := Lib.hid (HEb.out.later hb5)
          clear hb5 f0 f1 g0 g1 hw4 hC
          have f1 := HEc.out.f1
          go_wp2
          go_ret
          exact ⟨ret_b (by first | rfl | simp), HEc.out.bel⟩
end Go.Proofs.YtbnddpicpomakaaDoor

/- Go's tables of UTF-8, out of what the card lists. -/
set_option linter.unusedSimpArgs false
set_option linter.unusedVariables false
set_option maxRecDepth 100000
namespace Go.Proofs.YtbnddpicpomakaaDoor
open Go Go.Lib Go.Shelf

theorem tabs_of {P : Program} {ρ : Ren} (L : Lays.n196 P ρ) {nm3 nm4 : String} (n3 : P.globalNamed nm3 = some (ρ.g 3)) (n4 : P.globalNamed nm4 = some (ρ.g 4)) (y3 : (P.globals[ρ.g 3]?).map (·.type) = some (ρ.t 119)) (y4 : (P.globals[ρ.g 4]?).map (·.type) = some (ρ.t 139))
    (c5 : P.cellsOf (ρ.t 5) = 1) (c119 : P.cellsOf (ρ.t 119) = 256) (c138 : P.cellsOf (ρ.t 138) = 2) {w : World} (h3 : VarReads P w nm3 firstData) (h4 : VarReads P w nm4 acceptData) : Lib.Utf8Tabs (ρ.g 3) (ρ.g 4) w := by
  refine ⟨fun c hc => ?_, fun i hi => ?_⟩
  · obtain ⟨g, t, cs, fuel, p, hg, hty, hvar, hd⟩ := h3
    obtain rfl := Option.some.inj (n3.symm.trans hg)
    obtain rfl := Option.some.inj (y3.symm.trans hty)
    have hcs := cells_of_tab L.t119 L.t5 c5 c119 hd
    have := World.var?_cell hg hvar c
    rw [this, ← Array.getElem?_toList, hcs]
    simp [firstTab, hc]
  · obtain ⟨g, t, cs, fuel, p, hg, hty, hvar, hd⟩ := h4
    obtain rfl := Option.some.inj (n4.symm.trans hg)
    obtain rfl := Option.some.inj (y4.symm.trans hty)
    obtain ⟨fuel', d, q, hdi, he⟩ := array_elem L.t139 hd i hi
    simp only [List.getElem?_map, List.getElem?_range hi, Option.map_some, Option.some.injEq] at hdi
    subst hdi
    rw [c138] at he
    have hcs := ints_of_struct L.t138 (fun j f hj => by
      match j, hj with
      | 0, hj => simp at hj; subst hj; exact ⟨L.t5, rfl, c5⟩
      | 1, hj => simp at hj; subst hj; exact ⟨L.t5, rfl, c5⟩
      | j + 2, hj => simp at hj) (by rw [c138]; rfl) he
    have e0 := congrArg (·[0]?) hcs
    have e1 := congrArg (·[1]?) hcs
    simp only [List.getElem?_take, List.getElem?_drop] at e0 e1
    constructor
    · rw [World.var?_cell hg hvar (2 * i), ← Array.getElem?_toList]
      simpa [Nat.mul_comm] using e0
    · rw [World.var?_cell hg hvar (2 * i + 1), ← Array.getElem?_toList]
      simpa [Nat.mul_comm] using e1

theorem first_eq : Rows.laid_unicode_utf8_first = firstData := Pinned.utf8First_eq
theorem accept_eq : (Rows.laid_unicode_utf8_acceptRanges : DataW Unit) = acceptData := by kernel_rfl

/-- The two tables, where the listed variables read as the card has them. -/
theorem tabs_laid {l : List (String × DataW Unit)} {w : World} (h : laidMet Tryd.prog l w) {nm3 nm4 : String} (m3 : (nm3, Rows.laid_unicode_utf8_first) ∈ l) (m4 : (nm4, (Rows.laid_unicode_utf8_acceptRanges : DataW Unit)) ∈ l)
    (n3 : Tryd.prog.globalNamed nm3 = some (Tryd.laysValid_ren.g 3)) (n4 : Tryd.prog.globalNamed nm4 = some (Tryd.laysValid_ren.g 4)) : Tabs w :=
  tabs_of Tryd.laysValid n3 n4 (by kernel_rfl) (by kernel_rfl) (by kernel_rfl) (by kernel_rfl) (by kernel_rfl) (first_eq ▸ Lib.laidMet.reads h m3) (accept_eq ▸ Lib.laidMet.reads h m4)
end Go.Proofs.YtbnddpicpomakaaDoor

/- What the package's variables hold, out of what the card lists; and the wrap that hands the world's shape too. -/
set_option linter.unusedSimpArgs false
set_option linter.unusedVariables false
set_option maxRecDepth 100000
namespace Go.Proofs.YtbnddpicpomakaaDoor
set_option linter.unusedSimpArgs false
open Go Go.Lib Go.Shelf Go.RowKit Go.ChangeShapes

theorem star5 : "*" ++ "errors.errorString" = "*errors.errorString" := by decide
theorem row5 (u : TypeId) (h : Tryd.prog.typeName? 3 u = some "*errors.errorString") : u = 150 :=
  typeName_ptr_named (nm := "errors.errorString") (by rw [star5]; kernel_rfl) (by kernel_rfl) (by decide) u (by rw [star5]; exact h)

theorem pow_eq : Rows.laid_internal_strconv_uint64pow10 = tabData (H := Unit) .u64 Lib.pow10Tab := by kernel_rfl

theorem pow_reads {P : Program} {w : World} {nm : String} {t e : TypeId} {g : Nat} (hg : P.globalNamed nm = some g) (hty : (P.globals[g]?).map (·.type) = some t) (ht : P.underlying t = some (.array 20 e)) (he : P.underlying e = some (.int .u64)) (hce : P.cellsOf e = 1) (hct : P.cellsOf t = 20)
    (h : VarReads P w nm (tabData .u64 Lib.pow10Tab)) : Lib.TabIs P w nm .u64 Lib.pow10Tab := by
  obtain ⟨g', t', cs, fuel, p, hg', ht', hvar, hd⟩ := h
  obtain rfl := Option.some.inj (hg.symm.trans hg')
  obtain rfl := Option.some.inj (hty.symm.trans ht')
  unfold TabIs
  rw [hvar, ← cells_of_tab ht he hce hct hd]

theorem pre4_laid {l : List (String × DataW Unit)} {w : World} (h : laidMet Tryd.prog l w) (hsh : w.ShapedOpen Tryd.prog) {nm3 nm4 : String} (m2 : (powName, Rows.laid_internal_strconv_uint64pow10) ∈ l) (m3 : (nm3, Rows.laid_unicode_utf8_first) ∈ l) (m4 : (nm4, (Rows.laid_unicode_utf8_acceptRanges : DataW Unit)) ∈ l)
    (n3 : Tryd.prog.globalNamed nm3 = some (Tryd.laysValid_ren.g 3)) (n4 : Tryd.prog.globalNamed nm4 = some (Tryd.laysValid_ren.g 4)) : Pre4 w where
  tabs := tabs_laid h m3 m4 n3 n4
  maxlen := Tryd.laysRepl.s1_3 w hsh
  pow := pow_reads (g := (Tryd.prog.globalNamed powName).getD 0) (t := 140) (e := 113) (by kernel_rfl) (by kernel_rfl) Tryd.underlying140 Tryd.underlying113 (by kernel_rfl) (by kernel_rfl) (pow_eq ▸ Lib.laidMet.reads h m2)

theorem pre5_laid {x0 x1 x5 : String × DataW Unit} {nm3 nm4 nm5 : String} {r : List (String × DataW Unit)} {w : World} (h : laidMet Tryd.prog (x0 :: x1 :: (powName, Rows.laid_internal_strconv_uint64pow10) :: (nm4, (Rows.laid_unicode_utf8_acceptRanges : DataW Unit)) :: (nm5, Rows.laid_strconv_ErrRange) :: x5 :: (nm3, Rows.laid_unicode_utf8_first) :: r) w) (hsh : w.ShapedOpen Tryd.prog)
    (n3 : Tryd.prog.globalNamed nm3 = some (Tryd.laysValid_ren.g 3)) (n4 : Tryd.prog.globalNamed nm4 = some (Tryd.laysValid_ren.g 4)) (n5 : Tryd.prog.globalNamed nm5 = some (Tryd.laysParse_ren.g 16)) : Pre5 w where
  toPre4 := pre4_laid h hsh (List.Mem.tail _ (List.Mem.tail _ (List.Mem.head _))) (List.Mem.tail _ (List.Mem.tail _ (List.Mem.tail _ (List.Mem.tail _ (List.Mem.tail _ (List.Mem.tail _ (List.Mem.head _))))))) (List.Mem.tail _ (List.Mem.tail _ (List.Mem.tail _ (List.Mem.head _)))) n3 n4
  rng := by
    obtain ⟨a, s, hv, _⟩ := laid_sentinel h.tail.tail.tail.tail (g := Tryd.laysParse_ren.g 16) (ti := 85) (tp := 150) (te := 152) (ts := 9) n5 (by kernel_rfl) Tryd.underlying85 row5 Tryd.underlying150 Tryd.underlying152 rfl rfl Tryd.underlying9 (by kernel_rfl) (by kernel_rfl)
    exact ⟨_, by simpa using World.var?_cell n5 hv 0, .inr ⟨_, _, rfl⟩⟩

section
variable {H : Type} {enc : TypeId × Value → H}

/-- As the wrap of a row with a premise of its own; it hands the contract the world's shape too. -/
theorem handed_change_shaped {a : Assume} {C : Checked} {os : Os} {f : FuncId} {fn : Func} {s : ChangeSpec} {conds : List PathCond} {apart fresh handsOn again : Bool} {X : World → Array Value → Prop}
    (hX : ∀ (w w' : World) (args : Array Value), w.heap = w'.heap → X w args → X w' args)
    (own : ownKnob C.prog.godebug = none) (started : os.Started) (noInit : C.prog.inits.idxOf? f = none) (hfn : C.prog.funcs[f]? = some fn)
    (witness : ∃ (w : World) (tape : Tape) (i : Input), w.os = os ∧ (w.forCall tape i).Shaped C.prog ∧ i.vars = [] ∧ Input.okWide C.prog (w.forCall tape i) .any w.heap.size f i ∧
      ((s.pre enc C.prog fn conds apart (w.forCall tape i).memory i.args ∧ X (w.forCall tape i).memory i.args) ∧ sizedMet enc C.prog fn (OpenSpec.ofChange s) apart (w.forCall tape i).memory i.args) ∧ a.holds C.prog (lone (Frame.enter C.prog f i.args .normal) [] (w.forCall tape i)))
    (contract : ∀ (W : World) (base : Nat) (args : Array Value) (ds gs : List (DataW H)) (before : List MemPlace),
      (∀ (j : Nat) t v, fn.params[j]? = some t → args[j]? = some v → Value.okWide C.prog W .any base t v) →
      DataW.Whole enc C.prog fn.params.toList s.vars apart W args.toList ds gs before →
      conds.all (PathCond.test C.prog ⟨fn.params.toList, ds, s.plain.varTypes C.prog, gs⟩) = true →
      (DataW.weightsEach C.prog (fn.params.toList ++ s.plain.varTypes C.prog) (ds ++ gs)).all (· ≤ reachBytes) = true → X W args → W.ShapedOpen C.prog →
      a.holds C.prog (lone (Frame.enter C.prog f args .normal) [] W) →
      Calls C.prog f args W fun e W' => ∃ v, e = .returned v ∧ s.post enc C.prog fn apart fresh handsOn again W args v W') :
    ReturnsInHanded a C os f .any (fun w args => (s.pre enc C.prog fn conds apart w args ∧ X w args) ∧ sizedMet enc C.prog fn (OpenSpec.ofChange s) apart w args) (s.post enc C.prog fn apart fresh handsOn again) := by
  refine returnsInHanded_of_calls own started noInit witness ?_
  intro w tape i _ hsh _ hok hpre hholds
  obtain ⟨_, _, _, fn', hfn', _, _, _, _, hval⟩ := hok
  have e : fn' = fn := Option.some.inj (hfn'.symm.trans hfn)
  subst e
  obtain ⟨⟨⟨ds, gs, before, hw, hc⟩, hx⟩, hz⟩ := hpre
  have hw' := DataW.Whole.of_heap (w' := w.forCall tape i) (by rfl) hw
  refine (contract (w.forCall tape i) w.heap.size i.args ds gs before hval hw' hc (hz.weights hw) (hX _ _ _ (by rfl) hx) hsh hholds).mono fun e W' ⟨v, he, hp⟩ => ?_
  subst he
  exact ChangeSpec.post_blind hp
end
end Go.Proofs.YtbnddpicpomakaaDoor

/- The package's variables for token's laws. -/
set_option linter.unusedSimpArgs false
set_option linter.unusedVariables false
set_option maxRecDepth 100000
namespace Go.Proofs.YtbnddpicpomakaaDoor
open Go Go.Lib Go.Shelf Go.RowKit Go.ChangeShapes

theorem pre6_laid {x0 x1 : String × DataW Unit} {nm3 nm4 nm5 nm6 : String} {r : List (String × DataW Unit)} {w : World} (h : laidMet Tryd.prog (x0 :: x1 :: (powName, Rows.laid_internal_strconv_uint64pow10) :: (nm4, (Rows.laid_unicode_utf8_acceptRanges : DataW Unit)) :: (nm5, Rows.laid_strconv_ErrRange) :: (nm6, Rows.laid_strconv_ErrSyntax) :: (nm3, Rows.laid_unicode_utf8_first) :: r) w) (hsh : w.ShapedOpen Tryd.prog)
    (n3 : Tryd.prog.globalNamed nm3 = some (Tryd.laysValid_ren.g 3)) (n4 : Tryd.prog.globalNamed nm4 = some (Tryd.laysValid_ren.g 4)) (n5 : Tryd.prog.globalNamed nm5 = some (Tryd.laysParse_ren.g 16)) (n6 : Tryd.prog.globalNamed nm6 = some (Tryd.laysTo_ren.g 15)) : Pre6 w where
  toPre5 := pre5_laid h hsh n3 n4 n5
  syn := by
    obtain ⟨a, s, hv, _⟩ := laid_sentinel h.tail.tail.tail.tail.tail (g := Tryd.laysTo_ren.g 15) (ti := 85) (tp := 150) (te := 152) (ts := 9) n6 (by kernel_rfl) Tryd.underlying85 row5 Tryd.underlying150 Tryd.underlying152 rfl rfl Tryd.underlying9 (by kernel_rfl) (by kernel_rfl)
    exact ⟨_, by simpa using World.var?_cell n6 hv 0, .inr ⟨_, _, rfl⟩⟩
end Go.Proofs.YtbnddpicpomakaaDoor
