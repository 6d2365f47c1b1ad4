/- Several texts of one proof, one behind the other. -/
import Derived.Test.YtbnddpicpomakaaGreatDoorMPk13
import Derived.Lib.Hide
set_option linter.unusedSimpArgs false
set_option linter.unusedVariables false

/- The walk of token.Same, of tokens that are alike. -/
set_option linter.unusedSimpArgs false
set_option linter.unusedVariables false
set_option maxRecDepth 100000
namespace Go.Proofs.YtbnddpicpomakaaGreatDoor
open Go.RowKit

theorem eqTk (kd n at_ : Int) (tx : ByteArray) (W : World) : (Op.equalIn 10000 36 (.agg #[.int .i64 kd, .int .i64 at_, .string tx, .int .i64 n]) (.agg #[.int .i64 kd, .int .i64 at_, .string tx, .int .i64 n])).run Tryz.prog W = .ok true W := by
  have hS : Tryz.prog.underlying 36 = some (.struct (Tryz.prog.fieldsOf 36)) := by kernel_rfl
  have hp : Tryz.prog.stoodInHeld 36 = false := by kernel_rfl
  rw [show (10000 : Nat) = 9999 + 1 from rfl, run_equalIn_agg W 9999 36 _ _ hS hp]
  simp only [Program.fieldsOf, Tryz.underlying36]
  go_simp
@[go_sem] theorem eqGuardTk : Tryz.prog.eqGuardType Tryz.prog.depth 36 = false := by kernel_rfl

set_option maxHeartbeats 2000000 in
theorem same1_any (kd n a1 a2 : Int) (tx : ByteArray) (w : World) :
    Calls Tryz.prog 39 #[.agg #[.int .i64 kd, .int .i64 a1, .string tx, .int .i64 n], .agg #[.int .i64 kd, .int .i64 a2, .string tx, .int .i64 n]] w fun e w' => e = .returned (.bool true) ∧ Below w.heap.size w w' := by
  have hE := eqTk kd n a2 tx
  have hB1 : Blk (w.alloc (.cells #[.int .i64 kd, .int .i64 a1, .string tx, .int .i64 n] 36)) w.heap.size 36 #[.int .i64 kd, .int .i64 a1, .string tx, .int .i64 n] := Blk.new w _ _
  have hs1 : (w.alloc (.cells #[.int .i64 kd, .int .i64 a1, .string tx, .int .i64 n] 36)).heap.size = w.heap.size + 1 := by simp
  obtain ⟨w1, hw1⟩ : ∃ w1, w.alloc (.cells #[.int .i64 kd, .int .i64 a1, .string tx, .int .i64 n] 36) = w1 := ⟨_, rfl⟩
  have hb1 : Below w.heap.size w w1 := by rw [← hw1]; exact (Below.refl _ w).alloc (Nat.le_refl _) _
  rw [hw1] at hB1 hs1
  have hB2 : Blk (w1.alloc (.cells #[.int .i64 kd, .int .i64 a2, .string tx, .int .i64 n] 36)) w1.heap.size 36 #[.int .i64 kd, .int .i64 a2, .string tx, .int .i64 n] := Blk.new w1 _ _
  have hB1' := hB1.alloc (.cells #[.int .i64 kd, .int .i64 a2, .string tx, .int .i64 n] 36)
  obtain ⟨w2, hw2⟩ : ∃ w2, w1.alloc (.cells #[.int .i64 kd, .int .i64 a2, .string tx, .int .i64 n] 36) = w2 := ⟨_, rfl⟩
  have hb2 : Below w1.heap.size w1 w2 := by rw [← hw2]; exact (Below.refl _ w1).alloc (Nat.le_refl _) _
  rw [hw2] at hB2 hB1'
  have pc := (hB1'.cell 1).trans rfl
  have pf := hB1'.frozen 1
  have pl := hB1'.lt
  have y1 := (hB2.cell 1).trans rfl
  have hB3 : Blk (w2.setCell ⟨w.heap.size, 1, none⟩ (.int .i64 a2)) w.heap.size 36 #[.int .i64 kd, .int .i64 a2, .string tx, .int .i64 n] := hB1'.set_ 1 _
  have hc3 : Chg [w.heap.size] w2 (w2.setCell ⟨w.heap.size, 1, none⟩ (.int .i64 a2)) := (Chg.refl _ _).setCell (.inl (by simp)) _
  obtain ⟨w3, hw3⟩ : ∃ w3, w2.setCell ⟨w.heap.size, 1, none⟩ (.int .i64 a2) = w3 := ⟨_, rfl⟩
  rw [hw3] at hB3 hc3
  have hB4 : Blk w3 w1.heap.size 36 #[.int .i64 kd, .int .i64 a2, .string tx, .int .i64 n] := (hc3.block _ hB2.lt (by rw [List.mem_singleton]; omega)).trans hB2
  have x0 := (hB3.cell 0).trans rfl
  have x1 := (hB3.cell 1).trans rfl
  have x2 := (hB3.cell 2).trans rfl
  have x3 := (hB3.cell 3).trans rfl
  have z0 := (hB4.cell 0).trans rfl
  have z1 := (hB4.cell 1).trans rfl
  have z2 := (hB4.cell 2).trans rfl
  have z3 := (hB4.cell 3).trans rfl
  have HB3 : Hid (Below w.heap.size w w3) := (hb1.trans (hb2.mono hb1.size)).trans (hc3.below (Nat.le_trans hb1.size hb2.size) (by simp))
  clear hB1 hB2 hB1' hb1 hb2 hB3 hB4 hc3 hs1
  go_enter Tryz.func39, Tryz.ntmps39
  go_wp2
  go_ret
  exact ⟨ret_b (by first | rfl | simp), HB3.out⟩

set_option maxHeartbeats 2000000 in
theorem tkSame_any (L M : List Tk) (a b : Option Addr) (c d : Nat) (w : World) (hL : Arr w.heap.size w a (cellsTk L)) (hM : Arr w.heap.size w b (cellsTk M)) (hlen : L.length = M.length) (hbd : L.length ≤ 1000000)
    (hlike : ∀ k (h1 : k < L.length) (h2 : k < M.length), L[k].kd = M[k].kd ∧ L[k].tx = M[k].tx ∧ L[k].n = M[k].n) :
    Calls Tryz.prog 38 #[.slice a L.length c, .slice b M.length d, .func (.func 39) #[] #[]] w fun e w' => e = .returned (.bool true) ∧ Below w.heap.size w w' := by
  obtain ⟨m, hm⟩ : ∃ m, L.length = m := ⟨_, rfl⟩
  have hm2 : M.length = m := hlen.symm.trans hm
  have HL := Lib.hid hL
  have HM := Lib.hid hM
  have HK := Lib.hid hlike
  have HLm := Lib.hid hm
  have HMm := Lib.hid hm2
  have hmm : ((m : Int) != (m : Int)) = false := by simp
  rw [hm] at hbd
  rw [hm, hm2]
  clear hL hM hlen hlike hm hm2
  go_enter Tryz.func38, Tryz.ntmps38
  go_wp2
  clear hmm
  go_loopw [17] (fun i wr => ∃ k : Nat, k ≤ m ∧ i = .int .i64 k ∧ Hid (Below w.heap.size w wr)) (fun i _ => m - (intOf i).toNat)
  case atStart => exact ⟨0, by omega, rfl, Below.refl _ _⟩
  case round =>
    obtain ⟨k, hk, rfl, HBr⟩ := hrel
    by_cases hlt : k < m
    · have hkl : k < L.length := by rw [HLm.out]; exact hlt
      have hkm : k < M.length := by rw [HMm.out]; exact hlt
      obtain ⟨b1, o1, hab, hbN, t0, t1, t2, t3⟩ := tkAt (HL.out.below HBr.out) hkl
      obtain ⟨e1, e2, e3⟩ := HK.out k hkl hkm
      generalize L[k] = x at *
      subst hab
      have hbx := (Below.refl wr.heap.size wr).alloc (Nat.le_refl _) (.cells #[.int .i64 x.kd, .int .i64 x.at_, .string x.tx, .int .i64 x.n] 36)
      obtain ⟨w1, hw1⟩ : ∃ w1, wr.alloc (.cells #[.int .i64 x.kd, .int .i64 x.at_, .string x.tx, .int .i64 x.n] 36) = w1 := ⟨_, rfl⟩
      have hX := Slot4.new wr 36 (.int .i64 x.kd) (.int .i64 x.at_) (.string x.tx) (.int .i64 x.n)
      have hs1 : wr.heap.size < w1.heap.size := by rw [← hw1]; simp
      rw [hw1] at hbx hX
      have hb1 := HBr.out.trans (hbx.mono HBr.out.size)
      obtain ⟨b2, o2, hab2, hbN2, u0, u1, u2, u3⟩ := tkAt (HM.out.below hb1) hkm
      rw [← e1] at u0
      rw [← e2] at u2
      rw [← e3] at u3
      generalize M[k].at_ = y at *
      subst hab2
      have hby := (Below.refl w1.heap.size w1).alloc (Nat.le_refl _) (.cells #[.int .i64 x.kd, .int .i64 y, .string x.tx, .int .i64 x.n] 36)
      have hY := Slot4.new w1 36 (.int .i64 x.kd) (.int .i64 y) (.string x.tx) (.int .i64 x.n)
      obtain ⟨w2, hw2⟩ : ∃ w2, w1.alloc (.cells #[.int .i64 x.kd, .int .i64 y, .string x.tx, .int .i64 x.n] 36) = w2 := ⟨_, rfl⟩
      rw [hw2] at hby hY
      have hX2 := hX.later hs1 hby
      obtain ⟨x0, x1, x2, x3⟩ := hX2
      obtain ⟨y0, y1, y2, y3⟩ := hY
      have HB2 := Lib.hid (hb1.trans (hby.mono hb1.size))
      have HY := Lib.hid (same1_any x.kd x.n x.at_ y x.tx w2)
      clear hbx hby hX hb1 e1 e2 e3 hkl hkm
      go_wp2_with fail
      refine HY.out.mono ?_
      rintro e w3 ⟨rfl, hb3⟩
      have HB3 := Lib.hid (HB2.out.trans (hb3.mono HB2.out.size))
      clear hb3 HY x0 x1 x2 x3 y0 y1 y2 y3 t0 t1 t2 t3 u0 u1 u2 u3
      go_wp2
      go_roundw
      case rel => exact ⟨k + 1, by omega, by go_num, HB3.out⟩
      case measure => simp [intOf]; omega
    · have q0 : decide ((k : Int) < (m : Int)) = false := by simp; omega
      go_wp2
      go_ret
      exact ⟨rfl, HBr.out⟩
theorem tkSm_any (L M : List Tk) (a b : Option Addr) (c d : Nat) (w : World) (hL : Arr w.heap.size w a (cellsTk L)) (hM : Arr w.heap.size w b (cellsTk M)) (hlen : L.length = M.length) (hbd : L.length ≤ 1000000)
    (hlike : ∀ k (h1 : k < L.length) (h2 : k < M.length), L[k].kd = M[k].kd ∧ L[k].tx = M[k].tx ∧ L[k].n = M[k].n) :
    Calls Tryz.prog 14 #[.slice a L.length c, .slice b M.length d] w fun e w' => e = .returned (.bool true) ∧ Below w.heap.size w w' := by
  have HS := Lib.hid (tkSame_any L M a b c d w hL hM hlen hbd hlike)
  clear hL hM hlen hlike hbd
  generalize L.length = m at *
  generalize M.length = q at *
  go_enter Tryz.func14, Tryz.ntmps14
  go_wp2_with fail
  refine HS.out.mono ?_
  rintro e w1 ⟨rfl, hb⟩
  have HB := Lib.hid hb
  clear hb
  go_wp2
  go_ret
  exact ⟨rfl, HB.out⟩
end Go.Proofs.YtbnddpicpomakaaGreatDoor

/- Rows of tokens that come in; the walks of law 19's Great and as. -/
set_option linter.unusedSimpArgs false
set_option linter.unusedVariables false
set_option maxRecDepth 100000
namespace Go.Proofs.YtbnddpicpomakaaGreatDoor
open Go.RowKit Go.ChangeShapes Go.WideShapes Go.Deep Go.Joins

/-- The numbers of a token that came in. -/
structure Tk.nums (t : Tk) : Prop where
  kd : -9223372036854775808 ≤ t.kd ∧ t.kd ≤ 9223372036854775807
  at_ : -9223372036854775808 ≤ t.at_ ∧ t.at_ ≤ 9223372036854775807
  n : -9223372036854775808 ≤ t.n ∧ t.n ≤ 9223372036854775807
/-- What the walk is told of a slice of tokens that came in. -/
structure ToksIn (w : World) (a : Option Addr) (len cap : Nat) (z : List Tk) : Prop where
  hlen : len = z.length
  hcap : len ≤ cap
  hmax : cap ≤ 9223372036854775807
  arr : Arr w.heap.size w a (cellsTk z)
  fair : ∀ t ∈ z, t.nums

set_option maxRecDepth 100000 in
theorem open_toks {H : Type} {enc : TypeId × Value → H} {w : World} {r : Reach} {b0 : Nat} {v : Value} {d : DataW H} {p : List MemPlace} (hv : Value.okWide Tryz.prog w r b0 23 v) (h : DataW.Trod enc Tryz.prog w 0 (fun _ => true) true 23 v d p) :
    ∃ (a : Option Addr) (len cap : Nat) (z : List Tk), v = .slice a len cap ∧ ToksIn w a len cap z := by
  obtain ⟨a, len, cap, rfl⟩ := okWide_slice Tryz.underlying23 hv
  obtain ⟨fuel, hf⟩ := h
  rcases open_slice Tryz.underlying23 hf with ⟨hcs, _⟩ | ⟨x, l, c, m, n, D, Pl, hcs, _, hl, hm, hmm, _, hi⟩
  · simp [Value.cells] at hcs
    obtain ⟨rfl, rfl, rfl⟩ := hcs
    exact ⟨none, 0, 0, [], rfl, rfl, by omega, by omega, .inl rfl, by simp⟩
  · simp [Value.cells] at hcs
    obtain ⟨rfl, rfl, rfl⟩ := hcs
    have hC : Tryz.prog.cellsOf 36 = 4 := by kernel_rfl
    unfold maxLen at hm
    have hmc : m = cap := by simpa using hmm
    obtain ⟨L, h1, h2, h3⟩ := row_of Tk.cells 4 (by decide) (fun _ => rfl) Tk.nums w x len (fun i => by
      obtain ⟨cs', hc', ht'⟩ := hi i.1 (by have := i.2; omega)
      rw [hC] at hc'
      obtain ⟨_, hlen, hat⟩ := World.cells?_some hc'
      obtain ⟨y0, y1, y2, y3, n', _, _, h0, h1, h2, h3⟩ := trod_struct4 Tryz.underlying36 ht'
      match cs', hlen with
      | [v0, v1, v2, v3], _ =>
        have g0 : DataW.trod enc Tryz.prog w 0 (fun _ => true) true n' 3 [v0] = some y0 := h0
        have g1 : DataW.trod enc Tryz.prog w 0 (fun _ => true) true n' 3 [v1] = some y1 := h1
        have g2 : DataW.trod enc Tryz.prog w 0 (fun _ => true) true n' 9 [v2] = some y2 := h2
        have g3 : DataW.trod enc Tryz.prog w 0 (fun _ => true) true n' 2 [v3] = some y3 := h3
        obtain ⟨kd, e0, -, w0⟩ := DataW.trod_int Tryz.underlying3 g0
        obtain ⟨at_, e1, -, w1⟩ := DataW.trod_int Tryz.underlying3 g1
        obtain ⟨s, e2, -, w2⟩ := DataW.trod_string Tryz.underlying9 g2
        obtain ⟨n, e3, -, w3⟩ := DataW.trod_int Tryz.underlying2 g3
        simp only [List.cons.injEq, and_true] at e0 e1 e2 e3
        subst e0 e1 e2 e3
        have hz0 := bd_i64 w0
        have hz1 := bd_i64 w1
        have hz3 := bd_i64 w3
        unfold maxLen at w2
        exact ⟨⟨kd, at_, s, n⟩, ⟨hz0, hz1, hz3⟩, fun j v hj => by rw [hat j (by have := (List.getElem?_eq_some_iff.1 hj).1; simpa [Tk.cells] using this)]; exact hj⟩)
    exact ⟨some x, len, cap, L, rfl, h1.symm, hl, by omega, h2, h3⟩

/-- Not too much for the statement. -/
def SmallTk (l : List Tk) : Prop := l.length ≤ 200 ∧ ∀ t ∈ l, t.tx.size ≤ 300
set_option maxHeartbeats 2000000 in
theorem great19_any (l : List Tk) (a : Option Addr) (cap : Nat) (w : World) (h : Arr w.heap.size w a (cellsTk l)) (hb : l.length ≤ cap) (hcap : cap ≤ 9223372036854775807) :
    Calls Tryz.prog 10 #[.slice a l.length cap] w fun e w' => (∃ b, e = .returned (.bool b) ∧ (b = false → SmallTk l)) ∧ w' = w := by
  have HA := Lib.hid h
  obtain ⟨m, hm⟩ : ∃ m, l.length = m := ⟨_, rfl⟩
  have HM := Lib.hid hm
  rw [hm] at hb ⊢
  clear h hm
  go_enter Tryz.func10, Tryz.ntmps10
  go_wp2
  go_loopw [3] (fun i wr => ∃ k : Nat, k ≤ m ∧ i = .int .i64 k ∧ wr = w ∧ Hid (∀ j (h : j < l.length), j < k → l[j].tx.size ≤ 300) ∧ Hid (0 < k → m ≤ 200)) (fun i _ => m - (intOf i).toNat)
  case atStart => exact ⟨0, by omega, rfl, rfl, (fun j _ hj => by omega), (fun h => by omega)⟩
  case round =>
    obtain ⟨k, hk, rfl, rfl, HI, HZ⟩ := hrel
    by_cases hlt : k < m
    · have hkl : k < l.length := by rw [HM.out]; exact hlt
      obtain ⟨b, o, hab, hbN, t0, t1, t2, t3⟩ := tkAt HA.out hkl
      subst hab
      by_cases h200 : 200 < m
      · have q1 : decide ((200 : Int) < (m : Int)) = true := by simp; omega
        go_wp2
        go_ret
        exact ⟨⟨true, rfl, fun h => by cases h⟩, rfl⟩
      have q1 : decide ((200 : Int) < (m : Int)) = false := by simp; omega
      by_cases h300 : 300 < l[k].tx.size
      · have q2 : decide ((300 : Int) < (l[k].tx.size : Int)) = true := by simp; omega
        generalize l[k] = x at *
        go_wp2
        go_ret
        exact ⟨⟨true, rfl, fun h => by cases h⟩, rfl⟩
      have q2 : decide ((300 : Int) < (l[k].tx.size : Int)) = false := by simp; omega
      have HI2 : Hid (∀ j (h : j < l.length), j < k + 1 → l[j].tx.size ≤ 300) := fun j h hj => by
        by_cases hjk : j = k
        · subst hjk; omega
        · exact HI.out j h (by omega)
      have HZ2 : Hid (0 < k + 1 → m ≤ 200) := fun _ => by omega
      generalize l[k] = x at *
      go_wp2
      go_roundw
      case rel => exact ⟨k + 1, by omega, by go_num, (by first | rfl | trivial), HI2, HZ2⟩
      case measure => (simp [intOf] <;> try omega)
    · have q0 : decide ((k : Int) < (m : Int)) = false := by simp; omega
      have hke : k = m := by omega
      have HS : Hid (SmallTk l) := by
        refine ⟨?_, fun t ht => ?_⟩
        · rw [HM.out]
          by_cases h0 : 0 < k
          · exact HZ.out h0
          · omega
        · obtain ⟨j, hj, rfl⟩ := List.getElem_of_mem ht
          exact HI.out j hj (by rw [HM.out] at hj; omega)
      clear HI HZ hke
      go_wp2
      go_ret
      exact ⟨⟨false, rfl, fun _ => HS.out⟩, rfl⟩

theorem info_rtk : (Tryz.prog.info? 69).map (fun i => (i.zero, i.size, i.bytes)) = some (some (.agg #[.int .i64 0, .int .i64 0, .string ⟨#[]⟩, .int .i64 0]), 4, 40) := by kernel_rfl
def RetTks (l : List Tk) (w : World) (e : Ending) (w' : World) : Prop :=
  ∃ (a : Option Addr) (cap : Nat), e = .returned (.slice a l.length cap) ∧ l.length ≤ cap ∧ cap ≤ 9223372036854775807 ∧ Arr w'.heap.size w' a (cellsTk l) ∧ Below w.heap.size w w'
set_option maxHeartbeats 4000000 in
theorem as19_any (l : List Tk) (a : Option Addr) (cap : Nat) (w : World) (h : Arr w.heap.size w a (cellsTk l)) (hl2 : l.length ≤ 200) (hb : l.length ≤ cap) (hcap : cap ≤ 9223372036854775807) :
    Calls Tryz.prog 13 #[.slice a l.length cap] w (RetTks l w) := by
  obtain ⟨i0, hi, hz0, hz1, hz2⟩ := info_parts info_rtk
  have HA := Lib.hid h
  obtain ⟨m, hm⟩ : ∃ m, l.length = m := ⟨_, rfl⟩
  have HM := Lib.hid hm
  rw [hm] at hb hl2 ⊢
  clear h hm
  go_enter Tryz.func13, Tryz.ntmps13
  go_wp2
  go_loopw [3, 4] (fun v i wr => ∃ (k : Nat) (cv : Value), cv = v ∧ k ≤ m ∧ i = .int .i64 (k : Int) ∧ Hid (wr.ownsRow w.heap.size 69 4 cv k (cellsTk (l.take k))) ∧ Hid (Below w.heap.size w wr)) (fun _ i _ => m - (intOf i).toNat)
  case atStart => exact ⟨0, _, rfl, by omega, rfl, World.ownsRow_nil _ _ _ _, Below.refl _ _⟩
  case round =>
    obtain ⟨k, cv, rfl, hk, rfl, HO, HB⟩ := hrel
    by_cases hlt : k < m
    · have hkl : k < l.length := by rw [HM.out]; exact hlt
      have HTk : Hid (cellsTk (l.take (k + 1)) = cellsTk (l.take k) ++ Tk.cells l[k]) := by
        show _ = _
        unfold cellsTk; rw [List.take_succ_eq_append_getElem hkl, cellsOf_snoc]
      obtain ⟨b, o, hab, hbN, t0, t1, t2, t3⟩ := tkAt HA.out hkl
      generalize l[k] = x at *
      subst hab
      obtain ⟨S, hS⟩ : ∃ S, cv.ownBlock.toList = S := ⟨_, rfl⟩
      have hSg : ∀ g ∈ S, w.heap.size ≤ g := fun g hg => by rw [← hS, Option.mem_toList] at hg; exact (HO.out.lt g hg).1
      have hbS : b ∉ S := fun hm => by have := hSg b hm; omega
      have hbr : b < wr.drew.heap.size := Nat.lt_of_lt_of_le hbN HB.out.size
      have u0 : ∀ V, Chg S wr.drew V → V.cell? ⟨b, o + k * 4, none⟩ = some (.int .i64 x.kd) := fun V hV => (hV.cell (b := b) hbr hbS).trans ((HB.out.cell (p := ⟨b, o + k * 4, none⟩) hbN).trans t0)
      have u1 : ∀ V, Chg S wr.drew V → V.cell? ⟨b, o + k * 4 + 1, none⟩ = some (.int .i64 x.at_) := fun V hV => (hV.cell (b := b) hbr hbS).trans ((HB.out.cell (p := ⟨b, o + k * 4 + 1, none⟩) hbN).trans t1)
      have u2 : ∀ V, Chg S wr.drew V → V.cell? ⟨b, o + k * 4 + 2, none⟩ = some (.string x.tx) := fun V hV => (hV.cell (b := b) hbr hbS).trans ((HB.out.cell (p := ⟨b, o + k * 4 + 2, none⟩) hbN).trans t2)
      have u3 : ∀ V, Chg S wr.drew V → V.cell? ⟨b, o + k * 4 + 3, none⟩ = some (.int .i64 x.n) := fun V hV => (hV.cell (b := b) hbr hbS).trans ((HB.out.cell (p := ⟨b, o + k * 4 + 3, none⟩) hbN).trans t3)
      have HBs := Lib.hid HB.out.size
      have HSS := Lib.hid hS
      clear t0 t1 t2 t3 hSg hbS hbr hkl hbN hS
      go_wp2_with fail
      refine wp_region_ordX S 24 [(0, true), (1, true), (2, true), (3, true), (4, true), (5, true), (6, true), (7, true), (8, true), (9, true), (10, true), (11, true), (12, true), (13, true), (14, true), (15, true), (16, true), (17, true), (18, true), (19, true), (20, true), (21, true), (22, false), (23, false)] (by kernel_rfl) (by kernel_rfl) (by kernel_rfl) (by kernel_rfl) ?_
      repeat (first | (refine wpOX_F (v := ?_) rfl (by rfl) (fun w' hL => ?_) ?_; rotate_left; (solve | (go_simp; with_reducible rfl) | go_simp); try simp only [Act.put, List.setIfInBounds_toArray, List.set_cons_zero, List.set_cons_succ]) | (refine wpOX_G (Chg.refl _) rfl (by rfl) ?_; try simp only [Act.put, List.setIfInBounds_toArray, List.set_cons_zero, List.set_cons_succ]))
      refine wpOX_C rfl (by rfl) ?_
      go_simp
      refine ⟨(Chg.refl _ _).alloc _, ?_⟩
      try simp only [Act.put, List.setIfInBounds_toArray, List.set_cons_zero, List.set_cons_succ]
      have hr2 : wr.drew.ownsRow w.heap.size 69 4 cv k (cellsTk (l.take k)) := HO.out
      refine wpOX_C rfl (by rfl) ?_
      refine wp_appM (.tmp 11) (.tmp 33) 29 rfl w.heap.size 69 i0 (.agg #[.int .i64 0, .int .i64 0, .string ⟨#[]⟩, .int .i64 0]) 4 40 1 Tryz.underlying29 hi hz0 rfl hz1 (by omega) hz2 (by omega) cv k _ [.int .i64 x.kd, .int .i64 x.at_, .string x.tx, .int .i64 x.n] wr.drew hr2 rfl _ rfl rfl (by intro u hu; simp at hu; rcases hu with rfl | rfl | rfl | rfl <;> rfl) rfl (by omega) HBs.out ?_
      intro cv2 x4 hr4 hc4 hsz4
      rw [HSS.out] at hc4
      refine ⟨hc4, ?_⟩
      try simp only [Act.put, List.setIfInBounds_toArray, List.set_cons_zero, List.set_cons_succ]
      have HB4 : Hid (Below w.heap.size w x4) := HB.out.trans (((Below.refl w.heap.size wr).drew.alloc HBs.out _).trans (hc4.below (by have := HBs.out; simp; omega) (fun g hg => (hr2.lt g (by rw [← HSS.out] at hg; simpa using hg)).1)))
      have HO4 : Hid (x4.ownsRow w.heap.size 69 4 cv2 (k + 1) (cellsTk (l.take (k + 1)))) := by show World.ownsRow _ _ _ _ _ _ _; rw [HTk.out]; exact hr4
      clear hr2 hr4 hc4 hsz4 u0 u1 u2 u3
      repeat (first | (refine wpOX_F (v := ?_) rfl (by rfl) (fun w' hL => ?_) ?_; rotate_left; (solve | (go_simp; with_reducible rfl) | go_simp); try simp only [Act.put, List.setIfInBounds_toArray, List.set_cons_zero, List.set_cons_succ]) | (refine wpOX_G (Chg.refl _) rfl (by rfl) ?_; try simp only [Act.put, List.setIfInBounds_toArray, List.set_cons_zero, List.set_cons_succ]))
      refine wpOX_end rfl (by rfl) ?_
      go_simp
      simp only [NoPanic]
      go_wp2
      go_roundw
      case rel => exact ⟨k + 1, cv2, rfl, by omega, by go_num, HO4.out, HB4.out⟩
      case measure => (simp [intOf] <;> try omega)
    · have q0 : decide ((k : Int) < (m : Int)) = false := by simp; omega
      have hke : k = m := by omega
      have hO := HO.out
      rw [hke, List.take_of_length_le (by rw [HM.out]; omega)] at hO
      obtain ⟨a2, c2, hv, hcc, hcm, hA2⟩ := own_slice hO
      have HC := Lib.hid hcc
      have HX := Lib.hid hcm
      have HA2 := Lib.hid hA2
      have HV := Lib.hid hv
      clear hO hv hcc hcm hA2 HO
      go_wp2
      go_ret
      unfold RetTks
      rw [HM.out]
      exact ⟨a2, c2, by rw [← HV.out]; rfl, HC.out, HX.out, HA2.out, HB.out⟩
end Go.Proofs.YtbnddpicpomakaaGreatDoor

/- The reference's reading of one code point: plain mathematics. -/
set_option linter.unusedSimpArgs false
set_option linter.unusedVariables false
set_option maxRecDepth 100000
namespace Go.Proofs.YtbnddpicpomakaaGreatDoor
set_option linter.unusedSimpArgs false

def chkP (z lst v : Nat) : Nat × Nat := if v < lst ∨ 1114111 < v ∨ (55296 ≤ v ∧ v ≤ 57343) then (0, 0) else (v, z)

def finP (l : List Nat) (z lst : Nat) : Nat → Nat → Nat → Nat × Nat
  | 0, _, v => chkP z lst v
  | f + 1, k, v => if l.getD k 0 < 128 ∨ 192 ≤ l.getD k 0 then (0, 0) else finP l z lst f (k + 1) (64 * v + l.getD k 0 - 128)

def goP (l : List Nat) (z v0 lst : Nat) : Nat × Nat := if l.length < z then (0, 0) else finP l z lst (z - 1) 1 v0

/-- What the reference's point answers. -/
def refP (l : List Nat) : Nat × Nat :=
  if l.getD 0 0 < 128 then (l.getD 0 0, 1)
  else if 192 ≤ l.getD 0 0 ∧ l.getD 0 0 < 224 then goP l 2 (l.getD 0 0 - 192) 128
  else if 224 ≤ l.getD 0 0 ∧ l.getD 0 0 < 240 then goP l 3 (l.getD 0 0 - 224) 2048
  else if 240 ≤ l.getD 0 0 ∧ l.getD 0 0 < 248 then goP l 4 (l.getD 0 0 - 240) 65536
  else (0, 0)

set_option maxHeartbeats 4000000 in
theorem refP_hd (l : List Nat) (h256 : ∀ c ∈ l, c < 256) (hne : l ≠ []) : refP l = if hd l = (65533, 1) then (0, 0) else hd l := by
  have k0 := getD_lt l h256 0
  have k1 := getD_lt l h256 1
  have k2 := getD_lt l h256 2
  have k3 := getD_lt l h256 3
  have hl : 0 < l.length := List.length_pos_iff.2 hne
  unfold refP goP hd
  simp only [finP, chkP, Nat.reduceSub, Nat.reduceAdd]
  generalize l.getD 0 0 = a at *
  generalize l.getD 1 0 = b at *
  generalize l.getD 2 0 = c at *
  generalize l.getD 3 0 = d at *
  generalize l.length = n at *
  rcases Lib.decodeN_shape n a b c d with ⟨e1, e⟩ | ⟨e1, e2, e3, e4, e⟩ | ⟨e1, e2, e3, e4, e5, e6, e⟩ | ⟨e1, e2, e3, e4, e5, e6, e7, e⟩ | e
  · rw [e, if_pos e1, if_neg (by simp; omega)]
  · rw [e, if_neg (by omega), if_pos (by omega), if_neg (by omega), if_neg (by omega), if_neg (by omega), if_neg (by simp)]
    refine Prod.ext ?_ rfl
    dsimp only
    omega
  · rw [e, if_neg (by omega), if_neg (by omega), if_pos (by omega), if_neg (by omega), if_neg (by omega), if_neg (by omega), if_neg (by omega), if_neg (by simp)]
    refine Prod.ext ?_ rfl
    dsimp only
    omega
  · rw [e, if_neg (by omega), if_neg (by omega), if_neg (by omega), if_pos (by omega), if_neg (by omega), if_neg (by omega), if_neg (by omega), if_neg (by omega), if_neg (by omega), if_neg (by simp)]
    refine Prod.ext ?_ rfl
    dsimp only
    omega
  · have e' := e
    rw [e, if_pos rfl]
    unfold Lib.decodeN at e'
    by_cases h1 : a < 128
    · rw [if_pos h1] at e'
      simp only [Prod.mk.injEq] at e'
      omega
    · rw [if_neg h1]
      rw [if_neg h1] at e'
      by_cases h2 : 192 ≤ a ∧ a < 224
      · rw [if_pos h2]
        by_cases h3 : n < 2
        · rw [if_pos h3]
        · rw [if_neg h3]
          by_cases h4 : b < 128 ∨ 192 ≤ b
          · rw [if_pos h4]
          · rw [if_neg h4]
            rw [if_pos (by omega)] at e'
            by_cases h5 : a % 32 * 64 + b % 64 ≥ 128
            · rw [if_pos h5] at e'; simp only [Prod.mk.injEq] at e'; omega
            · rw [if_pos (by omega)]
      · rw [if_neg h2]
        rw [if_neg (by omega)] at e'
        by_cases h6 : 224 ≤ a ∧ a < 240
        · rw [if_pos h6]
          by_cases h3 : n < 3
          · rw [if_pos h3]
          · rw [if_neg h3]
            by_cases h4 : b < 128 ∨ 192 ≤ b
            · rw [if_pos h4]
            · rw [if_neg h4]
              by_cases h7 : c < 128 ∨ 192 ≤ c
              · rw [if_pos h7]
              · rw [if_neg h7]
                rw [if_pos (by omega)] at e'
                by_cases h5 : a % 16 * 4096 + b % 64 * 64 + c % 64 ≥ 2048 ∧ (a % 16 * 4096 + b % 64 * 64 + c % 64 < 55296 ∨ (57344 ≤ a % 16 * 4096 + b % 64 * 64 + c % 64 ∧ a % 16 * 4096 + b % 64 * 64 + c % 64 ≤ 1114111))
                · rw [if_pos h5] at e'; simp only [Prod.mk.injEq] at e'; omega
                · rw [if_pos (by omega)]
        · rw [if_neg h6]
          rw [if_neg (by omega)] at e'
          by_cases h8 : 240 ≤ a ∧ a < 248
          · rw [if_pos h8]
            by_cases h3 : n < 4
            · rw [if_pos h3]
            · rw [if_neg h3]
              by_cases h4 : b < 128 ∨ 192 ≤ b
              · rw [if_pos h4]
              · rw [if_neg h4]
                by_cases h7 : c < 128 ∨ 192 ≤ c
                · rw [if_pos h7]
                · rw [if_neg h7]
                  by_cases h9 : d < 128 ∨ 192 ≤ d
                  · rw [if_pos h9]
                  · rw [if_neg h9]
                    rw [if_pos (by omega)] at e'
                    by_cases h5 : a % 8 * 262144 + b % 64 * 4096 + c % 64 * 64 + d % 64 ≥ 65536 ∧ (a % 8 * 262144 + b % 64 * 4096 + c % 64 * 64 + d % 64 < 55296 ∨ (57344 ≤ a % 8 * 262144 + b % 64 * 4096 + c % 64 * 64 + d % 64 ∧ a % 8 * 262144 + b % 64 * 4096 + c % 64 * 64 + d % 64 ≤ 1114111))
                    · rw [if_pos h5] at e'; simp only [Prod.mk.injEq] at e'; omega
                    · rw [if_pos (by omega)]
          · rw [if_neg h8]

theorem refP_pt (l : List Nat) (h256 : ∀ c ∈ l, c < 256) (hne : l ≠ []) : refP l = (pt l).getD (0, 0) := by
  rw [refP_hd l h256 hne]
  unfold pt
  rw [if_neg hne]
  split <;> rfl
end Go.Proofs.YtbnddpicpomakaaGreatDoor

/- The walk of hindsightref05.point. -/
set_option linter.unusedSimpArgs false
set_option linter.unusedVariables false
set_option maxRecDepth 100000
namespace Go.Proofs.YtbnddpicpomakaaGreatDoor
set_option linter.unusedSimpArgs false
open Go.RowKit

theorem byte_at (s : ByteArray) (i : Nat) (h : i < s.size) : (bytesU s).getD i 0 = (s[i]'h).toNat := by
  rw [List.getD_eq_getElem?_getD, List.getElem?_eq_getElem (by rw [bytesU_len]; exact h)]
  simp [bytesU]; rfl

theorem drop_getD (s : ByteArray) (i k : Nat) : ((bytesU s).drop i).getD k 0 = (bytesU s).getD (i + k) 0 := by
  rw [List.getD_eq_getElem?_getD, List.getD_eq_getElem?_getD, List.getElem?_drop]

theorem pow_small (k : Nat) (h : k ≤ 4) : 8 * 64 ^ k ≤ 134217728 := by
  have : 64 ^ k ≤ 64 ^ 4 := Nat.pow_le_pow_right (by omega) h
  omega

theorem finP_step {l : List Nat} {z lst f k v : Nat} (h : ¬ (l.getD k 0 < 128 ∨ 192 ≤ l.getD k 0)) : finP l z lst (f + 1) k v = finP l z lst f (k + 1) (64 * v + l.getD k 0 - 128) := by
  rw [finP, if_neg h]
theorem finP_bad {l : List Nat} {z lst f k v : Nat} (h : l.getD k 0 < 128 ∨ 192 ≤ l.getD k 0) : finP l z lst (f + 1) k v = (0, 0) := by
  rw [finP, if_pos h]

set_option maxRecDepth 100000 in
set_option maxHeartbeats 8000000 in
theorem point_any (s : ByteArray) (i : Nat) (w : World) (hi : i < s.size) (hs : s.size ≤ 1000000000) :
    Calls Tryz.prog 59 #[.string s, .int .i64 i] w fun e w' => e = .returned (.tuple #[.int .i64 (((refP ((bytesU s).drop i)).1 : Nat) : Int), .int .i64 (((refP ((bytesU s).drop i)).2 : Nat) : Int)]) ∧ Below w.heap.size w w' := by
  obtain ⟨l, hl⟩ : ∃ l, l = (bytesU s).drop i := ⟨_, rfl⟩
  have hlen : l.length = s.size - i := by rw [hl, List.length_drop, bytesU_len]
  have hD : ∀ k, l.getD k 0 = (bytesU s).getD (i + k) 0 := fun k => by rw [hl, drop_getD]
  have h0 := hD 0
  rw [Nat.add_zero, byte_at s i hi] at h0
  rw [← hl]
  have hr : refP l = if l.getD 0 0 < 128 then (l.getD 0 0, 1)
    else if 192 ≤ l.getD 0 0 ∧ l.getD 0 0 < 224 then goP l 2 (l.getD 0 0 - 192) 128
    else if 224 ≤ l.getD 0 0 ∧ l.getD 0 0 < 240 then goP l 3 (l.getD 0 0 - 224) 2048
    else if 240 ≤ l.getD 0 0 ∧ l.getD 0 0 < 248 then goP l 4 (l.getD 0 0 - 240) 65536
    else (0, 0) := rfl
  rw [h0] at hr
  obtain ⟨R, hR⟩ : ∃ R, refP l = R := ⟨_, rfl⟩
  rw [hR] at hr ⊢
  have hcl := (s[i]'hi).toNat_lt
  have HD := Lib.hid hD
  have HLn := Lib.hid hlen
  have hii : ¬ s.size ≤ i := by omega
  clear hl hlen hD h0 hR
  by_cases hA : (s[i]'hi).toNat < 128
  · have HR : Hid (R = ((s[i]'hi).toNat, 1)) := by rw [hr, if_pos hA]; rfl
    clear hr
    go_enter Tryz.func59, Tryz.ntmps59
    go_wp2
    go_ret2
    exact ⟨by rw [HR.out]; rfl, Below.refl _ _⟩
  rw [if_neg hA] at hr
  by_cases h192 : 192 ≤ (s[i]'hi).toNat ∧ (s[i]'hi).toNat < 224
  · obtain ⟨hlo, hhi⟩ := h192
    have hr2 : R = goP l 2 ((s[i]'hi).toNat - 192) 128 := by rw [hr]; rw [if_pos ⟨hlo, hhi⟩]
    by_cases hshort : s.size - i < 2
    · have HR : Hid (R = (0, 0)) := by rw [hr2]; unfold goP; rw [if_pos (by have := HLn.out; omega)]; rfl
      have q : decide ((s.size : Int) - (i : Int) < 2) = true := by simp; omega
      clear hr hr2
      go_enter Tryz.func59, Tryz.ntmps59
      go_wp2
      go_ret2
      exact ⟨by rw [HR.out]; rfl, Below.refl _ _⟩
    · have q : decide ((s.size : Int) - (i : Int) < 2) = false := by simp; omega
      have HR : Hid (R = finP l 2 128 1 1 ((s[i]'hi).toNat - 192)) := by rw [hr2]; unfold goP; rw [if_neg (by have := HLn.out; omega)]; rfl
      have hv0 : ((s[i]'hi).toNat : Int) - 192 = (((s[i]'hi).toNat - 192 : Nat) : Int) := by omega
      have qq0 : decide (((s[i]'hi).toNat : Int) < 128) = false := by simp; omega
      have qq1 : decide ((192 : Int) ≤ ((s[i]'hi).toNat : Int)) = true := by simp; omega
      have qq2 : decide (((s[i]'hi).toNat : Int) < 224) = true := by simp; omega
      have HV0 := Lib.hid hv0
      clear hr hr2 hv0
      go_enter Tryz.func59, Tryz.ntmps59
      go_wp2
      go_loopw [8, 10] (fun s8 s10 wr => ∃ k f v : Nat, s10 = .int .i64 k ∧ s8 = .int .i64 v ∧ 1 ≤ k ∧ k + f = 2 ∧ Hid (finP l 2 128 f k v = R) ∧ Hid (v < 8 * 64 ^ k) ∧ Below w.heap.size w wr) (fun _ s10 _ => 2 - (intOf s10).toNat)
      case atStart => exact ⟨1, 1, (s[i]'hi).toNat - 192, rfl, by rw [HV0.out], by omega, by omega, HR.out.symm, by show _ < 8 * 64 ^ 1; omega, Below.refl _ _⟩
      case round =>
        obtain ⟨k, f, v, rfl, rfl, hk1, hkf, HF, HB, hb⟩ := hrel
        have hvb : v < 134217728 := Nat.lt_of_lt_of_le HB.out (pow_small k (by omega))
        by_cases hlt : k < 2
        · obtain ⟨f', rfl⟩ : ∃ f', f = f' + 1 := ⟨f - 1, by omega⟩
          have hik : i + k < s.size := by omega
          have hg : l.getD k 0 = (s[i + k]'hik).toNat := by rw [HD.out, byte_at s (i + k) hik]
          have hdl := (s[i + k]'hik).toNat_lt
          have hsum : IntKind.i64.wrap ((i : Int) + (k : Int)) = (i : Int) + (k : Int) := IntWalk.i64_in _ (by omega)
          by_cases hd : (s[i + k]'hik).toNat < 128 ∨ 192 ≤ (s[i + k]'hik).toNat
          · have HR2 : Hid (R = (0, 0)) := by rw [← HF.out, finP_bad (by rw [hg]; exact hd)]; rfl
            clear hg HF HB
            by_cases hd1 : (s[i + k]'hik).toNat < 128
            · clear hd
              go_wp2
              go_ret2
              exact ⟨by rw [HR2.out]; rfl, hb⟩
            · have hd2 : 192 ≤ (s[i + k]'hik).toNat := by omega
              clear hd
              go_wp2
              go_ret2
              exact ⟨by rw [HR2.out]; rfl, hb⟩
          · have hd1 : ¬ (s[i + k]'hik).toNat < 128 := by omega
            have hd2 : ¬ 192 ≤ (s[i + k]'hik).toNat := by omega
            have HF2 : Hid (finP l 2 128 f' (k + 1) (64 * v + (s[i + k]'hik).toNat - 128) = R) := by rw [← HF.out, finP_step (by rw [hg]; exact hd), hg]; rfl
            have hb2 : 64 * v + (s[i + k]'hik).toNat - 128 < 8 * 64 ^ (k + 1) := by
              have := HB.out
              have e : 64 ^ (k + 1) = 64 ^ k * 64 := Nat.pow_succ 64 k
              rw [e]
              generalize 64 ^ k = K at *
              omega
            have HB2 := Lib.hid hb2
            clear hg hd HF HB hb2
            go_wp2
            go_roundw
            case rel => exact ⟨k + 1, f', 64 * v + (s[i + k]'hik).toNat - 128, by go_num, by congr 1; omega, by omega, by omega, HF2, HB2, hb⟩
            case measure => simp [intOf]; omega
        · obtain rfl : f = 0 := by omega
          have HF2 : Hid (chkP 2 128 v = R) := HF.out
          clear HF HB
          by_cases hc : v < 128 ∨ 1114111 < v ∨ (55296 ≤ v ∧ v ≤ 57343)
          · have HR2 : Hid (R = (0, 0)) := by rw [← HF2.out]; unfold chkP; rw [if_pos hc]; rfl
            clear HF2
            have hways : v < 128 ∨ (¬ v < 128 ∧ 1114111 < v) ∨ (¬ v < 128 ∧ ¬ 1114111 < v ∧ 55296 ≤ v ∧ v ≤ 57343) := by omega
            clear hc
            rcases hways with c1 | ⟨c1, c2⟩ | ⟨c1, c2, c3, c4⟩
            all_goals
              go_wp2
              go_ret2
              exact ⟨by rw [HR2.out]; rfl, hb⟩
          · have HR2 : Hid (R = (v, 2)) := by rw [← HF2.out]; unfold chkP; rw [if_neg hc]; rfl
            have c1 : ¬ v < 128 := by omega
            have c2 : ¬ 1114111 < v := by omega
            by_cases c3 : 55296 ≤ v
            · have c4 : ¬ v ≤ 57343 := by omega
              clear hc HF2
              go_wp2
              go_ret2
              exact ⟨by rw [HR2.out]; rfl, hb⟩
            · clear hc HF2
              go_wp2
              go_ret2
              exact ⟨by rw [HR2.out]; rfl, hb⟩
  by_cases h224 : 224 ≤ (s[i]'hi).toNat ∧ (s[i]'hi).toNat < 240
  · obtain ⟨hlo, hhi⟩ := h224
    have hr2 : R = goP l 3 ((s[i]'hi).toNat - 224) 2048 := by rw [hr]; rw [if_neg (by omega), if_pos ⟨hlo, hhi⟩]
    by_cases hshort : s.size - i < 3
    · have HR : Hid (R = (0, 0)) := by rw [hr2]; unfold goP; rw [if_pos (by have := HLn.out; omega)]; rfl
      have q : decide ((s.size : Int) - (i : Int) < 3) = true := by simp; omega
      clear hr hr2
      go_enter Tryz.func59, Tryz.ntmps59
      go_wp2
      go_ret2
      exact ⟨by rw [HR.out]; rfl, Below.refl _ _⟩
    · have q : decide ((s.size : Int) - (i : Int) < 3) = false := by simp; omega
      have HR : Hid (R = finP l 3 2048 2 1 ((s[i]'hi).toNat - 224)) := by rw [hr2]; unfold goP; rw [if_neg (by have := HLn.out; omega)]; rfl
      have hv0 : ((s[i]'hi).toNat : Int) - 224 = (((s[i]'hi).toNat - 224 : Nat) : Int) := by omega
      have qq0 : decide (((s[i]'hi).toNat : Int) < 128) = false := by simp; omega
      have qq1 : decide ((192 : Int) ≤ ((s[i]'hi).toNat : Int)) = true := by simp; omega
      have qq2 : decide (((s[i]'hi).toNat : Int) < 224) = false := by simp; omega
      have qq3 : decide ((224 : Int) ≤ ((s[i]'hi).toNat : Int)) = true := by simp; omega
      have qq4 : decide (((s[i]'hi).toNat : Int) < 240) = true := by simp; omega
      have HV0 := Lib.hid hv0
      clear hr hr2 hv0
      go_enter Tryz.func59, Tryz.ntmps59
      go_wp2
      go_loopw [8, 10] (fun s8 s10 wr => ∃ k f v : Nat, s10 = .int .i64 k ∧ s8 = .int .i64 v ∧ 1 ≤ k ∧ k + f = 3 ∧ Hid (finP l 3 2048 f k v = R) ∧ Hid (v < 8 * 64 ^ k) ∧ Below w.heap.size w wr) (fun _ s10 _ => 3 - (intOf s10).toNat)
      case atStart => exact ⟨1, 2, (s[i]'hi).toNat - 224, rfl, by rw [HV0.out], by omega, by omega, HR.out.symm, by show _ < 8 * 64 ^ 1; omega, Below.refl _ _⟩
      case round =>
        obtain ⟨k, f, v, rfl, rfl, hk1, hkf, HF, HB, hb⟩ := hrel
        have hvb : v < 134217728 := Nat.lt_of_lt_of_le HB.out (pow_small k (by omega))
        by_cases hlt : k < 3
        · obtain ⟨f', rfl⟩ : ∃ f', f = f' + 1 := ⟨f - 1, by omega⟩
          have hik : i + k < s.size := by omega
          have hg : l.getD k 0 = (s[i + k]'hik).toNat := by rw [HD.out, byte_at s (i + k) hik]
          have hdl := (s[i + k]'hik).toNat_lt
          have hsum : IntKind.i64.wrap ((i : Int) + (k : Int)) = (i : Int) + (k : Int) := IntWalk.i64_in _ (by omega)
          by_cases hd : (s[i + k]'hik).toNat < 128 ∨ 192 ≤ (s[i + k]'hik).toNat
          · have HR2 : Hid (R = (0, 0)) := by rw [← HF.out, finP_bad (by rw [hg]; exact hd)]; rfl
            clear hg HF HB
            by_cases hd1 : (s[i + k]'hik).toNat < 128
            · clear hd
              go_wp2
              go_ret2
              exact ⟨by rw [HR2.out]; rfl, hb⟩
            · have hd2 : 192 ≤ (s[i + k]'hik).toNat := by omega
              clear hd
              go_wp2
              go_ret2
              exact ⟨by rw [HR2.out]; rfl, hb⟩
          · have hd1 : ¬ (s[i + k]'hik).toNat < 128 := by omega
            have hd2 : ¬ 192 ≤ (s[i + k]'hik).toNat := by omega
            have HF2 : Hid (finP l 3 2048 f' (k + 1) (64 * v + (s[i + k]'hik).toNat - 128) = R) := by rw [← HF.out, finP_step (by rw [hg]; exact hd), hg]; rfl
            have hb2 : 64 * v + (s[i + k]'hik).toNat - 128 < 8 * 64 ^ (k + 1) := by
              have := HB.out
              have e : 64 ^ (k + 1) = 64 ^ k * 64 := Nat.pow_succ 64 k
              rw [e]
              generalize 64 ^ k = K at *
              omega
            have HB2 := Lib.hid hb2
            clear hg hd HF HB hb2
            go_wp2
            go_roundw
            case rel => exact ⟨k + 1, f', 64 * v + (s[i + k]'hik).toNat - 128, by go_num, by congr 1; omega, by omega, by omega, HF2, HB2, hb⟩
            case measure => simp [intOf]; omega
        · obtain rfl : f = 0 := by omega
          have HF2 : Hid (chkP 3 2048 v = R) := HF.out
          clear HF HB
          by_cases hc : v < 2048 ∨ 1114111 < v ∨ (55296 ≤ v ∧ v ≤ 57343)
          · have HR2 : Hid (R = (0, 0)) := by rw [← HF2.out]; unfold chkP; rw [if_pos hc]; rfl
            clear HF2
            have hways : v < 2048 ∨ (¬ v < 2048 ∧ 1114111 < v) ∨ (¬ v < 2048 ∧ ¬ 1114111 < v ∧ 55296 ≤ v ∧ v ≤ 57343) := by omega
            clear hc
            rcases hways with c1 | ⟨c1, c2⟩ | ⟨c1, c2, c3, c4⟩
            all_goals
              go_wp2
              go_ret2
              exact ⟨by rw [HR2.out]; rfl, hb⟩
          · have HR2 : Hid (R = (v, 3)) := by rw [← HF2.out]; unfold chkP; rw [if_neg hc]; rfl
            have c1 : ¬ v < 2048 := by omega
            have c2 : ¬ 1114111 < v := by omega
            by_cases c3 : 55296 ≤ v
            · have c4 : ¬ v ≤ 57343 := by omega
              clear hc HF2
              go_wp2
              go_ret2
              exact ⟨by rw [HR2.out]; rfl, hb⟩
            · clear hc HF2
              go_wp2
              go_ret2
              exact ⟨by rw [HR2.out]; rfl, hb⟩
  by_cases h240 : 240 ≤ (s[i]'hi).toNat ∧ (s[i]'hi).toNat < 248
  · obtain ⟨hlo, hhi⟩ := h240
    have hr2 : R = goP l 4 ((s[i]'hi).toNat - 240) 65536 := by rw [hr]; rw [if_neg (by omega), if_neg (by omega), if_pos ⟨hlo, hhi⟩]
    by_cases hshort : s.size - i < 4
    · have HR : Hid (R = (0, 0)) := by rw [hr2]; unfold goP; rw [if_pos (by have := HLn.out; omega)]; rfl
      have q : decide ((s.size : Int) - (i : Int) < 4) = true := by simp; omega
      clear hr hr2
      go_enter Tryz.func59, Tryz.ntmps59
      go_wp2
      go_ret2
      exact ⟨by rw [HR.out]; rfl, Below.refl _ _⟩
    · have q : decide ((s.size : Int) - (i : Int) < 4) = false := by simp; omega
      have HR : Hid (R = finP l 4 65536 3 1 ((s[i]'hi).toNat - 240)) := by rw [hr2]; unfold goP; rw [if_neg (by have := HLn.out; omega)]; rfl
      have hv0 : ((s[i]'hi).toNat : Int) - 240 = (((s[i]'hi).toNat - 240 : Nat) : Int) := by omega
      have qq0 : decide (((s[i]'hi).toNat : Int) < 128) = false := by simp; omega
      have qq1 : decide ((192 : Int) ≤ ((s[i]'hi).toNat : Int)) = true := by simp; omega
      have qq2 : decide (((s[i]'hi).toNat : Int) < 224) = false := by simp; omega
      have qq3 : decide ((224 : Int) ≤ ((s[i]'hi).toNat : Int)) = true := by simp; omega
      have qq4 : decide (((s[i]'hi).toNat : Int) < 240) = false := by simp; omega
      have qq5 : decide ((240 : Int) ≤ ((s[i]'hi).toNat : Int)) = true := by simp; omega
      have qq6 : decide (((s[i]'hi).toNat : Int) < 248) = true := by simp; omega
      have HV0 := Lib.hid hv0
      clear hr hr2 hv0
      go_enter Tryz.func59, Tryz.ntmps59
      go_wp2
      go_loopw [8, 10] (fun s8 s10 wr => ∃ k f v : Nat, s10 = .int .i64 k ∧ s8 = .int .i64 v ∧ 1 ≤ k ∧ k + f = 4 ∧ Hid (finP l 4 65536 f k v = R) ∧ Hid (v < 8 * 64 ^ k) ∧ Below w.heap.size w wr) (fun _ s10 _ => 4 - (intOf s10).toNat)
      case atStart => exact ⟨1, 3, (s[i]'hi).toNat - 240, rfl, by rw [HV0.out], by omega, by omega, HR.out.symm, by show _ < 8 * 64 ^ 1; omega, Below.refl _ _⟩
      case round =>
        obtain ⟨k, f, v, rfl, rfl, hk1, hkf, HF, HB, hb⟩ := hrel
        have hvb : v < 134217728 := Nat.lt_of_lt_of_le HB.out (pow_small k (by omega))
        by_cases hlt : k < 4
        · obtain ⟨f', rfl⟩ : ∃ f', f = f' + 1 := ⟨f - 1, by omega⟩
          have hik : i + k < s.size := by omega
          have hg : l.getD k 0 = (s[i + k]'hik).toNat := by rw [HD.out, byte_at s (i + k) hik]
          have hdl := (s[i + k]'hik).toNat_lt
          have hsum : IntKind.i64.wrap ((i : Int) + (k : Int)) = (i : Int) + (k : Int) := IntWalk.i64_in _ (by omega)
          by_cases hd : (s[i + k]'hik).toNat < 128 ∨ 192 ≤ (s[i + k]'hik).toNat
          · have HR2 : Hid (R = (0, 0)) := by rw [← HF.out, finP_bad (by rw [hg]; exact hd)]; rfl
            clear hg HF HB
            by_cases hd1 : (s[i + k]'hik).toNat < 128
            · clear hd
              go_wp2
              go_ret2
              exact ⟨by rw [HR2.out]; rfl, hb⟩
            · have hd2 : 192 ≤ (s[i + k]'hik).toNat := by omega
              clear hd
              go_wp2
              go_ret2
              exact ⟨by rw [HR2.out]; rfl, hb⟩
          · have hd1 : ¬ (s[i + k]'hik).toNat < 128 := by omega
            have hd2 : ¬ 192 ≤ (s[i + k]'hik).toNat := by omega
            have HF2 : Hid (finP l 4 65536 f' (k + 1) (64 * v + (s[i + k]'hik).toNat - 128) = R) := by rw [← HF.out, finP_step (by rw [hg]; exact hd), hg]; rfl
            have hb2 : 64 * v + (s[i + k]'hik).toNat - 128 < 8 * 64 ^ (k + 1) := by
              have := HB.out
              have e : 64 ^ (k + 1) = 64 ^ k * 64 := Nat.pow_succ 64 k
              rw [e]
              generalize 64 ^ k = K at *
              omega
            have HB2 := Lib.hid hb2
            clear hg hd HF HB hb2
            go_wp2
            go_roundw
            case rel => exact ⟨k + 1, f', 64 * v + (s[i + k]'hik).toNat - 128, by go_num, by congr 1; omega, by omega, by omega, HF2, HB2, hb⟩
            case measure => simp [intOf]; omega
        · obtain rfl : f = 0 := by omega
          have HF2 : Hid (chkP 4 65536 v = R) := HF.out
          clear HF HB
          by_cases hc : v < 65536 ∨ 1114111 < v ∨ (55296 ≤ v ∧ v ≤ 57343)
          · have HR2 : Hid (R = (0, 0)) := by rw [← HF2.out]; unfold chkP; rw [if_pos hc]; rfl
            clear HF2
            have hways : v < 65536 ∨ (¬ v < 65536 ∧ 1114111 < v) ∨ (¬ v < 65536 ∧ ¬ 1114111 < v ∧ 55296 ≤ v ∧ v ≤ 57343) := by omega
            clear hc
            rcases hways with c1 | ⟨c1, c2⟩ | ⟨c1, c2, c3, c4⟩
            all_goals
              go_wp2
              try
                go_ret2
                exact ⟨by rw [HR2.out]; rfl, hb⟩
          · have HR2 : Hid (R = (v, 4)) := by rw [← HF2.out]; unfold chkP; rw [if_neg hc]; rfl
            have c1 : ¬ v < 65536 := by omega
            have c2 : ¬ 1114111 < v := by omega
            by_cases c3 : 55296 ≤ v
            · have c4 : ¬ v ≤ 57343 := by omega
              clear hc HF2
              go_wp2
              go_ret2
              exact ⟨by rw [HR2.out]; rfl, hb⟩
            · clear hc HF2
              go_wp2
              try
                go_ret2
                exact ⟨by rw [HR2.out]; rfl, hb⟩
  have HR : Hid (R = (0, 0)) := by rw [hr, if_neg (by omega), if_neg (by omega), if_neg (by omega)]; rfl
  have hways : (s[i]'hi).toNat < 192 ∨ 248 ≤ (s[i]'hi).toNat := by omega
  clear hr h192 h224 h240
  rcases hways with h | h
  all_goals
    go_enter Tryz.func59, Tryz.ntmps59
    go_wp2
    go_ret2
    exact ⟨by rw [HR.out]; rfl, Below.refl _ _⟩
end Go.Proofs.YtbnddpicpomakaaGreatDoor

/- The walks of hindsightref05.Split and Write. -/
set_option linter.unusedSimpArgs false
set_option linter.unusedVariables false
set_option maxRecDepth 100000
namespace Go.Proofs.YtbnddpicpomakaaGreatDoor
set_option linter.unusedSimpArgs false
open Go.RowKit

/-- What the reference's Split hands back. -/
def RetRS (w : World) (o : Option (List Nat)) (e : Ending) (w' : World) : Prop :=
  Below w.heap.size w w' ∧ ((o = none ∧ e = .returned (.tuple #[.slice none 0 0, .bool false])) ∨
    ∃ p a cap, o = some p ∧ e = .returned (.tuple #[.slice a p.length cap, .bool true]) ∧ p.length ≤ cap ∧ Rs .i64 w'.heap.size w' a (p.map fun (n : Nat) => (n : Int)))

theorem Tryz.info3 : (Tryz.prog.info? 3).map (fun i => (i.zero, i.size, i.bytes)) = some (some (.int .i64 0), 1, 8) := by kernel_rfl

set_option maxRecDepth 100000 in
set_option maxHeartbeats 2000000 in
theorem rSplit_any (s : ByteArray) (w : World) (hs : s.size ≤ 1000000000) :
    Calls Tryz.prog 32 #[.string s] w (RetRS w (decS (bytesU s))) := by
  obtain ⟨i0, hi, hz0, hz1, hz2⟩ := info_parts Tryz.info3
  obtain ⟨o, ho⟩ : ∃ o, decS (bytesU s) = o := ⟨_, rfl⟩
  rw [ho]
  have HO := Lib.hid ho
  clear ho
  go_enter Tryz.func32, Tryz.ntmps32
  go_wp2
  go_loopw [4, 5] (fun v i wr => ∃ (pos : Nat) (q : List Nat), i = .int .i64 pos ∧ pos ≤ s.size ∧ Hid (o = (decS ((bytesU s).drop pos)).map (q ++ ·)) ∧ OwnI .i64 wr w.heap.size 3 v (q.map fun (n : Nat) => (n : Int)) ∧ Below w.heap.size w wr ∧ Hid (q.length ≤ pos))
    (fun _ i _ => s.size - (intOf i).toNat)
  case atStart => exact ⟨0, [], rfl, by omega, by rw [List.drop_zero, HO.out]; cases o <;> simp [Hid], OwnI.nil _ _ _ _, Below.refl _ _, by simp [Hid]⟩
  case round =>
    obtain ⟨pos, q, rfl, hpos, HD, hown, hb, HQ⟩ := hrel
    by_cases hp : pos < s.size
    · have hne : (bytesU s).drop pos ≠ [] := by
        intro h; have := congrArg List.length h; rw [List.length_drop, bytesU_len] at this; simp at this; omega
      have h256 : ∀ c ∈ (bytesU s).drop pos, c < 256 := fun c hc => bytesU_lt s c (List.mem_of_mem_drop hc)
      have hP := point_any s pos wr hp hs
      rw [refP_pt _ h256 hne] at hP
      cases hpt : pt ((bytesU s).drop pos) with
      | none =>
        rw [hpt] at hP
        have HN : Hid (o = none) := by rw [HD.out, decS_bad h256 hne hpt]; rfl
        have HP := Lib.hid hP
        clear hP hpt h256 hne HD
        dsimp only [Option.getD_none] at HP
        go_wp2_with fail
        refine HP.out.mono ?_
        rintro e w1 ⟨rfl, hb1⟩
        clear HP
        go_wp2
        go_ret2
        exact ⟨hb.trans (hb1.mono hb.size), .inl ⟨HN.out, rfl⟩⟩
      | some x =>
        obtain ⟨v, n⟩ := x
        rw [hpt] at hP
        obtain ⟨g1, g2, g3, g4, g5, g6⟩ := pt_some h256 hpt
        rw [List.length_drop, bytesU_len] at g4
        have HD2 : Hid (o = (decS ((bytesU s).drop (pos + n))).map ((q ++ [v]) ++ ·)) := by
          rw [HD.out, decS_go h256 hpt, List.drop_drop, Option.map_map]
          congr 1
          funext r
          simp
        have hv := okP_le g1
        have HP := Lib.hid hP
        clear hP hpt h256 hne HD g1 g2 g3 g6
        dsimp only [Option.getD_some] at HP
        have hn0 : ((n : Int) == 0) = false := by simp; omega
        have hq : (q.map fun (n : Nat) => (n : Int)).length < 1000000000000 := by rw [List.length_map]; have := HQ.out; omega
        go_wp2_with fail
        refine HP.out.mono ?_
        rintro e w1 ⟨rfl, hb1⟩
        have hown1 := hown.below (Nat.le_refl _) hb1
        have hb2 := hb.trans (hb1.mono hb.size)
        have hsz := hb2.size
        clear HP hown hb hb1
        go_wp2_with (at_builtin; refine wpList_appI rfl _ _ 65 rfl .i64 w.heap.size 3 i0 8 Tryz.underlying65 hi hz0 hz1 hz2 (by omega) _ (q.map fun (n : Nat) => (n : Int)) w1 hown1 rfl (v : Int) rfl hq hsz ?_; intro v' w3 hown3 hb3 hsz3)
        go_roundw
        case rel => exact ⟨pos + n, q ++ [v], by go_num, by omega, HD2, by rw [List.map_append]; exact hown3, hb2.trans hb3, by have := HQ.out; show (q ++ [v]).length ≤ pos + n; rw [List.length_append]; simp only [List.length_cons, List.length_nil]; omega⟩
        case measure => simp [intOf]; omega
    · have HP2 : Hid (o = some q) := by
        have h0 : (bytesU s).drop pos = [] := List.drop_of_length_le (by rw [bytesU_len]; omega)
        rw [HD.out, h0, decS_nil]; simp [Hid]
      obtain ⟨a5, c5, rfl, hcap5, hV5, _⟩ := hown.slice
      rw [List.length_map] at hcap5 ⊢
      have HV := Lib.hid hV5
      clear hown hV5 HD
      go_wp2
      go_ret2
      exact ⟨hb, .inr ⟨q, a5, c5, HP2.out, rfl, hcap5, HV.out⟩⟩
end Go.Proofs.YtbnddpicpomakaaGreatDoor

/- The walks of the reference's Read and of law 19's same. -/
set_option linter.unusedSimpArgs false
set_option linter.unusedVariables false
set_option maxRecDepth 100000
namespace Go.Proofs.YtbnddpicpomakaaGreatDoor
open Go.RowKit

set_option maxHeartbeats 8000000 in
theorem rRead_any19 (s : ByteArray) (w : World) (hs : s.size ≤ 140737488351232) : Calls Tryz.prog 8 #[.string s] w (RetRd19 (readV19 s) w) := by
  obtain ⟨w0, hw0⟩ : ∃ w0, w.alloc (.cells #[.int .i64 0, .int .i64 0] 26) = w0 := ⟨_, rfl⟩
  have hZ0 : Blk (w.alloc (.cells #[.int .i64 0, .int .i64 0] 26)) w.heap.size 26 #[.int .i64 0, .int .i64 0] := Blk.new w _ _
  rw [hw0] at hZ0
  have HZ0 := Lib.hid hZ0
  have HB0 : Hid (Below w.heap.size w w0) := by rw [← hw0]; exact (Below.refl _ w).alloc (Nat.le_refl _) _
  have hlt0 : w.heap.size < w0.heap.size := by rw [← hw0]; simp
  have HL0 : Hid (w.heap.size < w0.heap.size) := hlt0
  clear hZ0 hlt0
  by_cases hbig : 4096 < s.size
  · have q1 : decide ((4096 : Int) < (s.size : Int)) = true := by simp; omega
    have HV : Hid (readV19 s = ([], 0, 2)) := by simp only [readV19, if_pos hbig, Hid]
    clear hbig
    obtain ⟨s1, s2, s3, s4⟩ := ft_end (w := w) (W := w0) 0 2 HZ0.out HB0.out
    have S1 := Lib.hid s1
    have S2 := Lib.hid s2
    have S3 := Lib.hid s3
    clear s1 s2 s3 s4
    go_enter Tryz.func8, Tryz.ntmps8
    go_wp2_with (first | (guard_target =~ wpList _ _ _ (Oper.mk _ (Op.store 26 _ _) _ _ _ _ :: _) _ _; refine wpList_skp rfl (exec_store rfl rfl rfl S1.out) ?_))
    refine bodyPost_ret (results_tmp_cell Tryz.results8 _ _ rfl rfl S2.out) rfl ?_
    unfold RetRd19
    rw [HV.out]
    exact ⟨none, 0, rfl, Nat.le_refl _, by decide, .inl rfl, S3.out⟩
  have q1 : decide ((4096 : Int) < (s.size : Int)) = false := by simp; omega
  have hs4 : s.size ≤ 4096 := by omega
  have HRt := Lib.hid (fun W => rSplit_any s W (by omega))
  have hV0 : readV19 s = if (decS (bytesU s)).isSome = false then ([], 0, 3) else (if (readR (bytesU s) (s.size + 1) (skipR [1] (bytesU s))).2.2 = 0 then ((readR (bytesU s) (s.size + 1) (skipR [1] (bytesU s))).1 ++ [⟨0, (readR (bytesU s) (s.size + 1) (skipR [1] (bytesU s))).2.1, ⟨#[]⟩, 0⟩], 0, 0) else ([], (readR (bytesU s) (s.size + 1) (skipR [1] (bytesU s))).2.1, (readR (bytesU s) (s.size + 1) (skipR [1] (bytesU s))).2.2)) := by
    simp only [readV19, if_neg hbig]
  have HCs := Lib.hid (fun (p : Nat) (hp : p < s.size) W => rCls_any s p W (by omega) (by omega))
  have HTk := Lib.hid (fun (p : Nat) (hp : p < s.size) W => rToken_any s p W (by omega) hp)
  have hbl := bytesU_len s
  have HFs := Lib.hid (fun p => front_size (l := (bytesU s).drop p))
  have HRn : Hid (∀ n p, p < s.size → readR (bytesU s) (n + 1) p = if (frontR ((bytesU s).drop p)).2.2 = 0 then (⟨(frontR ((bytesU s).drop p)).1.kd, p, (frontR ((bytesU s).drop p)).1.tx, (frontR ((bytesU s).drop p)).1.n⟩ :: (readR (bytesU s) n (p + (frontR ((bytesU s).drop p)).2.1 + skipR [1] ((bytesU s).drop (p + (frontR ((bytesU s).drop p)).2.1)))).1, (readR (bytesU s) n (p + (frontR ((bytesU s).drop p)).2.1 + skipR [1] ((bytesU s).drop (p + (frontR ((bytesU s).drop p)).2.1)))).2) else ([], p, (frontR ((bytesU s).drop p)).2.2)) := fun n p hp => by
    rw [readR, if_pos (by rw [hbl]; exact hp)]
  have HRe : Hid (∀ n p, ¬ p < s.size → readR (bytesU s) n p = ([], p, 0)) := fun n p hp => readR_end (by rw [hbl]; exact hp)
  have HSt : Hid (∀ p, p < s.size → skipR [1] ((bytesU s).drop p) = if ([1] : List Int).contains (clsR ((bytesU s).drop p)) then skipR [1] ((bytesU s).drop (p + 1)) + 1 else 0) := fun p hp => skip_step (by rw [hbl]; exact hp)
  have HSe : Hid (∀ p, ¬ p < s.size → skipR [1] ((bytesU s).drop p) = 0) := fun p hp => skip_nil _ (by rw [hbl]; exact hp)
  obtain ⟨full, hfull⟩ : ∃ r, readR (bytesU s) (s.size + 1) (skipR [1] (bytesU s)) = r := ⟨_, rfl⟩
  have HFu : Hid (readR (bytesU s) (s.size + 1) (0 + skipR [1] ((bytesU s).drop 0)) = full) := by rw [List.drop_zero, Nat.zero_add]; exact hfull
  rw [hfull] at hV0
  have HSl : Hid (∀ p, ((bytesU s).drop p).length = s.size - p) := fun p => by rw [List.length_drop, hbl]
  obtain ⟨i0, hi, hz0, hz1, hz2⟩ := info_parts info_rtk
  obtain ⟨dc, hdc⟩ : ∃ dc, decS (bytesU s) = dc := ⟨_, rfl⟩
  rw [hdc] at HRt hV0
  generalize bytesU s = l at *
  clear hbig hbl hfull hdc
  cases dc with
  | none =>
    rw [show (none : Option (List Nat)).isSome = false from rfl, if_pos rfl] at hV0
    have HV := Lib.hid hV0
    clear hV0
    go_enter Tryz.func8, Tryz.ntmps8
    go_wp2_with fail
    refine (HRt.out w0).mono ?_
    rintro e w1 ⟨hb1, ⟨-, rfl⟩ | ⟨x, y, z, ho, -⟩⟩
    rotate_left
    · cases ho
    have HB1 := Lib.hid (HB0.out.trans (hb1.mono HB0.out.size))
    have HZ1 : Hid (Blk w1 w.heap.size 26 #[.int .i64 0, .int .i64 0]) := (hb1.block _ HL0.out).trans HZ0.out
    clear hb1
    obtain ⟨s1, s2, s3, s4⟩ := ft_end (w := w) (W := w1) 0 3 HZ1.out HB1.out
    have S1 := Lib.hid s1
    have S2 := Lib.hid s2
    have S3 := Lib.hid s3
    clear s1 s2 s3 s4
    go_wp2_with (first | (guard_target =~ wpList _ _ _ (Oper.mk _ (Op.store 26 _ _) _ _ _ _ :: _) _ _; refine wpList_skp rfl (exec_store rfl rfl rfl S1.out) ?_))
    refine bodyPost_ret (results_tmp_cell Tryz.results8 _ _ rfl rfl S2.out) rfl ?_
    unfold RetRd19
    rw [HV.out]
    exact ⟨none, 0, rfl, Nat.le_refl _, by decide, .inl rfl, S3.out⟩
  | some dl =>
    rw [if_neg (by simp)] at hV0
    have HV := Lib.hid hV0
    clear hV0
    go_enter Tryz.func8, Tryz.ntmps8
    go_wp2_with fail
    refine (HRt.out w0).mono ?_
    rintro e w2 ⟨hb1, ⟨ho, -⟩ | ⟨pp, aa, cc, -, rfl, -, -⟩⟩
    · cases ho
    have HB2 := Lib.hid (HB0.out.trans (hb1.mono HB0.out.size))
    have HZ2 : Hid (Blk w2 w.heap.size 26 #[.int .i64 0, .int .i64 0]) := (hb1.block _ HL0.out).trans HZ0.out
    have HL2 : Hid (w.heap.size < w2.heap.size) := Nat.lt_of_lt_of_le HL0.out hb1.size
    clear hb1
    go_wp2
    go_loopw [6, 7] (fun v i wr => ∃ (n p : Nat) (acc : List Tk) (cv : Value), cv = v ∧ i = .int .i64 (p : Int) ∧ p ≤ s.size ∧ s.size < p + n ∧ acc.length ≤ p ∧ Hid (wr.ownsRow w2.heap.size 69 4 cv acc.length (cellsTk acc)) ∧ Hid (full = (acc ++ (readR l n (p + skipR [1] (l.drop p))).1, (readR l n (p + skipR [1] (l.drop p))).2)) ∧ Hid (Below w2.heap.size w2 wr)) (fun _ i _ => s.size - (intOf i).toNat)
    case atStart => exact ⟨s.size + 1, 0, [], _, rfl, rfl, by omega, by omega, Nat.zero_le _, World.ownsRow_nil _ _ _ _, by show _ = _; rw [HFu.out]; rfl, Below.refl _ _⟩
    case round =>
      obtain ⟨n, p, acc, cv, rfl, rfl, hp, hn, hac, HO, HI, HBr⟩ := hrel
      have HBw := Lib.hid (HB2.out.trans (HBr.out.mono HB2.out.size))
      have HZr : Hid (Blk wr w.heap.size 26 #[.int .i64 0, .int .i64 0]) := (HBr.out.block _ HL2.out).trans HZ2.out
      have HLr : Hid (w.heap.size < wr.heap.size) := Nat.lt_of_lt_of_le HL2.out HBr.out.size
      by_cases hlt : p < s.size
      · have hst := HSt.out p hlt
        have HCp := Lib.hid (HCs.out p hlt wr)
        by_cases hc1 : clsR (l.drop p) = 1
        · rw [hc1, if_pos (by decide)] at hst
          rw [hc1] at HCp
          have HI2 : Hid (full = (acc ++ (readR l n (p + 1 + skipR [1] (l.drop (p + 1)))).1, (readR l n (p + 1 + skipR [1] (l.drop (p + 1)))).2)) := by
            show _ = _
            rw [HI.out, hst, show p + (skipR [1] (l.drop (p + 1)) + 1) = p + 1 + skipR [1] (l.drop (p + 1)) by omega]
          clear HI hst hc1
          go_wp2_with fail
          refine HCp.out.mono ?_
          rintro e w3 ⟨rfl, rfl⟩
          go_wp2
          go_roundw
          case rel => exact ⟨n, p + 1, acc, cv, rfl, by go_num, by omega, by omega, by omega, HO.out, HI2, HBr.out⟩
          case measure => simp [intOf]; omega
        rw [if_neg (by simpa using hc1)] at hst
        have qc1 : (clsR (l.drop p) == 1) = false := by simp [hc1]
        obtain ⟨C, hC⟩ : ∃ C, clsR (l.drop p) = C := ⟨_, rfl⟩
        rw [hC] at HCp qc1
        clear hC hc1
        obtain ⟨n, rfl⟩ : ∃ m, n = m + 1 := ⟨n - 1, by omega⟩
        have hI2 := HI.out
        rw [hst, show p + 0 = p from rfl, HRn.out n p hlt] at hI2
        have HY := Lib.hid (HTk.out p hlt wr)
        have hsz := HFs.out p
        rw [HSl.out] at hsz
        obtain ⟨⟨⟨kd, at_, tx, nn⟩, z, er⟩, hfr⟩ : ∃ r, frontR (l.drop p) = r := ⟨_, rfl⟩
        rw [hfr] at HY hI2 hsz
        simp only at hI2 hsz
        unfold RetRt at HY
        simp only at HY
        have HI2 := Lib.hid hI2
        clear hI2 hfr HI hst
        go_wp2_with fail
        refine HCp.out.mono ?_
        rintro e w9 ⟨rfl, rfl⟩
        go_wp2_with fail
        refine HY.out.mono ?_
        rintro e w3 ⟨⟨⟨tkd, tat, ttx, tnn⟩, tz, rfl, ht⟩, hb3⟩
        have HB3 := Lib.hid (HBr.out.trans (hb3.mono HBr.out.size))
        have HZ3 : Hid (Blk w3 w.heap.size 26 #[.int .i64 0, .int .i64 0]) := (hb3.block _ HLr.out).trans HZr.out
        have HL3 : Hid (w.heap.size < w3.heap.size) := Nat.lt_of_lt_of_le HLr.out hb3.size
        have HO3 : Hid (w3.ownsRow w2.heap.size 69 4 cv acc.length (cellsTk acc)) := own_below HO.out (Nat.le_refl _) hb3
        clear hb3 HY HO
        have hbA : Below w3.heap.size w3 (w3.alloc (.cells #[.int .i64 tkd, .int .i64 tat, .string ttx, .int .i64 tnn] 69)) := (Below.refl _ w3).alloc (Nat.le_refl _) _
        have hbx : Blk (w3.alloc (.cells #[.int .i64 tkd, .int .i64 tat, .string ttx, .int .i64 tnn] 69)) w3.heap.size 69 #[.int .i64 tkd, .int .i64 tat, .string ttx, .int .i64 tnn] := Blk.new w3 _ _
        obtain ⟨w4, hw4⟩ : ∃ w4, w3.alloc (.cells #[.int .i64 tkd, .int .i64 tat, .string ttx, .int .i64 tnn] 69) = w4 := ⟨_, rfl⟩
        rw [hw4] at hbA hbx
        have HB4 := Lib.hid (HB3.out.trans (hbA.mono HB3.out.size))
        have HZ4 : Hid (Blk w4 w.heap.size 26 #[.int .i64 0, .int .i64 0]) := (hbA.block _ HL3.out).trans HZ3.out
        have HL4 : Hid (w.heap.size < w4.heap.size) := Nat.lt_of_lt_of_le HL3.out hbA.size
        have HO4 : Hid (w4.ownsRow w2.heap.size 69 4 cv acc.length (cellsTk acc)) := own_below HO3.out (Nat.le_refl _) hbA
        by_cases h0 : er = 0
        rotate_left
        · have q0 : (er != 0) = true := by simpa using h0
          rw [if_neg h0] at HI2
          have HV2 : Hid (readV19 s = ([], p, er)) := by
            show _ = _
            rw [HV.out, HI2.out, if_neg h0]
          have HBz := Lib.hid (HB2.out.trans (HB4.out.mono HB2.out.size))
          clear HV HI2 h0 hbA hbx HO3 HO4 hsz ht
          obtain ⟨s1, s2, s3, s4⟩ := ft_end (w := w) (W := w4) (p : Int) er HZ4.out HBz.out
          have S1 := Lib.hid s1
          have S2 := Lib.hid s2
          have S3 := Lib.hid s3
          clear s1 s2 s3 s4
          go_wp2_with (first | (guard_target =~ wpList _ _ _ (Oper.mk _ (Op.store 26 _ _) _ _ _ _ :: _) _ _; refine wpList_skp rfl (exec_store rfl rfl rfl S1.out) ?_))
          refine bodyPost_ret (results_tmp_cell Tryz.results8 _ _ rfl rfl S2.out) rfl ?_
          unfold RetRd19
          rw [HV2.out]
          exact ⟨none, 0, rfl, Nat.le_refl _, by decide, .inl rfl, S3.out⟩
        subst h0
        rw [if_pos rfl] at HI2
        have hz := hsz rfl
        obtain ⟨ht1, ht2⟩ := ht rfl
        injection ht1 with e1 e2 e3 e4
        subst e1 e2 e3 e4
        have hcells : cellsTk acc ++ [.int .i64 tkd, .int .i64 (p : Int), .string ttx, .int .i64 tnn] = cellsTk (acc ++ [(⟨tkd, (p : Int), ttx, tnn⟩ : Tk)]) := by unfold cellsTk; rw [cellsOf_snoc]; rfl
        have HCs := Lib.hid hcells
        obtain ⟨p2, hp2⟩ : ∃ p2, p + z = p2 := ⟨_, rfl⟩
        rw [hp2] at HI2 ht2
        have hp2s : p2 ≤ s.size := by omega
        have hp2l : p + 1 ≤ p2 := by omega
        have HI3 : Hid (full = ((acc ++ [(⟨tkd, (p : Int), ttx, tnn⟩ : Tk)]) ++ (readR l n (p2 + skipR [1] (l.drop p2))).1, (readR l n (p2 + skipR [1] (l.drop p2))).2)) := by
          show _ = _
          rw [HI2.out]; simp
        have z0 := (hbx.cell 0).trans rfl
        have z1 := (hbx.cell 1).trans rfl
        have z2 := (hbx.cell 2).trans rfl
        have z3 := (hbx.cell 3).trans rfl
        have HS4 : Hid (w2.heap.size ≤ w4.heap.size) := HB4.out.size
        have HT2 := Lib.hid ht2
        clear hbA hbx HI2 HO3 hsz hcells hz ht ht2 hp2
        go_wp2_with (at_builtin; refine wpList_appM rfl _ _ 29 rfl w2.heap.size 69 i0 (.agg #[.int .i64 0, .int .i64 0, .string ⟨#[]⟩, .int .i64 0]) 4 40 1 Tryz.underlying29 hi hz0 rfl hz1 (by omega) hz2 (by omega) cv acc.length (cellsTk acc) [.int .i64 tkd, .int .i64 (p : Int), .string ttx, .int .i64 tnn] w4 HO4.out rfl _ rfl rfl (by intro u hu; simp at hu; rcases hu with rfl | rfl | rfl | rfl <;> rfl) rfl (by omega) HS4.out ?_; intro v6 w6 hown6 hc6 hsz6; have HO6 := Lib.hid hown6; have HC6 := Lib.hid hc6; clear hown6 hc6 hsz6)
        have HB6 : Hid (Below w2.heap.size w2 w6) := HB4.out.trans (((Below.refl w2.heap.size w4).alloc HS4.out _).trans (HC6.out.below (by have := HS4.out; simp; omega) (fun g hg => (HO4.out.lt g (by simpa using hg)).1)))
        have hO7 : w6.ownsRow w2.heap.size 69 4 v6 (acc ++ [(⟨tkd, (p : Int), ttx, tnn⟩ : Tk)]).length (cellsTk (acc ++ [(⟨tkd, (p : Int), ttx, tnn⟩ : Tk)])) := by
          rw [← HCs.out, List.length_append]; exact HO6.out
        have HO7 := Lib.hid hO7
        go_roundw
        case rel => exact ⟨n, p2, acc ++ [(⟨tkd, (p : Int), ttx, tnn⟩ : Tk)], v6, rfl, by rw [HT2.out], by omega, by omega, by rw [List.length_append]; show acc.length + 1 ≤ _; omega, HO7.out, HI3.out, HB6.out⟩
        case measure => rw [HT2.out]; simp [intOf]; omega
      · have q0 : decide ((p : Int) < (s.size : Int)) = false := by simp; omega
        have hpe : p = s.size := by omega
        have hI2 := HI.out
        rw [HSe.out p hlt, show p + 0 = p from rfl, HRe.out n p hlt, List.append_nil] at hI2
        have HV2 : Hid (readV19 s = (acc ++ [(⟨0, (s.size : Int), ⟨#[]⟩, 0⟩ : Tk)], 0, 0)) := by
          show _ = _
          rw [HV.out, hI2, ← hpe]; rfl
        have hcells : cellsTk acc ++ [.int .i64 0, .int .i64 (s.size : Int), .string ⟨#[]⟩, .int .i64 0] = cellsTk (acc ++ [(⟨0, (s.size : Int), ⟨#[]⟩, 0⟩ : Tk)]) := by unfold cellsTk; rw [cellsOf_snoc]; rfl
        have HCs := Lib.hid hcells
        have HSr : Hid (w2.heap.size ≤ wr.heap.size) := HBr.out.size
        clear hI2 HI HV hcells hpe
        go_wp2_with (first
          | (guard_target =~ wpList _ _ _ (Oper.mk _ (Op.store 26 _ _) _ _ _ _ :: _) _ _; refine wpList_skp rfl (exec_store rfl rfl rfl S1.out) ?_)
          | (at_builtin; refine wpList_appM rfl _ _ 29 rfl w2.heap.size 69 i0 (.agg #[.int .i64 0, .int .i64 0, .string ⟨#[]⟩, .int .i64 0]) 4 40 1 Tryz.underlying29 hi hz0 rfl hz1 (by omega) hz2 (by omega) cv acc.length (cellsTk acc) [.int .i64 0, .int .i64 (s.size : Int), .string ⟨#[]⟩, .int .i64 0] wr HO.out rfl _ rfl rfl (by intro u hu; simp at hu; rcases hu with rfl | rfl | rfl | rfl <;> rfl) rfl (by omega) HSr.out ?_; intro v6 w6 hown6 hc6 hsz6; have hB6 : Below w2.heap.size w2 w6 := HBr.out.trans (((Below.refl w2.heap.size wr).alloc HSr.out _).trans (hc6.below (by have := HSr.out; simp; omega) (fun g hg => (HO.out.lt g (by simpa using hg)).1))); have hO7 : w6.ownsRow w2.heap.size 69 4 v6 (acc ++ [(⟨0, (s.size : Int), ⟨#[]⟩, 0⟩ : Tk)]).length (cellsTk (acc ++ [(⟨0, (s.size : Int), ⟨#[]⟩, 0⟩ : Tk)])) := (by rw [← HCs.out, List.length_append]; exact hown6); obtain ⟨s1, s2, s3, s4⟩ := ft_end (w := w) (W := w6) 0 0 ((hB6.block _ HL2.out).trans HZ2.out) (HB2.out.trans (hB6.mono HB2.out.size)); have hO8 := own_chg hO7 s4 (fun g hg hm => by have := (hO7.lt g hg).1; have := HL2.out; rw [List.mem_singleton.1 hm] at *; omega); obtain ⟨a8, c8, hv8, hcc8, hcm8, hA8⟩ := own_slice hO8; have HA8 := Lib.hid hA8; have HC8 := Lib.hid hcc8; have HM8 := Lib.hid hcm8; have HV8 := Lib.hid hv8; have S1 := Lib.hid s1; have S2 := Lib.hid s2; have S3 := Lib.hid s3; clear hown6 hc6 hsz6 hB6 hO7 s1 s2 s3 s4 hO8 hv8 hcc8 hcm8 hA8))
        refine bodyPost_ret (results_tmp_cell Tryz.results8 _ _ rfl rfl S2.out) rfl ?_
        unfold RetRd19
        rw [HV2.out]
        exact ⟨a8, c8, by rw [HV8.out]; rfl, HC8.out, HM8.out, HA8.out, S3.out⟩
end Go.Proofs.YtbnddpicpomakaaGreatDoor

/- What alive's readings of law 19 come to. -/
set_option linter.unusedSimpArgs false
set_option linter.unusedVariables false
set_option maxRecDepth 100000
namespace Go.Proofs.YtbnddpicpomakaaGreatDoor
open Go.RowKit

abbrev al1 : ByteArray := ⟨#[32, 65, 98, 60, 61, 49, 50, 32, 39, 105, 116, 39, 39, 115, 39, 32, 120, 39, 48, 65, 39]⟩
abbrev al2 : ByteArray := ⟨#[97, 32, 39, 98]⟩
abbrev al3 : ByteArray := ⟨#[57, 50, 50, 51, 51, 55, 50, 48, 51, 54, 56, 53, 52, 55, 55, 53, 56, 48, 56]⟩
theorem al2_read : readV19 al2 = ([], 2, 40) := by decide +kernel
theorem al3_read : readV19 al3 = ([], 0, 21) := by decide +kernel
theorem al1_read : readV19 al1 = ([⟨1, 1, ⟨#[97, 98]⟩, 0⟩, ⟨5, 3, ⟨#[60, 61]⟩, 0⟩, ⟨2, 5, ⟨#[]⟩, 12⟩, ⟨3, 8, ⟨#[105, 116, 39, 115]⟩, 0⟩, ⟨4, 16, ⟨#[10]⟩, 0⟩, ⟨0, 21, ⟨#[]⟩, 0⟩], 0, 0) := by decide +kernel
end Go.Proofs.YtbnddpicpomakaaGreatDoor

/- The walk of alive of law 19. -/
set_option linter.unusedSimpArgs false
set_option linter.unusedVariables false
set_option maxRecDepth 100000
namespace Go.Proofs.YtbnddpicpomakaaGreatDoor
open Go.RowKit

abbrev al1L : List Tk := [⟨1, 1, ⟨#[97, 98]⟩, 0⟩, ⟨5, 3, ⟨#[60, 61]⟩, 0⟩, ⟨2, 5, ⟨#[]⟩, 12⟩, ⟨3, 8, ⟨#[105, 116, 39, 115]⟩, 0⟩, ⟨4, 16, ⟨#[10]⟩, 0⟩, ⟨0, 21, ⟨#[]⟩, 0⟩]
set_option maxHeartbeats 8000000 in
theorem alive19_any (w : World) (hT : Pre6 w) : Calls Tryz.prog 6 #[] w fun e w' => e = .returned (.bool true) ∧ Below w.heap.size w w' := by
  have HP := Lib.hid (fun W (hb : Below w.heap.size w W) => hT.below hb)
  have H1 : Hid (Calls Tryz.prog 7 #[.string al1] w (RetRd19 (al1L, 0, 0) w)) := by
    have := tkRead_any al1 w hT (by decide)
    rw [al1_read] at this; exact this
  have H2 : Hid (∀ W, Below w.heap.size w W → Calls Tryz.prog 7 #[.string al2] W (RetRd19 ([], 2, 40) W)) := fun W hb => by
    have := tkRead_any al2 W (hT.below hb) (by decide)
    rw [al2_read] at this; exact this
  have H3 : Hid (∀ W, Below w.heap.size w W → Calls Tryz.prog 7 #[.string al3] W (RetRd19 ([], 0, 21) W)) := fun W hb => by
    have := tkRead_any al3 W (hT.below hb) (by decide)
    rw [al3_read] at this; exact this
  clear hT HP
  unfold al1 at H1
  unfold al2 at H2
  unfold al3 at H3
  go_enter Tryz.func6, Tryz.ntmps6
  go_wp2_with fail
  refine H1.out.mono ?_
  rintro e w1 ⟨a1, c1, rfl, hc1, hm1, hA1, hb1⟩
  have HB1 := Lib.hid hb1
  have HA1 := Lib.hid hA1
  simp only [al1L, List.length_cons, List.length_nil] at hc1
  clear hb1 hA1 H1
  have hbA : Below w1.heap.size w1 (w1.alloc (.cells #[.int .i64 0, .int .i64 0] 26)) := (Below.refl _ w1).alloc (Nat.le_refl _) _
  have f1 : (w1.alloc (.cells #[.int .i64 0, .int .i64 0] 26)).cell? ⟨w1.heap.size, 1, none⟩ = some (.int .i64 0) := by rw [World.cell?_alloc_at _ _ _ _ rfl]; rfl
  have hs2 : (w1.alloc (.cells #[.int .i64 0, .int .i64 0] 26)).heap.size = w1.heap.size + 1 := by simp
  obtain ⟨w2, hw2⟩ : ∃ w2, w1.alloc (.cells #[.int .i64 0, .int .i64 0] 26) = w2 := ⟨_, rfl⟩
  rw [hw2] at hbA f1 hs2
  have HB2 := Lib.hid (HB1.out.trans (hbA.mono HB1.out.size))
  have HA2 := Lib.hid ((HA1.out.below hbA).mono hbA.size)
  have HF2 := Lib.hid f1
  have HS2 := Lib.hid hs2
  have HW2 := Lib.hid hw2
  clear hbA f1 hs2 HA1 hw2
  simp only [al1L, List.length_cons, List.length_nil]
  go_wp2_with fail
  rw [HW2.out]
  refine (H2.out _ HB2.out).mono ?_
  rintro e w3 ⟨a3, c3, rfl, hc3, hm3, hA3, hb3⟩
  have HB3 := Lib.hid (HB2.out.trans (hb3.mono HB2.out.size))
  have HA3 := Lib.hid ((HA2.out.below hb3).mono hb3.size)
  have HF3 : Hid (w3.cell? ⟨w1.heap.size, 1, none⟩ = some (.int .i64 0)) := (hb3.cell (p := ⟨w1.heap.size, 1, none⟩) (by show w1.heap.size < w2.heap.size; have := HS2.out; omega)).trans HF2.out
  have HS3 : Hid (w1.heap.size < w3.heap.size) := by show _ < _; have := HS2.out; have := hb3.size; omega
  clear hb3 hA3 HA2 HF2 H2
  have hbA : Below w3.heap.size w3 (w3.alloc (.cells #[.int .i64 2, .int .i64 40] 26)) := (Below.refl _ w3).alloc (Nat.le_refl _) _
  have g0 : (w3.alloc (.cells #[.int .i64 2, .int .i64 40] 26)).cell? ⟨w3.heap.size, 0, none⟩ = some (.int .i64 2) := by rw [World.cell?_alloc_at _ _ _ _ rfl]; rfl
  have g1 : (w3.alloc (.cells #[.int .i64 2, .int .i64 40] 26)).cell? ⟨w3.heap.size, 1, none⟩ = some (.int .i64 40) := by rw [World.cell?_alloc_at _ _ _ _ rfl]; rfl
  have hs4 : (w3.alloc (.cells #[.int .i64 2, .int .i64 40] 26)).heap.size = w3.heap.size + 1 := by simp
  obtain ⟨w4, hw4⟩ : ∃ w4, w3.alloc (.cells #[.int .i64 2, .int .i64 40] 26) = w4 := ⟨_, rfl⟩
  rw [hw4] at hbA g0 g1 hs4
  have HB4 := Lib.hid (HB3.out.trans (hbA.mono HB3.out.size))
  have HA4 := Lib.hid ((HA3.out.below hbA).mono hbA.size)
  have HF4 : Hid (w4.cell? ⟨w1.heap.size, 1, none⟩ = some (.int .i64 0)) := (hbA.cell (p := ⟨w1.heap.size, 1, none⟩) HS3.out).trans HF3.out
  have HG4 : Hid (w4.cell? ⟨w3.heap.size, 0, none⟩ = some (.int .i64 2) ∧ w4.cell? ⟨w3.heap.size, 1, none⟩ = some (.int .i64 40)) := ⟨g0, g1⟩
  have HS4 := Lib.hid hs4
  clear hbA g0 g1 hs4 HA3 HF3
  simp only [List.length_nil]
  go_wp2_with fail
  refine (H3.out _ HB4.out).mono ?_
  rintro e w5 ⟨a5, c5, rfl, hc5, hm5, hA5, hb5⟩
  have HB5 := Lib.hid (HB4.out.trans (hb5.mono HB4.out.size))
  have HA5 := Lib.hid ((HA4.out.below hb5).mono hb5.size)
  have HF5 : Hid (w5.cell? ⟨w1.heap.size, 1, none⟩ = some (.int .i64 0)) := (hb5.cell (p := ⟨w1.heap.size, 1, none⟩) (by show w1.heap.size < w4.heap.size; have := HS4.out; have := HS3.out; omega)).trans HF4.out
  have HG5 : Hid (w5.cell? ⟨w3.heap.size, 0, none⟩ = some (.int .i64 2) ∧ w5.cell? ⟨w3.heap.size, 1, none⟩ = some (.int .i64 40)) := ⟨(hb5.cell (p := ⟨w3.heap.size, 0, none⟩) (by show w3.heap.size < w4.heap.size; have := HS4.out; omega)).trans HG4.out.1, (hb5.cell (p := ⟨w3.heap.size, 1, none⟩) (by show w3.heap.size < w4.heap.size; have := HS4.out; omega)).trans HG4.out.2⟩
  have HT5 : Hid (w1.heap.size < w5.heap.size ∧ w3.heap.size < w5.heap.size) := by show _ ∧ _; have := HS4.out; have := HS3.out; have := hb5.size; omega
  clear hb5 hA5 HA4 HF4 HG4 H3
  have hbA : Below w5.heap.size w5 (w5.alloc (.cells #[.int .i64 0, .int .i64 21] 26)) := (Below.refl _ w5).alloc (Nat.le_refl _) _
  have k1 : (w5.alloc (.cells #[.int .i64 0, .int .i64 21] 26)).cell? ⟨w5.heap.size, 1, none⟩ = some (.int .i64 21) := by rw [World.cell?_alloc_at _ _ _ _ rfl]; rfl
  obtain ⟨w6, hw6⟩ : ∃ w6, w5.alloc (.cells #[.int .i64 0, .int .i64 21] 26) = w6 := ⟨_, rfl⟩
  rw [hw6] at hbA k1
  have HB6 := Lib.hid (HB5.out.trans (hbA.mono HB5.out.size))
  have hA6 := (HA5.out.below hbA).mono hbA.size
  have f1 := (hbA.cell (p := ⟨w1.heap.size, 1, none⟩) HT5.out.1).trans HF5.out
  have g0 := (hbA.cell (p := ⟨w3.heap.size, 0, none⟩) HT5.out.2).trans HG5.out.1
  have g1 := (hbA.cell (p := ⟨w3.heap.size, 1, none⟩) HT5.out.2).trans HG5.out.2
  obtain ⟨b0, o0, hb0', -, t00, t01, t02, t03⟩ := tkAt hA6 (k := 0) (by decide)
  obtain ⟨b1, o1, hb1', -, t10, t11, t12, t13⟩ := tkAt hA6 (k := 1) (by decide)
  rw [hb0'] at hb1'
  injection hb1' with hb1'
  injection hb1' with e1 e2
  subst e1 e2
  obtain ⟨b2, o2, hb2', -, t20, t21, t22, t23⟩ := tkAt hA6 (k := 2) (by decide)
  rw [hb0'] at hb2'
  injection hb2' with hb2'
  injection hb2' with e1 e2
  subst e1 e2
  obtain ⟨b3, o3, hb3', -, t30, t31, t32, t33⟩ := tkAt hA6 (k := 3) (by decide)
  rw [hb0'] at hb3'
  injection hb3' with hb3'
  injection hb3' with e1 e2
  subst e1 e2
  obtain ⟨b4, o4, hb4', -, t40, t41, t42, t43⟩ := tkAt hA6 (k := 4) (by decide)
  rw [hb0'] at hb4'
  injection hb4' with hb4'
  injection hb4' with e1 e2
  subst e1 e2
  obtain ⟨b5, o5, hb5', -, t50, t51, t52, t53⟩ := tkAt hA6 (k := 5) (by decide)
  rw [hb0'] at hb5'
  injection hb5' with hb5'
  injection hb5' with e1 e2
  subst e1 e2
  subst hb0'
  have u00 := t00
  simp only [Nat.zero_mul, Nat.one_mul, Nat.add_zero, Nat.reduceMul, List.getElem_cons_zero, List.getElem_cons_succ] at u00
  have u01 := t01
  simp only [Nat.zero_mul, Nat.one_mul, Nat.add_zero, Nat.reduceMul, List.getElem_cons_zero, List.getElem_cons_succ] at u01
  have u02 := t02
  simp only [Nat.zero_mul, Nat.one_mul, Nat.add_zero, Nat.reduceMul, List.getElem_cons_zero, List.getElem_cons_succ] at u02
  have u03 := t03
  simp only [Nat.zero_mul, Nat.one_mul, Nat.add_zero, Nat.reduceMul, List.getElem_cons_zero, List.getElem_cons_succ] at u03
  have u10 := t10
  simp only [Nat.zero_mul, Nat.one_mul, Nat.add_zero, Nat.reduceMul, List.getElem_cons_zero, List.getElem_cons_succ] at u10
  have u11 := t11
  simp only [Nat.zero_mul, Nat.one_mul, Nat.add_zero, Nat.reduceMul, List.getElem_cons_zero, List.getElem_cons_succ] at u11
  have u12 := t12
  simp only [Nat.zero_mul, Nat.one_mul, Nat.add_zero, Nat.reduceMul, List.getElem_cons_zero, List.getElem_cons_succ] at u12
  have u13 := t13
  simp only [Nat.zero_mul, Nat.one_mul, Nat.add_zero, Nat.reduceMul, List.getElem_cons_zero, List.getElem_cons_succ] at u13
  have u20 := t20
  simp only [Nat.zero_mul, Nat.one_mul, Nat.add_zero, Nat.reduceMul, List.getElem_cons_zero, List.getElem_cons_succ] at u20
  have u21 := t21
  simp only [Nat.zero_mul, Nat.one_mul, Nat.add_zero, Nat.reduceMul, List.getElem_cons_zero, List.getElem_cons_succ] at u21
  have u22 := t22
  simp only [Nat.zero_mul, Nat.one_mul, Nat.add_zero, Nat.reduceMul, List.getElem_cons_zero, List.getElem_cons_succ] at u22
  have u23 := t23
  simp only [Nat.zero_mul, Nat.one_mul, Nat.add_zero, Nat.reduceMul, List.getElem_cons_zero, List.getElem_cons_succ] at u23
  have u30 := t30
  simp only [Nat.zero_mul, Nat.one_mul, Nat.add_zero, Nat.reduceMul, List.getElem_cons_zero, List.getElem_cons_succ] at u30
  have u31 := t31
  simp only [Nat.zero_mul, Nat.one_mul, Nat.add_zero, Nat.reduceMul, List.getElem_cons_zero, List.getElem_cons_succ] at u31
  have u32 := t32
  simp only [Nat.zero_mul, Nat.one_mul, Nat.add_zero, Nat.reduceMul, List.getElem_cons_zero, List.getElem_cons_succ] at u32
  have u33 := t33
  simp only [Nat.zero_mul, Nat.one_mul, Nat.add_zero, Nat.reduceMul, List.getElem_cons_zero, List.getElem_cons_succ] at u33
  have u40 := t40
  simp only [Nat.zero_mul, Nat.one_mul, Nat.add_zero, Nat.reduceMul, List.getElem_cons_zero, List.getElem_cons_succ] at u40
  have u41 := t41
  simp only [Nat.zero_mul, Nat.one_mul, Nat.add_zero, Nat.reduceMul, List.getElem_cons_zero, List.getElem_cons_succ] at u41
  have u42 := t42
  simp only [Nat.zero_mul, Nat.one_mul, Nat.add_zero, Nat.reduceMul, List.getElem_cons_zero, List.getElem_cons_succ] at u42
  have u43 := t43
  simp only [Nat.zero_mul, Nat.one_mul, Nat.add_zero, Nat.reduceMul, List.getElem_cons_zero, List.getElem_cons_succ] at u43
  have u50 := t50
  simp only [Nat.zero_mul, Nat.one_mul, Nat.add_zero, Nat.reduceMul, List.getElem_cons_zero, List.getElem_cons_succ] at u50
  have u51 := t51
  simp only [Nat.zero_mul, Nat.one_mul, Nat.add_zero, Nat.reduceMul, List.getElem_cons_zero, List.getElem_cons_succ] at u51
  have u52 := t52
  simp only [Nat.zero_mul, Nat.one_mul, Nat.add_zero, Nat.reduceMul, List.getElem_cons_zero, List.getElem_cons_succ] at u52
  have u53 := t53
  simp only [Nat.zero_mul, Nat.one_mul, Nat.add_zero, Nat.reduceMul, List.getElem_cons_zero, List.getElem_cons_succ] at u53
  clear t00 t01 t02 t03 t10 t11 t12 t13 t20 t21 t22 t23 t30 t31 t32 t33 t40 t41 t42 t43 t50 t51 t52 t53 hbA hA6 HA5 HF5 HG5
  go_wp2
  go_ret
  exact ⟨ret_b (by first | rfl | simp), HB6.out⟩
end Go.Proofs.YtbnddpicpomakaaGreatDoor
