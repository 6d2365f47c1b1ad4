/- Several texts of one proof, one behind the other. -/
import Derived.Test.YtialpfdhdcjpaaaSPk13
set_option linter.unusedSimpArgs false
set_option linter.unusedVariables false

/- The walk of schema.encoded, for tables. -/
set_option linter.unusedSimpArgs false
set_option linter.unusedVariables false
set_option maxRecDepth 100000
namespace Go.Proofs.Ytialpfdhdcjpaaa
open Go.RowKit

theorem infoZ_sEncodedT_any : (Try.prog.info? 25).map (·.size) = some 8 := by kernel_rfl
theorem storeZ_sEncodedT_any {w : World} {b : Nat} {old new : Array Value} {U : TypeId} (h : Blk w b U old) (ho : old.size = 8) (hn : new.size = 8) (h1 : new.all (·.oneCell') = true) : (storeVar 25 ⟨b, 0, none⟩ (.agg new)).run Try.prog w = .ok () (w.setRow b new) :=
  run_storeVar_row w b U 25 old new h (by rw [infoZ_sEncodedT_any, hn]) (by rw [ho, hn]) h1
theorem loadZ_sEncodedT_any {w : World} {b : Nat} {cs : Array Value} {U : TypeId} (h : Blk w b U cs) (hn : cs.size = 8) : (loadVar 25 ⟨b, 0, none⟩).run Try.prog w = .ok (.agg cs) w :=
  run_loadVar_row w b U 25 cs (0, 0) _ h Try.underlying25 rfl (by rw [infoZ_sEncodedT_any, hn])

set_option maxHeartbeats 4000000 in
theorem sEncodedT_any (t : Tb) (m : TM) (l : List Nat) (a : Option Addr) (n c : Nat) (w : World) (h : TAt w t m) (hB : Bs w.heap.size w a l) (hn : n = l.length) :
    Calls Try.prog 59 #[m.v t, .func (.func 11) #[] #[], .slice a n c] w (RetEd w (writeT t) l (.agg (m.cs t)) (.agg #[.string ⟨#[]⟩, .slice none 0 0, .slice none 0 0, .string ⟨#[]⟩, .int .i64 0, .int .i64 0, .bool false, .bool false])) := by
  have HW := Lib.hid (fun W (hb : Below w.heap.size w W) => sWrite_any t m W (h.later hb))
  generalize writeT t = X at *
  obtain ⟨M, q⟩ := X
  have HBel0 : Hid (Below w.heap.size w ((w.alloc (.cells (m.cs t) 25)).alloc (.cells #[.string ⟨#[]⟩, .slice none 0 0, .slice none 0 0, .string ⟨#[]⟩, .int .i64 0, .int .i64 0, .bool false, .bool false] 25))) := ((Below.refl _ w).alloc (Nat.le_refl _) _).alloc (by simp) _
  have HK0 : Hid (Blk ((w.alloc (.cells (m.cs t) 25)).alloc (.cells #[.string ⟨#[]⟩, .slice none 0 0, .slice none 0 0, .string ⟨#[]⟩, .int .i64 0, .int .i64 0, .bool false, .bool false] 25)) w.heap.size 25 (m.cs t)) := (Blk.new w 25 (m.cs t)).alloc _
  have HR0 : Hid (Blk ((w.alloc (.cells (m.cs t) 25)).alloc (.cells #[.string ⟨#[]⟩, .slice none 0 0, .slice none 0 0, .string ⟨#[]⟩, .int .i64 0, .int .i64 0, .bool false, .bool false] 25)) (w.heap.size + 1) 25 #[.string ⟨#[]⟩, .slice none 0 0, .slice none 0 0, .string ⟨#[]⟩, .int .i64 0, .int .i64 0, .bool false, .bool false]) := by
    have := Blk.new (w.alloc (.cells (m.cs t) 25)) 25 #[.string ⟨#[]⟩, .slice none 0 0, .slice none 0 0, .string ⟨#[]⟩, .int .i64 0, .int .i64 0, .bool false, .bool false]
    rw [show (w.alloc (.cells (m.cs t) 25)).heap.size = w.heap.size + 1 by simp] at this
    exact this
  have hs0 : w.heap.size + 1 < ((w.alloc (.cells (m.cs t) 25)).alloc (.cells #[.string ⟨#[]⟩, .slice none 0 0, .slice none 0 0, .string ⟨#[]⟩, .int .i64 0, .int .i64 0, .bool false, .bool false] 25)).heap.size := by simp
  have HE := Lib.hid (fun W (hb : Below w.heap.size w W) b n1 c1 (hb2 : Bs W.heap.size W b M) (h1 : n1 = M.length) => Equal_any M l b a n1 c1 n c W hb2 ((hB.below hb).mono hb.size) h1 hn)
  clear hB hn h
  go_enter Try.func59, Try.ntmps59
  go_wp2_with fail
  refine (HW.out _ HBel0.out).mono ?_
  rintro e w1 ⟨a1, c1, rfl, hc1, hB1, hb1⟩
  dsimp only at hB1
  have hK1 := HK0.out.belS hb1 (by omega)
  have hR1 := HR0.out.belS hb1 hs0
  have hs1 := Nat.lt_of_lt_of_le hs0 hb1.size
  have HB1 := Lib.hid (HBel0.out.trans (hb1.mono (by omega)))
  have HK1 := Lib.hid hK1
  have HR1 := Lib.hid hR1
  have HBs := Lib.hid hB1
  have x0 := (hK1.cell 0).trans rfl
  have x1 := (hK1.cell 1).trans rfl
  have x2 := (hK1.cell 2).trans rfl
  have x3 := (hK1.cell 3).trans rfl
  have x4 := (hK1.cell 4).trans rfl
  have x5 := (hK1.cell 5).trans rfl
  have x6 := (hK1.cell 6).trans rfl
  have x7 := (hK1.cell 7).trans rfl
  clear hb1 hs0 HBel0 HK0 HR0 HW hc1 hB1 hK1 hR1
  by_cases hq : q = 0
  · subst hq
    go_wp2_with fail
    refine (HE.out _ HB1.out _ _ _ HBs.out rfl).mono ?_
    rintro e w2 ⟨rfl, hb2⟩
    have hK2 := HK1.out.belS hb2 (by omega)
    have hR2 := HR1.out.belS hb2 hs1
    have hs2 := Nat.lt_of_lt_of_le hs1 hb2.size
    have HB2 := Lib.hid (HB1.out.trans (hb2.mono (by omega)))
    have HR2 := Lib.hid hR2
    clear x0 x1 x2 x3 x4 x5 x6 x7
    have x0 := (hK2.cell 0).trans rfl
    have x1 := (hK2.cell 1).trans rfl
    have x2 := (hK2.cell 2).trans rfl
    have x3 := (hK2.cell 3).trans rfl
    have x4 := (hK2.cell 4).trans rfl
    have x5 := (hK2.cell 5).trans rfl
    have x6 := (hK2.cell 6).trans rfl
    have x7 := (hK2.cell 7).trans rfl
    clear hb2 hK2 hR2 HK1 HR1 HB1 HBs
    by_cases hM : M = l
    · subst hM
      have q1 : decide (M = M) = true := by simp
      have HS : Hid ((storeVar 25 ⟨w.heap.size + 1, 0, none⟩ (.agg (m.cs t))).run Try.prog w2 = .ok () (w2.setRow (w.heap.size + 1) (m.cs t))) := storeZ_sEncodedT_any HR2.out rfl rfl (by simp [Value.oneCell'])
      have HL : Hid ((loadVar 25 ⟨w.heap.size + 1, 0, none⟩).run Try.prog (w2.setRow (w.heap.size + 1) (m.cs t)) = .ok (.agg (m.cs t)) (w2.setRow (w.heap.size + 1) (m.cs t))) := loadZ_sEncodedT_any (Blk.setRow (new := (m.cs t)) HR2.out) rfl
      have HF : Hid (Below w.heap.size w (w2.setRow (w.heap.size + 1) (m.cs t))) := HB2.out.trans (Chg.below (S := [w.heap.size + 1]) ((Chg.refl _ _).setRow (.inl (by simp)) _) (by omega) (by simp))
      go_wp2_with (first | (guard_target =~ wpList _ _ _ (Oper.mk _ (Op.store 25 _ _) _ _ _ _ :: _) _ _; refine wpList_skp rfl (exec_store rfl rfl rfl HS.out) ?_))
      exact bodyPost_ret (v := .tuple #[.agg (m.cs t), .int .i64 0]) (results_cell_tmp Try.results59 _ _ rfl rfl HL.out) rfl ⟨_, _, rfl, .inl ⟨rfl, rfl, rfl⟩, HF.out⟩
    · have q1 : decide (M = l) = false := decide_eq_false hM
      have HS : Hid ((storeVar 25 ⟨w.heap.size + 1, 0, none⟩ (.agg #[.string ⟨#[]⟩, .slice none 0 0, .slice none 0 0, .string ⟨#[]⟩, .int .i64 0, .int .i64 0, .bool false, .bool false])).run Try.prog (w2.alloc (.cells #[.string ⟨#[]⟩, .slice none 0 0, .slice none 0 0, .string ⟨#[]⟩, .int .i64 0, .int .i64 0, .bool false, .bool false] 25)) = .ok () ((w2.alloc (.cells #[.string ⟨#[]⟩, .slice none 0 0, .slice none 0 0, .string ⟨#[]⟩, .int .i64 0, .int .i64 0, .bool false, .bool false] 25)).setRow (w.heap.size + 1) #[.string ⟨#[]⟩, .slice none 0 0, .slice none 0 0, .string ⟨#[]⟩, .int .i64 0, .int .i64 0, .bool false, .bool false])) := storeZ_sEncodedT_any (HR2.out.alloc _) rfl rfl (by simp [Value.oneCell'])
      have HL : Hid ((loadVar 25 ⟨w.heap.size + 1, 0, none⟩).run Try.prog ((w2.alloc (.cells #[.string ⟨#[]⟩, .slice none 0 0, .slice none 0 0, .string ⟨#[]⟩, .int .i64 0, .int .i64 0, .bool false, .bool false] 25)).setRow (w.heap.size + 1) #[.string ⟨#[]⟩, .slice none 0 0, .slice none 0 0, .string ⟨#[]⟩, .int .i64 0, .int .i64 0, .bool false, .bool false]) = .ok (.agg #[.string ⟨#[]⟩, .slice none 0 0, .slice none 0 0, .string ⟨#[]⟩, .int .i64 0, .int .i64 0, .bool false, .bool false]) ((w2.alloc (.cells #[.string ⟨#[]⟩, .slice none 0 0, .slice none 0 0, .string ⟨#[]⟩, .int .i64 0, .int .i64 0, .bool false, .bool false] 25)).setRow (w.heap.size + 1) #[.string ⟨#[]⟩, .slice none 0 0, .slice none 0 0, .string ⟨#[]⟩, .int .i64 0, .int .i64 0, .bool false, .bool false])) := loadZ_sEncodedT_any (Blk.setRow (new := #[.string ⟨#[]⟩, .slice none 0 0, .slice none 0 0, .string ⟨#[]⟩, .int .i64 0, .int .i64 0, .bool false, .bool false]) (HR2.out.alloc (.cells #[.string ⟨#[]⟩, .slice none 0 0, .slice none 0 0, .string ⟨#[]⟩, .int .i64 0, .int .i64 0, .bool false, .bool false] 25))) rfl
      have HF : Hid (Below w.heap.size w ((w2.alloc (.cells #[.string ⟨#[]⟩, .slice none 0 0, .slice none 0 0, .string ⟨#[]⟩, .int .i64 0, .int .i64 0, .bool false, .bool false] 25)).setRow (w.heap.size + 1) #[.string ⟨#[]⟩, .slice none 0 0, .slice none 0 0, .string ⟨#[]⟩, .int .i64 0, .int .i64 0, .bool false, .bool false])) := (HB2.out.alloc (by omega) _).trans (Chg.below (S := [w.heap.size + 1]) ((Chg.refl _ _).setRow (.inl (by simp)) _) (by simp; omega) (by simp))
      clear x0 x1 x2 x3 x4 x5 x6 x7
      go_wp2_with (first | (guard_target =~ wpList _ _ _ (Oper.mk _ (Op.store 25 _ _) _ _ _ _ :: _) _ _; refine wpList_skp rfl (exec_store rfl rfl rfl HS.out) ?_))
      exact bodyPost_ret (v := .tuple #[.agg #[.string ⟨#[]⟩, .slice none 0 0, .slice none 0 0, .string ⟨#[]⟩, .int .i64 0, .int .i64 0, .bool false, .bool false], .int .i64 52]) (results_cell_tmp Try.results59 _ _ rfl rfl HL.out) rfl ⟨_, _, rfl, .inr ⟨fun h => hM (congrArg Prod.fst h), rfl, rfl⟩, HF.out⟩
  · have q1 : (q != 0) = true := by simpa using hq
    have HS : Hid ((storeVar 25 ⟨w.heap.size + 1, 0, none⟩ (.agg #[.string ⟨#[]⟩, .slice none 0 0, .slice none 0 0, .string ⟨#[]⟩, .int .i64 0, .int .i64 0, .bool false, .bool false])).run Try.prog (w1.alloc (.cells #[.string ⟨#[]⟩, .slice none 0 0, .slice none 0 0, .string ⟨#[]⟩, .int .i64 0, .int .i64 0, .bool false, .bool false] 25)) = .ok () ((w1.alloc (.cells #[.string ⟨#[]⟩, .slice none 0 0, .slice none 0 0, .string ⟨#[]⟩, .int .i64 0, .int .i64 0, .bool false, .bool false] 25)).setRow (w.heap.size + 1) #[.string ⟨#[]⟩, .slice none 0 0, .slice none 0 0, .string ⟨#[]⟩, .int .i64 0, .int .i64 0, .bool false, .bool false])) := storeZ_sEncodedT_any (HR1.out.alloc _) rfl rfl (by simp [Value.oneCell'])
    have HL : Hid ((loadVar 25 ⟨w.heap.size + 1, 0, none⟩).run Try.prog ((w1.alloc (.cells #[.string ⟨#[]⟩, .slice none 0 0, .slice none 0 0, .string ⟨#[]⟩, .int .i64 0, .int .i64 0, .bool false, .bool false] 25)).setRow (w.heap.size + 1) #[.string ⟨#[]⟩, .slice none 0 0, .slice none 0 0, .string ⟨#[]⟩, .int .i64 0, .int .i64 0, .bool false, .bool false]) = .ok (.agg #[.string ⟨#[]⟩, .slice none 0 0, .slice none 0 0, .string ⟨#[]⟩, .int .i64 0, .int .i64 0, .bool false, .bool false]) ((w1.alloc (.cells #[.string ⟨#[]⟩, .slice none 0 0, .slice none 0 0, .string ⟨#[]⟩, .int .i64 0, .int .i64 0, .bool false, .bool false] 25)).setRow (w.heap.size + 1) #[.string ⟨#[]⟩, .slice none 0 0, .slice none 0 0, .string ⟨#[]⟩, .int .i64 0, .int .i64 0, .bool false, .bool false])) := loadZ_sEncodedT_any (Blk.setRow (new := #[.string ⟨#[]⟩, .slice none 0 0, .slice none 0 0, .string ⟨#[]⟩, .int .i64 0, .int .i64 0, .bool false, .bool false]) (HR1.out.alloc (.cells #[.string ⟨#[]⟩, .slice none 0 0, .slice none 0 0, .string ⟨#[]⟩, .int .i64 0, .int .i64 0, .bool false, .bool false] 25))) rfl
    have HF : Hid (Below w.heap.size w ((w1.alloc (.cells #[.string ⟨#[]⟩, .slice none 0 0, .slice none 0 0, .string ⟨#[]⟩, .int .i64 0, .int .i64 0, .bool false, .bool false] 25)).setRow (w.heap.size + 1) #[.string ⟨#[]⟩, .slice none 0 0, .slice none 0 0, .string ⟨#[]⟩, .int .i64 0, .int .i64 0, .bool false, .bool false])) := (HB1.out.alloc (by omega) _).trans (Chg.below (S := [w.heap.size + 1]) ((Chg.refl _ _).setRow (.inl (by simp)) _) (by simp; omega) (by simp))
    clear x0 x1 x2 x3 x4 x5 x6 x7
    go_wp2_with (first | (guard_target =~ wpList _ _ _ (Oper.mk _ (Op.store 25 _ _) _ _ _ _ :: _) _ _; refine wpList_skp rfl (exec_store rfl rfl rfl HS.out) ?_))
    exact bodyPost_ret (v := .tuple #[.agg #[.string ⟨#[]⟩, .slice none 0 0, .slice none 0 0, .string ⟨#[]⟩, .int .i64 0, .int .i64 0, .bool false, .bool false], .int .i64 52]) (results_cell_tmp Try.results59 _ _ rfl rfl HL.out) rfl ⟨_, _, rfl, .inr ⟨fun h => hq (congrArg Prod.snd h), rfl, rfl⟩, HF.out⟩
end Go.Proofs.Ytialpfdhdcjpaaa

/- The walks of the decoder's methods. -/
set_option linter.unusedSimpArgs false
set_option linter.unusedVariables false
set_option maxRecDepth 100000
namespace Go.Proofs.Ytialpfdhdcjpaaa
open Go.RowKit

/-- Where bytes lie. -/
structure BM where
  a : Option Addr
  n : Nat
  c : Nat

/-- The decoder in block D reads the bytes l, and is at p. -/
structure DecAt (w : World) (D : Nat) (m : BM) (l : List Nat) (p : Nat) : Prop where
  blk : Blk w D 91 #[.slice m.a m.n m.c, .int .i64 (p : Int)]
  bs : Bs D w m.a l
  len : m.n = l.length
  cap : m.n ≤ m.c
  max : m.n ≤ 1000000
  at_ : p ≤ 1000000
theorem DecAt.lt {w : World} {D : Nat} {m : BM} {l : List Nat} {p : Nat} (h : DecAt w D m l p) : D < w.heap.size := h.blk.lt
theorem DecAt.drew {w : World} {D : Nat} {m : BM} {l : List Nat} {p : Nat} (h : DecAt w D m l p) : DecAt w.drew D m l p := ⟨h.blk, h.bs, h.len, h.cap, h.max, h.at_⟩
theorem DecAt.chg {w w' : World} {D : Nat} {m : BM} {l : List Nat} {p : Nat} {S : List Nat} (h : DecAt w D m l p) (hc : Chg S w w') (hS : ∀ k ∈ S, D < k) : DecAt w' D m l p :=
  ⟨h.blk.chg hc (fun hm => by have := hS D hm; omega), h.bs.below (hc.below (Nat.le_of_lt h.lt) (fun k hk => Nat.le_of_lt (hS k hk))), h.len, h.cap, h.max, h.at_⟩

/-- What a call leaves behind. -/
def RetDe (w : World) (D : Nat) (m : BM) (l : List Nat) (v : Value) (p : Nat) (e : Ending) (w' : World) : Prop := e = .returned v ∧ DecAt w' D m l p ∧ Chg [D] w w'

set_option maxHeartbeats 1000000 in
theorem dPass_any (D : Nat) (m : BM) (l : List Nat) (p : Nat) (en q : Int) (P : Nat) (hP : P = if q = 0 then en.toNat else p) (w : World) (h : DecAt w D m l p) (he : 0 ≤ en) (he2 : en ≤ 1000000) :
    Calls Try.prog 79 #[.pointer (some ⟨D, 0, none⟩), .int .i64 en, .int .i64 q] w fun e w' => e = .returned (.tuple #[]) ∧ DecAt w' D m l P ∧ Chg [D] w w' := by
  by_cases hq : q = 0
  · subst hq
    rw [if_pos rfl] at hP
    subst hP
    have c1 : w.cell? ⟨D, 1, none⟩ = some (.int .i64 (p : Int)) := (h.blk.cell 1).trans rfl
    have f1 := h.blk.frozen 1
    have l1 := h.lt
    have HA : Hid (DecAt (w.setCell ⟨D, 1, none⟩ (.int .i64 en)) D m l en.toNat) := by
      have hb := h.blk.set_ 1 (.int .i64 en)
      refine ⟨?_, h.bs.below (((Chg.refl [D] w).setCell (.inl (by simp)) _).below (Nat.le_of_lt h.lt) (by simp)), h.len, h.cap, h.max, by omega⟩
      rw [show ((en.toNat : Nat) : Int) = en by omega]
      exact hb
    have HC : Hid (Chg [D] w (w.setCell ⟨D, 1, none⟩ (.int .i64 en))) := (Chg.refl _ _).setCell (.inl (by simp)) _
    clear h
    go_enter Try.func79, Try.ntmps79
    go_wp2
    exact bodyPost_end (v := .tuple #[]) (results_none rfl _ _ _) rfl ⟨rfl, HA.out, HC.out⟩
  · have q1 : (q == 0) = false := by simpa using hq
    rw [if_neg hq] at hP
    subst hP
    have HA := Lib.hid h
    clear h
    go_enter Try.func79, Try.ntmps79
    go_wp2
    exact bodyPost_end (v := .tuple #[]) (results_none rfl _ _ _) rfl ⟨rfl, HA.out, Chg.refl _ _⟩

theorem textR_bd (l : List Nat) (h : ∀ c ∈ l, c < 256) (p : Int) (hp : p ≤ 9223372036854775807) : 0 ≤ (textR l p).2.1 ∧ (textR l p).2.1 ≤ l.length ∧ ((textR l p).2.2 ≠ 0 → (textR l p).1 = ⟨#[]⟩) := by
  have hb := getR_lt l h p hp
  unfold textR
  dsimp only
  split
  · exact ⟨by simp, by simp, fun _ => rfl⟩
  · split
    · exact ⟨by simp, by simp, fun _ => rfl⟩
    · exact ⟨by dsimp only; omega, by dsimp only; omega, fun h0 => absurd rfl h0⟩

set_option maxHeartbeats 2000000 in
theorem dNumber_any (D : Nat) (m : BM) (l : List Nat) (p : Nat) (w : World) (h : DecAt w D m l p) :
    Calls Try.prog 56 #[.pointer (some ⟨D, 0, none⟩)] w (RetDe w D m l (.int .i64 (sdI l p).1) (sdI l p).2) := by
  have hp := h.at_
  have hmax := h.max
  have hlen := h.len
  have hbd := getR_lt l h.bs.1 (p : Int) (by omega)
  have HG := Lib.hid (getInt_any D l m.a m.n m.c (p : Int) w.drew h.bs h.len (by omega) h.cap (by omega) (by omega))
  have HP := Lib.hid (fun en q P hP (he : 0 ≤ en) (he2 : en ≤ 1000000) => dPass_any D m l p en q P hP w.drew h.drew he he2)
  have hlt := h.lt
  have hblk := h.blk
  have e0 : ∀ W, Later w.drew W → W.cell? ⟨D, 0, none⟩ = some (.slice m.a m.n m.c) := fun W hW => (Below.cell hW (p := ⟨D, 0, none⟩) (by exact hlt)).trans ((hblk.cell 0).trans rfl)
  have e1 : ∀ W, Later w.drew W → W.cell? ⟨D, 1, none⟩ = some (.int .i64 (p : Int)) := fun W hW => (Below.cell hW (p := ⟨D, 1, none⟩) (by exact hlt)).trans ((hblk.cell 1).trans rfl)
  unfold sdI
  generalize getR l (p : Int) = X at *
  obtain ⟨v, n, q⟩ := X
  dsimp only at hbd HG ⊢
  obtain ⟨P, hP⟩ : ∃ P, P = (if (q : Int) = 0 then n.toNat else p) := ⟨_, rfl⟩
  have HP2 := Lib.hid (HP.out n (q : Int) P hP hbd.2.1 (by omega))
  clear HP h hblk hlen hbd
  obtain ⟨z, hz⟩ : ∃ z, (if q = 0 then zagZ v else 0) = z := ⟨_, rfl⟩
  rw [hz] at HG
  have hZ : (if q = 0 then (zagZ v, n.toNat) else (0, p)) = (z, P) := by
    rw [← hz, hP]
    by_cases h0 : q = 0
    · subst h0; simp
    · rw [if_neg h0, if_neg h0, if_neg (by omega)]
  rw [hZ]
  dsimp only
  clear hz hZ hP
  go_enter Try.func56, Try.ntmps56
  go_wp2_with fail
  refine wp_region_ord [(0, true), (1, true), (2, true), (3, true), (4, true), (5, true), (6, true), (7, true), (8, false), (9, true), (10, true), (11, true), (12, true), (13, true), (14, true), (15, true)] (by kernel_rfl) (by kernel_rfl) (by kernel_rfl) (by kernel_rfl) ?_
  repeat (first | (refine wpO_F (v := ?_) rfl (by rfl) (fun w' hL => ?_) ?_; rotate_left; (solve | (go_simp; with_reducible rfl) | go_simp); try simp only [Act.put, List.setIfInBounds_toArray, List.set_cons_zero, List.set_cons_succ]) | (refine wpO_G rfl (by rfl) ?_; try simp only [Act.put, List.setIfInBounds_toArray, List.set_cons_zero, List.set_cons_succ]))
  refine wpO_C rfl (by rfl) ?_
  go_simp
  refine (HG.out).mono ?_
  rintro e w1 ⟨rfl, rfl⟩
  refine ⟨Later.refl _, ?_⟩
  try simp only [Act.put, List.setIfInBounds_toArray, List.set_cons_zero, List.set_cons_succ]
  repeat (first | (refine wpO_F (v := ?_) rfl (by rfl) (fun w' hL => ?_) ?_; rotate_left; (solve | (go_simp; with_reducible rfl) | go_simp); try simp only [Act.put, List.setIfInBounds_toArray, List.set_cons_zero, List.set_cons_succ]) | (refine wpO_G rfl (by rfl) ?_; try simp only [Act.put, List.setIfInBounds_toArray, List.set_cons_zero, List.set_cons_succ]))
  refine wpO_nil ?_
  clear e0 e1
  go_wp2_with fail
  refine HP2.out.mono ?_
  rintro e w2 ⟨rfl, hD, hC⟩
  have HD := Lib.hid hD
  have HC := Lib.hid hC
  clear hD hC
  go_wp2
  go_ret
  exact ⟨rfl, HD.out, HC.out.undrew⟩

set_option maxHeartbeats 2000000 in
theorem dText_any (D : Nat) (m : BM) (l : List Nat) (p : Nat) (w : World) (h : DecAt w D m l p) :
    Calls Try.prog 55 #[.pointer (some ⟨D, 0, none⟩)] w (RetDe w D m l (.string (sdS l p).1) (sdS l p).2) := by
  have hp := h.at_
  have hmax := h.max
  have hlen := h.len
  have hbd := textR_bd l h.bs.1 (p : Int) (by omega)
  have HG := Lib.hid (getText_any D l m.a m.n m.c (p : Int) w.drew h.bs h.len (by omega) h.cap (by omega) (by omega))
  have HP := Lib.hid (fun en q P hP (he : 0 ≤ en) (he2 : en ≤ 1000000) => dPass_any D m l p en q P hP w.drew h.drew he he2)
  have hlt := h.lt
  have hblk := h.blk
  have e0 : ∀ W, Later w.drew W → W.cell? ⟨D, 0, none⟩ = some (.slice m.a m.n m.c) := fun W hW => (Below.cell hW (p := ⟨D, 0, none⟩) (by exact hlt)).trans ((hblk.cell 0).trans rfl)
  have e1 : ∀ W, Later w.drew W → W.cell? ⟨D, 1, none⟩ = some (.int .i64 (p : Int)) := fun W hW => (Below.cell hW (p := ⟨D, 1, none⟩) (by exact hlt)).trans ((hblk.cell 1).trans rfl)
  unfold sdS
  generalize textR l (p : Int) = X at *
  obtain ⟨v, n, q⟩ := X
  dsimp only at hbd HG ⊢
  obtain ⟨P, hP⟩ : ∃ P, P = (if (q : Int) = 0 then n.toNat else p) := ⟨_, rfl⟩
  have HP2 := Lib.hid (HP.out n (q : Int) P hP hbd.1 (by omega))
  clear HP h hblk hlen
  have hZ : (if q = 0 then (v, n.toNat) else (⟨#[]⟩, p)) = (v, P) := by
    rw [hP]
    have hv := hbd.2.2
    by_cases h0 : q = 0
    · subst h0; simp
    · rw [if_neg h0, if_neg (by omega), hv h0]
  rw [hZ]
  dsimp only
  clear hZ hP hbd
  go_enter Try.func55, Try.ntmps55
  go_wp2_with fail
  refine wp_region_ord [(0, true), (1, true), (2, true), (3, true), (4, true), (5, true), (6, true), (7, true), (8, false), (9, true), (10, true), (11, true), (12, true), (13, true), (14, true), (15, true)] (by kernel_rfl) (by kernel_rfl) (by kernel_rfl) (by kernel_rfl) ?_
  repeat (first | (refine wpO_F (v := ?_) rfl (by rfl) (fun w' hL => ?_) ?_; rotate_left; (solve | (go_simp; with_reducible rfl) | go_simp); try simp only [Act.put, List.setIfInBounds_toArray, List.set_cons_zero, List.set_cons_succ]) | (refine wpO_G rfl (by rfl) ?_; try simp only [Act.put, List.setIfInBounds_toArray, List.set_cons_zero, List.set_cons_succ]))
  refine wpO_C rfl (by rfl) ?_
  go_simp
  refine (HG.out).mono ?_
  rintro e w1 ⟨rfl, rfl⟩
  refine ⟨Later.refl _, ?_⟩
  try simp only [Act.put, List.setIfInBounds_toArray, List.set_cons_zero, List.set_cons_succ]
  repeat (first | (refine wpO_F (v := ?_) rfl (by rfl) (fun w' hL => ?_) ?_; rotate_left; (solve | (go_simp; with_reducible rfl) | go_simp); try simp only [Act.put, List.setIfInBounds_toArray, List.set_cons_zero, List.set_cons_succ]) | (refine wpO_G rfl (by rfl) ?_; try simp only [Act.put, List.setIfInBounds_toArray, List.set_cons_zero, List.set_cons_succ]))
  refine wpO_nil ?_
  clear e0 e1
  go_wp2_with fail
  refine HP2.out.mono ?_
  rintro e w2 ⟨rfl, hD, hC⟩
  have HD := Lib.hid hD
  have HC := Lib.hid hC
  clear hD hC
  go_wp2
  go_ret
  exact ⟨rfl, HD.out, HC.out.undrew⟩

set_option maxHeartbeats 1000000 in
theorem dFlag_any (D : Nat) (m : BM) (l : List Nat) (p : Nat) (w : World) (h : DecAt w D m l p) :
    Calls Try.prog 58 #[.pointer (some ⟨D, 0, none⟩)] w (RetDe w D m l (.bool (sdF l p).1) (sdF l p).2) := by
  have HN := Lib.hid (dNumber_any D m l p w h)
  unfold sdF
  dsimp only
  generalize sdI l p = X at *
  obtain ⟨n, p2⟩ := X
  dsimp only at HN ⊢
  obtain ⟨b, hb⟩ : ∃ b, decide (n = 1) = b := ⟨_, rfl⟩
  rw [hb]
  have q1 : (n == 1) = b := by rw [← hb]; rfl
  clear h hb
  go_enter Try.func58, Try.ntmps58
  go_wp2_with fail
  refine HN.out.mono ?_
  rintro e w1 ⟨rfl, hD, hC⟩
  have HD := Lib.hid hD
  have HC := Lib.hid hC
  clear hD hC
  go_wp2
  go_ret
  exact ⟨rfl, HD.out, HC.out⟩

set_option maxHeartbeats 1000000 in
theorem dCount_any (D : Nat) (m : BM) (l : List Nat) (p : Nat) (most : Int) (w : World) (h : DecAt w D m l p) :
    Calls Try.prog 57 #[.pointer (some ⟨D, 0, none⟩), .int .i64 most] w (RetDe w D m l (.int .i64 ((sdN l p most).1 : Int)) (sdN l p most).2) := by
  have HN := Lib.hid (dNumber_any D m l p w h)
  unfold sdN
  dsimp only
  generalize sdI l p = X at *
  obtain ⟨n, p2⟩ := X
  dsimp only at HN ⊢
  obtain ⟨z, hz⟩ : ∃ z, (if n < 0 ∨ most < n then 0 else n.toNat) = z := ⟨_, rfl⟩
  rw [hz]
  clear h
  by_cases h1 : n < 0
  · have hz2 : z = 0 := by rw [← hz, if_pos (.inl h1)]
    subst hz2
    clear hz
    go_enter Try.func57, Try.ntmps57
    go_wp2_with fail
    refine HN.out.mono ?_
    rintro e w1 ⟨rfl, hD, hC⟩
    have HD := Lib.hid hD
    have HC := Lib.hid hC
    clear hD hC
    go_wp2
    go_ret
    exact ⟨rfl, HD.out, HC.out⟩
  · have q1 : decide (n < 0) = false := decide_eq_false h1
    by_cases h2 : most < n
    · have hz2 : z = 0 := by rw [← hz, if_pos (.inr h2)]
      subst hz2
      clear hz
      go_enter Try.func57, Try.ntmps57
      go_wp2_with fail
      refine HN.out.mono ?_
      rintro e w1 ⟨rfl, hD, hC⟩
      have HD := Lib.hid hD
      have HC := Lib.hid hC
      clear hD hC
      go_wp2
      go_ret
      exact ⟨rfl, HD.out, HC.out⟩
    · have q2 : decide (most < n) = false := decide_eq_false h2
      obtain rfl : n = (z : Int) := by rw [← hz, if_neg (by omega)]; omega
      clear hz h1 h2
      go_enter Try.func57, Try.ntmps57
      go_wp2_with fail
      refine HN.out.mono ?_
      rintro e w1 ⟨rfl, hD, hC⟩
      have HD := Lib.hid hD
      have HC := Lib.hid hC
      clear hD hC
      go_wp2
      go_ret
      exact ⟨rfl, HD.out, HC.out⟩
end Go.Proofs.Ytialpfdhdcjpaaa

/- The walk of schema.Read: what holds at work. -/
set_option linter.unusedSimpArgs false
set_option linter.unusedVariables false
set_option maxRecDepth 100000
namespace Go.Proofs.Ytialpfdhdcjpaaa
open Go.RowKit

/-- A table's cells, with the values of its two slices. -/
abbrev Tb.cs (t : Tb) (cv kv : Value) : Array Value := #[.string t.name, cv, kv, .string t.per, .int .i64 t.fr, .int .i64 t.tt, .bool t.apart, .bool t.vers]
abbrev zeroTc : Array Value := #[.string ⟨#[]⟩, .slice none 0 0, .slice none 0 0, .string ⟨#[]⟩, .int .i64 0, .int .i64 0, .bool false, .bool false]

/-- The reader is at work: the decoder D, the table T that is built, the result's variable R. -/
structure RIn (w W : World) (R D T : Nat) (m : BM) (l : List Nat) (cv kv : Value) (t : Tb) (p : Nat) : Prop where
  dec : DecAt W D m l p
  tab : Blk W T 25 (t.cs cv kv)
  crow : W.ownsRow (T + 1) 68 3 cv t.cols.length (cellsO t.cols)
  krow : W.ownsRow (T + 1) 3 1 kv t.key.length (cellsI t.key)
  res : Blk W R 25 zeroTc
  bel : Below w.heap.size w W
  lt0 : w.heap.size ≤ R
  lt1 : R < D
  lt2 : D < T
section
variable {w W W' : World} {R D T : Nat} {m : BM} {l : List Nat} {cv kv : Value} {t : Tb} {p : Nat}
theorem RIn.rowC (h : RIn w W R D T m l cv kv t p) {g : Nat} (hg : cv.ownBlock = some g) : T < g := (h.crow.lt g hg).1
theorem RIn.rowK (h : RIn w W R D T m l cv kv t p) {g : Nat} (hg : kv.ownBlock = some g) : T < g := (h.krow.lt g hg).1
theorem RIn.drew (h : RIn w W R D T m l cv kv t p) : RIn w W.drew R D T m l cv kv t p := ⟨h.dec.drew, h.tab, h.crow, h.krow, h.res, h.bel.trans (Below.drew (Below.refl _ _)), h.lt0, h.lt1, h.lt2⟩
/-- The decoder goes on. -/
theorem RIn.go (h : RIn w W R D T m l cv kv t p) {p' : Nat} (h1 : DecAt W' D m l p') (hc : Chg [D] W W') : RIn w W' R D T m l cv kv t p' :=
  ⟨h1, h.tab.chg hc (by have := h.lt2; simp; omega), own_chg h.crow hc (fun g hg => by have := h.rowC hg; have := h.lt2; simp; omega), own_chg h.krow hc (fun g hg => by have := h.rowK hg; have := h.lt2; simp; omega),
    h.res.chg hc (by have := h.lt1; simp; omega), h.bel.trans (hc.below h.bel.size (by have := h.lt0; have := h.lt1; simp; omega)), h.lt0, h.lt1, h.lt2⟩
/-- A cell of the table is stored into. -/
theorem RIn.put (h : RIn w W R D T m l cv kv t p) (i : Nat) (u : Value) (t' : Tb) (ht : (t.cs cv kv).setIfInBounds i u = t'.cs cv kv) (h1 : t'.cols = t.cols) (h2 : t'.key = t.key) : RIn w (W.setCell ⟨T, i, none⟩ u) R D T m l cv kv t' p := by
  have hc : Chg [T] W (W.setCell ⟨T, i, none⟩ u) := (Chg.refl _ _).setCell (.inl (by simp)) _
  refine ⟨h.dec.chg hc (by have := h.lt2; simp; omega), ?_, ?_, ?_, h.res.chg hc (by have := h.lt1; have := h.lt2; simp; omega), h.bel.trans (hc.below h.bel.size (by have := h.lt0; have := h.lt1; have := h.lt2; simp; omega)), h.lt0, h.lt1, h.lt2⟩
  · have := h.tab.set_ i u
    rw [ht] at this; exact this
  · rw [h1]; exact own_chg h.crow hc (fun g hg => by have := h.rowC hg; simp; omega)
  · rw [h2]; exact own_chg h.krow hc (fun g hg => by have := h.rowK hg; simp; omega)
/-- A column is added: the append, then the store. -/
theorem RIn.col (h : RIn w W R D T m l cv kv t p) {x : Col} {T0 : TypeId} {cs : Array Value} {cv' : Value} (hr : W'.ownsRow (T + 1) 68 3 cv' (t.cols.length + 1) (cellsO t.cols ++ [.string x.nm, .int .u8 (x.kd : Int), .bool x.nn])) (hc : Chg cv.ownBlock.toList (W.alloc (.cells cs T0)) W') :
    RIn w (W'.setCell ⟨T, 1, none⟩ cv') R D T m l cv' kv { t with cols := t.cols ++ [x] } p := by
  have hc0 : Chg cv.ownBlock.toList W W' := ((Chg.refl _ _).alloc _).trans hc
  have hne : ∀ g, g ≤ T → g ∉ cv.ownBlock.toList := fun g hg hm => by
    rw [Option.mem_toList] at hm
    have := h.rowC hm; omega
  have hgt : ∀ g ∈ cv.ownBlock.toList, T < g := fun g hm => by rw [Option.mem_toList] at hm; exact h.rowC hm
  have hk : ∀ g, kv.ownBlock = some g → g ∉ cv.ownBlock.toList := fun g hg hm => by
    rw [Option.mem_toList] at hm
    rcases h.krow.2 with ⟨rfl, _⟩ | ⟨g', cap, cur, rfl, _, hh, _⟩
    · simp [Value.ownBlock] at hg
    · have : g' = g := by simpa [Value.ownBlock] using hg
      subst this
      exact own_ne h.crow (t := 3) hh (by decide) hm
  have hcS : Chg [T] W' (W'.setCell ⟨T, 1, none⟩ cv') := (Chg.refl _ _).setCell (.inl (by simp)) _
  refine ⟨(h.dec.chg hc0 (fun g hm => by have := hgt g hm; have := h.lt2; omega)).chg hcS (by have := h.lt2; simp; omega), (h.tab.chg hc0 (hne T (Nat.le_refl _))).set_ 1 cv', ?_, own_chg (own_chg h.krow hc0 hk) hcS (fun g hg => by have := h.rowK hg; simp; omega), (h.res.chg hc0 (hne R (by have := h.lt1; have := h.lt2; omega))).chg hcS (by have := h.lt1; have := h.lt2; simp; omega),
    (h.bel.trans (hc0.below h.bel.size (fun g hm => by have := hgt g hm; have := h.lt0; have := h.lt1; have := h.lt2; omega))).trans (hcS.below (by have := h.bel.size; have := hc0.size; omega) (by have := h.lt0; have := h.lt1; have := h.lt2; simp; omega)), h.lt0, h.lt1, h.lt2⟩
  have : cellsO (t.cols ++ [x]) = cellsO t.cols ++ [.string x.nm, .int .u8 (x.kd : Int), .bool x.nn] := cellsOf_snoc _ _ _
  show World.ownsRow _ _ _ _ _ (t.cols ++ [x]).length (cellsO (t.cols ++ [x]))
  rw [this, List.length_append]
  exact own_chg hr hcS (fun g hg => by have := (hr.lt g hg).1; simp; omega)
/-- .. a key's part. -/
theorem RIn.ky (h : RIn w W R D T m l cv kv t p) {x : Int} {T0 : TypeId} {cs : Array Value} {kv' : Value} (hr : W'.ownsRow (T + 1) 3 1 kv' (t.key.length + 1) (cellsI t.key ++ [.int .i64 x])) (hc : Chg kv.ownBlock.toList (W.alloc (.cells cs T0)) W') :
    RIn w (W'.setCell ⟨T, 2, none⟩ kv') R D T m l cv kv' { t with key := t.key ++ [x] } p := by
  have hc0 : Chg kv.ownBlock.toList W W' := ((Chg.refl _ _).alloc _).trans hc
  have hne : ∀ g, g ≤ T → g ∉ kv.ownBlock.toList := fun g hg hm => by
    rw [Option.mem_toList] at hm
    have := h.rowK hm; omega
  have hgt : ∀ g ∈ kv.ownBlock.toList, T < g := fun g hm => by rw [Option.mem_toList] at hm; exact h.rowK hm
  have hk : ∀ g, cv.ownBlock = some g → g ∉ kv.ownBlock.toList := fun g hg hm => by
    rw [Option.mem_toList] at hm
    rcases h.crow.2 with ⟨rfl, _⟩ | ⟨g', cap, cur, rfl, _, hh, _⟩
    · simp [Value.ownBlock] at hg
    · have : g' = g := by simpa [Value.ownBlock] using hg
      subst this
      exact own_ne h.krow (t := 68) hh (by decide) hm
  have hcS : Chg [T] W' (W'.setCell ⟨T, 2, none⟩ kv') := (Chg.refl _ _).setCell (.inl (by simp)) _
  refine ⟨(h.dec.chg hc0 (fun g hm => by have := hgt g hm; have := h.lt2; omega)).chg hcS (by have := h.lt2; simp; omega), (h.tab.chg hc0 (hne T (Nat.le_refl _))).set_ 2 kv', own_chg (own_chg h.crow hc0 hk) hcS (fun g hg => by have := h.rowC hg; simp; omega), ?_, (h.res.chg hc0 (hne R (by have := h.lt1; have := h.lt2; omega))).chg hcS (by have := h.lt1; have := h.lt2; simp; omega),
    (h.bel.trans (hc0.below h.bel.size (fun g hm => by have := hgt g hm; have := h.lt0; have := h.lt1; have := h.lt2; omega))).trans (hcS.below (by have := h.bel.size; have := hc0.size; omega) (by have := h.lt0; have := h.lt1; have := h.lt2; simp; omega)), h.lt0, h.lt1, h.lt2⟩
  have : cellsI (t.key ++ [x]) = cellsI t.key ++ [.int .i64 x] := cellsOf_snoc _ _ _
  show World.ownsRow _ _ _ _ _ (t.key ++ [x]).length (cellsI (t.key ++ [x]))
  rw [this, List.length_append]
  exact own_chg hr hcS (fun g hg => by have := (hr.lt g hg).1; simp; omega)
end

theorem info_colS : (Try.prog.info? 68).map (fun i => (i.zero, i.size, i.bytes)) = some (some (.agg #[.string ⟨#[]⟩, .int .u8 0, .bool false]), 3, 24) := by kernel_rfl
end Go.Proofs.Ytialpfdhdcjpaaa

/- What is read of a table's bytes is fair. -/
set_option linter.unusedSimpArgs false
set_option linter.unusedVariables false
set_option maxRecDepth 100000
namespace Go.Proofs.Ytialpfdhdcjpaaa
open Go.RowKit


theorem wrap8_lt (z : Int) : (IntKind.u8.wrap z).toNat < 256 := by rw [IntKind.wrap_u8]; omega
theorem sdI_pos (l : List Nat) (h : ∀ c ∈ l, c < 256) (hl : l.length ≤ 1000000) (p : Nat) (hp : p ≤ l.length) : (sdI l p).2 ≤ l.length := by
  have := (sdI_bd l h p (by omega)).2; omega
theorem sdS_pos (l : List Nat) (h : ∀ c ∈ l, c < 256) (hl : l.length ≤ 1000000) (p : Nat) (hp : p ≤ l.length) : (sdS l p).2 ≤ l.length := by
  have := (sdS_bd l h p (by omega)).2; omega
theorem sdC_fair (l : List Nat) (h : ∀ c ∈ l, c < 256) (hl : l.length ≤ 1000000) (p : Nat) (hp : p ≤ l.length) : (sdC l p).2 ≤ l.length ∧ (sdC l p).1.nm.size ≤ 1000000 ∧ (sdC l p).1.kd < 256 := by
  have h1 := sdS_pos l h hl p hp
  have h2 := sdI_pos l h hl _ h1
  have h3 := sdI_pos l h hl _ h2
  have h4 := (sdS_bd l h p (by omega)).1
  unfold sdC sdF
  exact ⟨h3, Nat.le_trans h4 hl, wrap8_lt _⟩
theorem sdCs_fair (l : List Nat) (h : ∀ c ∈ l, c < 256) (hl : l.length ≤ 1000000) (p : Nat) (hp : p ≤ l.length) : ∀ k, (sdCs l p k).2 ≤ l.length ∧ (sdCs l p k).1.length = k ∧ ∀ c ∈ (sdCs l p k).1, c.nm.size ≤ 1000000 ∧ c.kd < 256
  | 0 => ⟨hp, rfl, by simp [sdCs]⟩
  | k + 1 => by
    obtain ⟨i1, i2, i3⟩ := sdCs_fair l h hl p hp k
    obtain ⟨j1, j2, j3⟩ := sdC_fair l h hl _ i1
    unfold sdCs
    refine ⟨j1, by simp [i2], fun c hc => ?_⟩
    rcases List.mem_append.1 hc with hc | hc
    · exact i3 c hc
    · simp at hc; subst hc; exact ⟨j2, j3⟩
theorem sdKs_fair (l : List Nat) (h : ∀ c ∈ l, c < 256) (hl : l.length ≤ 1000000) (p : Nat) (hp : p ≤ l.length) : ∀ k, (sdKs l p k).2 ≤ l.length ∧ (sdKs l p k).1.length = k ∧ ∀ c ∈ (sdKs l p k).1, -9223372036854775808 ≤ c ∧ c ≤ 9223372036854775807
  | 0 => ⟨hp, rfl, by simp [sdKs]⟩
  | k + 1 => by
    obtain ⟨i1, i2, i3⟩ := sdKs_fair l h hl p hp k
    have j1 := sdI_pos l h hl _ i1
    have j2 := (sdI_bd l h _ (by omega : ((sdKs l p k).2 : Int) ≤ 9223372036854775807)).1
    unfold sdKs
    refine ⟨j1, by simp [i2], fun c hc => ?_⟩
    rcases List.mem_append.1 hc with hc | hc
    · exact i3 c hc
    · simp at hc; subst hc; exact j2
theorem sdN_le (l : List Nat) (p : Nat) (most : Int) (h : 0 ≤ most) : ((sdN l p most).1 : Int) ≤ most := by
  unfold sdN
  dsimp only
  split <;> omega
theorem sdN_pos (l : List Nat) (h : ∀ c ∈ l, c < 256) (hl : l.length ≤ 1000000) (p : Nat) (most : Int) (hp : p ≤ l.length) : (sdN l p most).2 ≤ l.length := sdI_pos l h hl p hp
/-- All that is read is fair. -/
theorem decT_fair (l : List Nat) (h : ∀ c ∈ l, c < 256) (hl : l.length ≤ 1000000) : (decT l).Fair := by
  have h1 := sdS_pos l h hl 0 (by omega)
  have h1s := (sdS_bd l h 0 (by omega)).1
  have h2 : (dn2 l).2 ≤ l.length := sdN_pos l h hl _ 16 h1
  have h2n : ((dn2 l).1 : Int) ≤ 16 := sdN_le l _ 16 (by omega)
  obtain ⟨h3, h3n, h3f⟩ := sdCs_fair l h hl _ h2 (dn2 l).1
  have h4 : (dn4 l).2 ≤ l.length := sdN_pos l h hl _ 8 h3
  have h4n : ((dn4 l).1 : Int) ≤ 8 := sdN_le l _ 8 (by omega)
  obtain ⟨h5, h5n, h5f⟩ := sdKs_fair l h hl _ h4 (dn4 l).1
  have h5' : (dk5 l).2 ≤ l.length := h5
  have h6 : (ds6 l).2 ≤ l.length := sdS_pos l h hl _ h5'
  have h6s := (sdS_bd l h _ (by omega : ((dk5 l).2 : Int) ≤ 9223372036854775807)).1
  have h7 : (di7 l).2 ≤ l.length := sdI_pos l h hl _ h6
  have h7b := (sdI_bd l h _ (by omega : ((ds6 l).2 : Int) ≤ 9223372036854775807)).1
  have h8b := (sdI_bd l h _ (by omega : ((di7 l).2 : Int) ≤ 9223372036854775807)).1
  refine ⟨?_, ?_, ?_, ?_, h7b, h8b, h3f, h5f⟩
  · show (dc3 l).1.length ≤ _
    have : (dc3 l).1.length = (dn2 l).1 := h3n
    omega
  · show (dk5 l).1.length ≤ _
    have : (dk5 l).1.length = (dn4 l).1 := h5n
    omega
  · show (sdS l 0).1.size ≤ _
    omega
  · show (ds6 l).1.size ≤ _
    have : (ds6 l).1.size ≤ l.length := h6s
    omega
end Go.Proofs.Ytialpfdhdcjpaaa

/- The walk of schema.Read. -/
set_option linter.unusedSimpArgs false
set_option linter.unusedVariables false
set_option maxRecDepth 100000
namespace Go.Proofs.Ytialpfdhdcjpaaa
open Go.RowKit

theorem own_base {w : World} {base base' : Nat} {e : TypeId} {size n : Nat} {v : Value} {xs : List Value} (h : w.ownsRow base e size v n xs) (hb : base' ≤ base) : w.ownsRow base' e size v n xs := by
  obtain ⟨h1, h2⟩ := h
  refine ⟨h1, ?_⟩
  rcases h2 with h2 | ⟨g, cap, cur, hv, hg, r⟩
  · exact .inl h2
  · exact .inr ⟨g, cap, cur, hv, by omega, r⟩

set_option maxHeartbeats 8000000 in
theorem sRead_any (l : List Nat) (a : Option Addr) (n c : Nat) (w : World) (hB : Bs w.heap.size w a l) (hn : n = l.length) (hcap : n ≤ c) (hmax : n ≤ 1000000) :
    Calls Try.prog 27 #[.slice a n c] w fun e w' => ∃ cv kv, RetEd w (writeT (decT l)) l (.agg ((decT l).cs cv kv)) (.agg zeroTc) e w' ∧ w'.ownsRow w.heap.size 68 3 cv (decT l).cols.length (cellsO (decT l).cols) ∧ w'.ownsRow w.heap.size 3 1 kv (decT l).key.length (cellsI (decT l).key) := by
  obtain ⟨iC, hiC, hzC, hsC, hbC⟩ := info_parts info_colS
  obtain ⟨iI, hiI, hzI, hsI, hbI⟩ := info_parts info_intS
  have h256 := hB.1
  have hl6 : l.length ≤ 1000000 := by omega
  have hfair := decT_fair l h256 hl6
  have h1 := sdS_pos l h256 hl6 0 (by omega)
  have h2 : (dn2 l).2 ≤ l.length := sdN_pos l h256 hl6 _ 16 h1
  have h2n : ((dn2 l).1 : Int) ≤ 16 := sdN_le l _ 16 (by omega)
  have HF1 := Lib.hid (sdCs_fair l h256 hl6 _ h2)
  have h4n : ((dn4 l).1 : Int) ≤ 8 := sdN_le l _ 8 (by omega)
  have h4 : (dn4 l).2 ≤ l.length := sdN_pos l h256 hl6 _ 8 (HF1.out (dn2 l).1).1
  have HF2 := Lib.hid (sdKs_fair l h256 hl6 _ h4)
  have HBel0 : Hid (Below w.heap.size w ((w.alloc (.cells #[.string ⟨#[]⟩, .slice none 0 0, .slice none 0 0, .string ⟨#[]⟩, .int .i64 0, .int .i64 0, .bool false, .bool false] 25)).alloc (.cells #[.slice a n c, .int .i64 0] 91))) := ((Below.refl _ w).alloc (Nat.le_refl _) _).alloc (by simp) _
  have HR0 : Hid (Blk ((w.alloc (.cells #[.string ⟨#[]⟩, .slice none 0 0, .slice none 0 0, .string ⟨#[]⟩, .int .i64 0, .int .i64 0, .bool false, .bool false] 25)).alloc (.cells #[.slice a n c, .int .i64 0] 91)) w.heap.size 25 zeroTc) := (Blk.new w _ _).alloc _
  have HD0 : Hid (DecAt ((w.alloc (.cells #[.string ⟨#[]⟩, .slice none 0 0, .slice none 0 0, .string ⟨#[]⟩, .int .i64 0, .int .i64 0, .bool false, .bool false] 25)).alloc (.cells #[.slice a n c, .int .i64 0] 91)) (w.heap.size + 1) ⟨a, n, c⟩ l 0) := by
    have hb := Blk.new (w.alloc (.cells #[.string ⟨#[]⟩, .slice none 0 0, .slice none 0 0, .string ⟨#[]⟩, .int .i64 0, .int .i64 0, .bool false, .bool false] 25)) 91 #[.slice a n c, .int .i64 0]
    rw [show (w.alloc (.cells #[.string ⟨#[]⟩, .slice none 0 0, .slice none 0 0, .string ⟨#[]⟩, .int .i64 0, .int .i64 0, .bool false, .bool false] 25)).heap.size = w.heap.size + 1 by simp] at hb
    exact ⟨hb, (hB.below HBel0.out).mono (by omega), hn, hcap, hmax, by omega⟩
  have HT := Lib.hid (fun p W (h : DecAt W (w.heap.size + 1) ⟨a, n, c⟩ l p) => dText_any _ _ l p W h)
  have HN := Lib.hid (fun p W (h : DecAt W (w.heap.size + 1) ⟨a, n, c⟩ l p) => dNumber_any _ _ l p W h)
  have HG := Lib.hid (fun p W (h : DecAt W (w.heap.size + 1) ⟨a, n, c⟩ l p) => dFlag_any _ _ l p W h)
  have HK := Lib.hid (fun p most W (h : DecAt W (w.heap.size + 1) ⟨a, n, c⟩ l p) => dCount_any _ _ l p most W h)
  have HE := Lib.hid (fun t m W (hb : Below w.heap.size w W) (h : TAt W t m) => sEncodedT_any t m l a n c W h ((hB.below hb).mono hb.size) hn)
  have HS : Hid (∀ W new, Blk W w.heap.size 25 zeroTc → Below w.heap.size w W → new.size = 8 → new.all (·.oneCell') = true → (storeVar 25 ⟨w.heap.size, 0, none⟩ (.agg new)).run Try.prog W = .ok () (W.setRow w.heap.size new) ∧
      (loadVar 25 ⟨w.heap.size, 0, none⟩).run Try.prog (W.setRow w.heap.size new) = .ok (.agg new) (W.setRow w.heap.size new) ∧ Below w.heap.size w (W.setRow w.heap.size new)) := fun W new hb hbl h1 h2 =>
    ⟨storeZ_sEncodedT_any hb rfl h1 h2, loadZ_sEncodedT_any (Blk.setRow (new := new) hb) h1, hbl.trans (Chg.below (S := [w.heap.size]) ((Chg.refl _ _).setRow (.inl (by simp)) _) hbl.size (by simp))⟩
  have hlt0 : w.heap.size + 1 < ((w.alloc (.cells #[.string ⟨#[]⟩, .slice none 0 0, .slice none 0 0, .string ⟨#[]⟩, .int .i64 0, .int .i64 0, .bool false, .bool false] 25)).alloc (.cells #[.slice a n c, .int .i64 0] 91)).heap.size := by simp
  have HFair := Lib.hid hfair
  have hN1 : Hid (dn2 l = sdN l (sdS l 0).2 16) := rfl
  clear hB hn h256 hfair h1 h2 h4
  go_enter Try.func27, Try.ntmps27
  go_wp2_with fail
  refine (HT.out 0 _ HD0.out).mono ?_
  rintro e w1 ⟨rfl, hD, hC⟩
  have hlt1 : w.heap.size + 1 < w1.heap.size := Nat.lt_of_lt_of_le hlt0 hC.size
  have HI : Hid (RIn w (w1.alloc (.cells #[.string (sdS l 0).1, .slice none 0 0, .slice none 0 0, .string ⟨#[]⟩, .int .i64 0, .int .i64 0, .bool false, .bool false] 25)) w.heap.size (w.heap.size + 1) w1.heap.size ⟨a, n, c⟩ l (.slice none 0 0) (.slice none 0 0) ⟨(sdS l 0).1, [], [], ⟨#[]⟩, 0, 0, false, false⟩ (sdS l 0).2) :=
    ⟨hD.chg ((Chg.refl [] _).alloc _) (by simp), Blk.new _ _ _, World.ownsRow_nil _ _ _ _, World.ownsRow_nil _ _ _ _, (HR0.out.chg hC (by simp)).alloc _, (HBel0.out.trans (hC.below (by omega) (by simp))).alloc (by omega) _, Nat.le_refl _, by omega, hlt1⟩
  clear hD hC HD0 HR0 HBel0 hlt0
  go_wp2_with fail
  refine (HK.out _ 16 _ HI.out.dec).mono ?_
  rintro e w2 ⟨rfl, hD, hC⟩
  have HI2 := Lib.hid (HI.out.go hD hC)
  clear hD hC HI
  rw [← hN1.out] at HI2 ⊢
  clear hN1
  have HI := HI2
  clear HI2
  go_wp2_with fail
  go_loopw [11] (fun i wr => ∃ (k : Nat) (cv : Value), k ≤ (dn2 l).1 ∧ i = .int .i64 k ∧ Hid (RIn w wr w.heap.size (w.heap.size + 1) w1.heap.size ⟨a, n, c⟩ l cv (.slice none 0 0) ⟨(sdS l 0).1, (sdCs l (dn2 l).2 k).1, [], ⟨#[]⟩, 0, 0, false, false⟩ (sdCs l (dn2 l).2 k).2)) (fun i _ => (dn2 l).1 - (intOf i).toNat)
  case atStart => exact ⟨0, _, by omega, rfl, HI⟩
  case round =>
    clear HI
    obtain ⟨k, cv, hk, rfl, HI⟩ := hrel
    by_cases hlt : k < (dn2 l).1
    · obtain ⟨j1, j2, -⟩ := HF1.out k
      have hrow := HI.out.crow
      have hTlt := HI.out.tab.lt
      have hTS : w1.heap.size ∉ (w.heap.size + 1) :: cv.ownBlock.toList := by
        intro hm
        simp only [List.mem_cons, Option.mem_toList] at hm
        rcases hm with hm | hm
        · omega
        · have := HI.out.rowC hm; omega
      have hDS : ∀ g, cv.ownBlock = some g → g ∉ [w.heap.size + 1] := fun g hg hm => by
        simp at hm
        have := HI.out.rowC hg; omega
      have HStep : Hid (sdCs l (dn2 l).2 (k + 1) = ((sdCs l (dn2 l).2 k).1 ++ [(sdC l (sdCs l (dn2 l).2 k).2).1], (sdC l (sdCs l (dn2 l).2 k).2).2)) := rfl
      have HTb := Lib.hid HI.out.tab
      generalize sdCs l (dn2 l).2 k = CC at *
      obtain ⟨cc, pp⟩ := CC
      dsimp only at *
      have HC0 : Hid (sdC l pp = (⟨(sdS l pp).1, (IntKind.u8.wrap (sdI l (sdS l pp).2).1).toNat, (sdF l (sdI l (sdS l pp).2).2).1⟩, (sdF l (sdI l (sdS l pp).2).2).2)) := rfl
      have HI1 := Lib.hid HI.out.drew
      have hT1 := HT.out pp wr.drew HI1.out.dec
      have hN1 := fun W h => HN.out (sdS l pp).2 W h
      have hG1 := fun W h => HG.out (sdI l (sdS l pp).2).2 W h
      generalize sdS l pp = s1 at *
      obtain ⟨s, p1⟩ := s1
      dsimp only at *
      generalize sdI l p1 = n1 at *
      obtain ⟨z, p2⟩ := n1
      dsimp only at *
      generalize sdF l p2 = f1 at *
      obtain ⟨f, p3⟩ := f1
      dsimp only at *
      have qk : IntKind.u8.wrap z = ((IntKind.u8.wrap z).toNat : Int) := by rw [IntKind.wrap_u8]; omega
      generalize (IntKind.u8.wrap z).toNat = kd at *
      have HT1 := Lib.hid hT1
      have HN1 := Lib.hid hN1
      have HG1 := Lib.hid hG1
      clear hT1 hN1 hG1
      have e0 : ∀ W, Chg ((w.heap.size + 1) :: cv.ownBlock.toList) wr.drew W → W.cell? ⟨w1.heap.size, 1, none⟩ = some cv := fun W hW => (hW.cell (b := w1.heap.size) hTlt hTS).trans ((HTb.out.cell 1).trans rfl)
      obtain ⟨lc, ccap, hcv, -, -, -⟩ := own_slice hrow
      have hCV := Lib.hid hcv
      clear hcv
      go_wp2_with fail
      refine wp_region_ordX ((w.heap.size + 1) :: cv.ownBlock.toList) 10 [(0, true), (1, true), (2, false), (3, false), (4, true), (5, false), (6, true), (7, false), (8, false), (9, true)] (by kernel_rfl) (by kernel_rfl) (by kernel_rfl) (by kernel_rfl) ?_
      repeat (first | ((refine wpOX_F rfl (by rfl) (fun w' hL => exec_load rfl rfl (e0 w' hL)) ?_); try simp only [Act.put, List.setIfInBounds_toArray, List.set_cons_zero, List.set_cons_succ]) | (refine wpOX_F (v := ?_) rfl (by rfl) (fun w' hL => ?_) ?_; rotate_left; (solve | (go_simp; with_reducible rfl) | go_simp); try simp only [Act.put, List.setIfInBounds_toArray, List.set_cons_zero, List.set_cons_succ]) | (refine wpOX_G (Chg.refl _) rfl (by rfl) ?_; try simp only [Act.put, List.setIfInBounds_toArray, List.set_cons_zero, List.set_cons_succ]))
      refine wpOX_C rfl (by rfl) ?_
      go_simp
      refine (HT1.out).mono ?_
      rintro e x1 ⟨rfl, hD1, hC1⟩
      refine ⟨hC1.sub (by simp), ?_⟩
      try simp only [Act.put, List.setIfInBounds_toArray, List.set_cons_zero, List.set_cons_succ]
      refine wpOX_C rfl (by rfl) ?_
      go_simp
      refine (HN1.out _ hD1).mono ?_
      rintro e x2 ⟨rfl, hD2, hC2⟩
      refine ⟨hC2.sub (by simp), ?_⟩
      try simp only [Act.put, List.setIfInBounds_toArray, List.set_cons_zero, List.set_cons_succ]
      repeat (first | ((refine wpOX_F rfl (by rfl) (fun w' hL => exec_load rfl rfl (e0 w' hL)) ?_); try simp only [Act.put, List.setIfInBounds_toArray, List.set_cons_zero, List.set_cons_succ]) | (refine wpOX_F (v := ?_) rfl (by rfl) (fun w' hL => ?_) ?_; rotate_left; (solve | (go_simp; with_reducible rfl) | go_simp); try simp only [Act.put, List.setIfInBounds_toArray, List.set_cons_zero, List.set_cons_succ]) | (refine wpOX_G (Chg.refl _) rfl (by rfl) ?_; try simp only [Act.put, List.setIfInBounds_toArray, List.set_cons_zero, List.set_cons_succ]))
      refine wpOX_C rfl (by rfl) ?_
      go_simp
      refine (HG1.out _ hD2).mono ?_
      rintro e x3 ⟨rfl, hD3, hC3⟩
      refine ⟨hC3.sub (by simp), ?_⟩
      try simp only [Act.put, List.setIfInBounds_toArray, List.set_cons_zero, List.set_cons_succ]
      have HI2 := Lib.hid (HI1.out.go hD3 ((hC1.trans hC2).trans hC3))
      clear hD1 hD2 hD3 hC1 hC2 hC3 HI1 HT1 HN1 HG1
      repeat (first | ((refine wpOX_F rfl (by rfl) (fun w' hL => exec_load rfl rfl (e0 w' hL)) ?_); try simp only [Act.put, List.setIfInBounds_toArray, List.set_cons_zero, List.set_cons_succ]) | (refine wpOX_F (v := ?_) rfl (by rfl) (fun w' hL => ?_) ?_; rotate_left; (solve | (go_simp; with_reducible rfl) | go_simp); try simp only [Act.put, List.setIfInBounds_toArray, List.set_cons_zero, List.set_cons_succ]) | (refine wpOX_G (Chg.refl _) rfl (by rfl) ?_; try simp only [Act.put, List.setIfInBounds_toArray, List.set_cons_zero, List.set_cons_succ]))
      refine wpOX_C rfl (by rfl) ?_
      go_simp
      refine ⟨(Chg.refl _ _).alloc _, ?_⟩
      try simp only [Act.put, List.setIfInBounds_toArray, List.set_cons_zero, List.set_cons_succ]
      have hr2 := HI2.out.crow
      have hlc : cc.length = k := j2
      have hbs : w1.heap.size + 1 ≤ x3.heap.size := HI2.out.tab.lt
      refine wpOX_C rfl (by rfl) ?_
      refine wp_appC (.tmp 14) (.tmp 20) 22 rfl (w1.heap.size + 1) 68 iC (.agg #[.string ⟨#[]⟩, .int .u8 0, .bool false]) 3 24 Try.underlying22 hiC hzC rfl hsC (by omega) hbC (by omega) cv cc.length _ [.string s, .int .u8 (kd : Int), .bool f] x3 hr2 rfl _ rfl rfl (by simp [Value.oneCell']) rfl (by omega) hbs ?_
      intro cv2 x4 hr4 hc4 hsz4
      refine ⟨hc4.sub (fun g hg => List.mem_cons_of_mem _ hg), ?_⟩
      try simp only [Act.put, List.setIfInBounds_toArray, List.set_cons_zero, List.set_cons_succ]
      obtain ⟨ac2, cc2, hcv2, -, -, -⟩ := own_slice hr4
      have hN := HI2.out.col (x := ⟨s, kd, f⟩) hr4 hc4
      have htb := HI2.out.tab.chg (((Chg.refl _ _).alloc _).trans hc4) (by
        intro hm
        rw [Option.mem_toList] at hm
        have := HI2.out.rowC hm; omega)
      have pc := (htb.cell 1).trans rfl
      have pf := htb.frozen 1
      have pl := htb.lt
      have HN2 := Lib.hid hN
      generalize cc.length + 1 = kk at hcv2
      subst hcv2
      clear hN htb hr4 hc4 HI2 hr2 e0
      repeat (first | (refine wpOX_F (v := ?_) rfl (by rfl) (fun w' hL => ?_) ?_; rotate_left; (solve | (go_simp; with_reducible rfl) | go_simp); try simp only [Act.put, List.setIfInBounds_toArray, List.set_cons_zero, List.set_cons_succ]) | (refine wpOX_G (Chg.refl _) rfl (by rfl) ?_; try simp only [Act.put, List.setIfInBounds_toArray, List.set_cons_zero, List.set_cons_succ]))
      refine wpOX_end rfl (by rfl) ?_
      go_simp
      simp only [NoPanic]
      go_wp2
      go_roundw
      case rel =>
        refine ⟨k + 1, Value.slice ac2 kk cc2, by omega, by go_num, ?_⟩
        rw [HStep.out, HC0.out]
        exact HN2.out
      case measure => simp [intOf]; omega
    · have hke : k = (dn2 l).1 := by omega
      subst hke
      have hd3 : sdCs l (dn2 l).2 (dn2 l).1 = dc3 l := rfl
      rw [hd3] at HI
      obtain ⟨j1, j2, -⟩ := HF1.out (dn2 l).1
      rw [hd3] at j1 j2
      have hN4 : Hid (sdN l (dc3 l).2 8 = dn4 l) := rfl
      clear hd3 hlt hk HF1 j1 j2
      go_wp2_with fail
      refine (HK.out _ 8 _ HI.out.dec).mono ?_
      rintro e w3 ⟨rfl, hD, hC⟩
      have HI2 := Lib.hid (HI.out.go hD hC)
      clear hD hC HI
      rw [hN4.out] at HI2 ⊢
      have HI := HI2
      clear HI2 hN4
      go_wp2_with fail
      go_loopw [25] (fun i wr => ∃ (k : Nat) (kv : Value), k ≤ (dn4 l).1 ∧ i = .int .i64 k ∧ Hid (RIn w wr w.heap.size (w.heap.size + 1) w1.heap.size ⟨a, n, c⟩ l cv kv ⟨(sdS l 0).1, (dc3 l).1, (sdKs l (dn4 l).2 k).1, ⟨#[]⟩, 0, 0, false, false⟩ (sdKs l (dn4 l).2 k).2)) (fun i _ => (dn4 l).1 - (intOf i).toNat)
      case atStart => exact ⟨0, _, by omega, rfl, HI⟩
      case round =>
        clear HI
        obtain ⟨k, kv, hk, rfl, HI⟩ := hrel
        by_cases hlt : k < (dn4 l).1
        · obtain ⟨i1, i2, -⟩ := HF2.out k
          have hrow := HI.out.krow
          have hTlt := HI.out.tab.lt
          have hTS : w1.heap.size ∉ (w.heap.size + 1) :: kv.ownBlock.toList := by
            intro hm
            simp only [List.mem_cons, Option.mem_toList] at hm
            rcases hm with hm | hm
            · omega
            · have := HI.out.rowK hm; omega
          have HStep : Hid (sdKs l (dn4 l).2 (k + 1) = ((sdKs l (dn4 l).2 k).1 ++ [(sdI l (sdKs l (dn4 l).2 k).2).1], (sdI l (sdKs l (dn4 l).2 k).2).2)) := rfl
          have HTb := Lib.hid HI.out.tab
          generalize sdKs l (dn4 l).2 k = CC at *
          obtain ⟨kk0, pp⟩ := CC
          dsimp only at *
          have HI1 := Lib.hid HI.out.drew
          have hN1 := HN.out pp wr.drew HI1.out.dec
          generalize sdI l pp = n1 at *
          obtain ⟨z, p2⟩ := n1
          dsimp only at *
          have HN1 := Lib.hid hN1
          clear hN1
          have e0 : ∀ W, Chg ((w.heap.size + 1) :: kv.ownBlock.toList) wr.drew W → W.cell? ⟨w1.heap.size, 2, none⟩ = some kv := fun W hW => (hW.cell (b := w1.heap.size) hTlt hTS).trans ((HTb.out.cell 2).trans rfl)
          go_wp2_with fail
          refine wp_region_ordX ((w.heap.size + 1) :: kv.ownBlock.toList) 6 [(0, true), (1, true), (2, false), (3, false), (4, false), (5, true)] (by kernel_rfl) (by kernel_rfl) (by kernel_rfl) (by kernel_rfl) ?_
          repeat (first | ((refine wpOX_F rfl (by rfl) (fun w' hL => exec_load rfl rfl (e0 w' hL)) ?_); try simp only [Act.put, List.setIfInBounds_toArray, List.set_cons_zero, List.set_cons_succ]) | (refine wpOX_F (v := ?_) rfl (by rfl) (fun w' hL => ?_) ?_; rotate_left; (solve | (go_simp; with_reducible rfl) | go_simp); try simp only [Act.put, List.setIfInBounds_toArray, List.set_cons_zero, List.set_cons_succ]) | (refine wpOX_G (Chg.refl _) rfl (by rfl) ?_; try simp only [Act.put, List.setIfInBounds_toArray, List.set_cons_zero, List.set_cons_succ]))
          refine wpOX_C rfl (by rfl) ?_
          go_simp
          refine (HN1.out).mono ?_
          rintro e x3 ⟨rfl, hD3, hC3⟩
          refine ⟨hC3.sub (by simp), ?_⟩
          try simp only [Act.put, List.setIfInBounds_toArray, List.set_cons_zero, List.set_cons_succ]
          have HI2 := Lib.hid (HI1.out.go hD3 hC3)
          clear hD3 hC3 HI1 HN1
          refine wpOX_C rfl (by rfl) ?_
          go_simp
          refine ⟨(Chg.refl _ _).alloc _, ?_⟩
          try simp only [Act.put, List.setIfInBounds_toArray, List.set_cons_zero, List.set_cons_succ]
          have hr2 := HI2.out.krow
          have hlc : kk0.length = k := i2
          have hbs : w1.heap.size + 1 ≤ x3.heap.size := HI2.out.tab.lt
          refine wpOX_C rfl (by rfl) ?_
          refine wp_appC (.tmp 28) (.tmp 30) 23 rfl (w1.heap.size + 1) 3 iI (.int .i64 0) 1 8 Try.underlying23 hiI hzI rfl hsI (by omega) hbI (by omega) kv kk0.length _ [.int .i64 z] x3 hr2 rfl _ rfl rfl (by simp [Value.oneCell']) rfl (by omega) hbs ?_
          intro kv2 x4 hr4 hc4 hsz4
          refine ⟨hc4.sub (fun g hg => List.mem_cons_of_mem _ hg), ?_⟩
          try simp only [Act.put, List.setIfInBounds_toArray, List.set_cons_zero, List.set_cons_succ]
          obtain ⟨ak2, ck2, hkv2, -, -, -⟩ := own_slice hr4
          have hN := HI2.out.ky (x := z) hr4 hc4
          have htb := HI2.out.tab.chg (((Chg.refl _ _).alloc _).trans hc4) (by
            intro hm
            rw [Option.mem_toList] at hm
            have := HI2.out.rowK hm; omega)
          have pc := (htb.cell 2).trans rfl
          have pf := htb.frozen 2
          have pl := htb.lt
          have HN2 := Lib.hid hN
          generalize kk0.length + 1 = kk at hkv2
          subst hkv2
          clear hN htb hr4 hc4 HI2 hr2 e0
          repeat (first | (refine wpOX_F (v := ?_) rfl (by rfl) (fun w' hL => ?_) ?_; rotate_left; (solve | (go_simp; with_reducible rfl) | go_simp); try simp only [Act.put, List.setIfInBounds_toArray, List.set_cons_zero, List.set_cons_succ]) | (refine wpOX_G (Chg.refl _) rfl (by rfl) ?_; try simp only [Act.put, List.setIfInBounds_toArray, List.set_cons_zero, List.set_cons_succ]))
          refine wpOX_end rfl (by rfl) ?_
          go_simp
          simp only [NoPanic]
          go_wp2
          go_roundw
          case rel =>
            refine ⟨k + 1, Value.slice ak2 kk ck2, by omega, by go_num, ?_⟩
            rw [HStep.out]
            exact HN2.out
          case measure => simp [intOf]; omega
        · have hke : k = (dn4 l).1 := by omega
          subst hke
          have hd5 : sdKs l (dn4 l).2 (dn4 l).1 = dk5 l := rfl
          rw [hd5] at HI
          obtain ⟨i1, i2, -⟩ := HF2.out (dn4 l).1
          rw [hd5] at i1 i2
          clear hd5 hlt hk HF2 i1 i2
          have HX6 : Hid (sdS l (dk5 l).2 = ds6 l) := rfl
          have HX7 : Hid (sdI l (ds6 l).2 = di7 l) := rfl
          have HX8 : Hid (sdI l (di7 l).2 = di8 l) := rfl
          have HX9 : Hid (sdF l (di8 l).2 = df9 l) := rfl
          have HXA : Hid (sdF l (df9 l).2 = dfA l) := rfl
          go_wp2_with fail
          refine (HT.out _ _ HI.out.dec).mono ?_
          rintro e w4 ⟨rfl, hD, hC⟩
          have HI2 := Lib.hid (HI.out.go hD hC)
          clear hD hC HI
          rw [HX6.out] at HI2 ⊢
          have HI := HI2
          clear HI2
          have HP := Lib.hid (HI.out.put 3 (.string (ds6 l).1) ⟨(sdS l 0).1, (dc3 l).1, (dk5 l).1, (ds6 l).1, 0, 0, false, false⟩ rfl rfl rfl)
          have c3 := (HI.out.tab.cell 3).trans rfl
          have f3 := HI.out.tab.frozen 3
          have lt_ := HI.out.tab.lt
          clear HI
          have HI := HP
          clear HP
          go_wp2_with fail
          refine (HN.out _ _ HI.out.dec).mono ?_
          rintro e w5 ⟨rfl, hD, hC⟩
          have HI2 := Lib.hid (HI.out.go hD hC)
          clear hD hC HI c3 f3 lt_
          rw [HX7.out] at HI2 ⊢
          have HI := HI2
          clear HI2
          go_wp2_with fail
          refine (HN.out _ _ HI.out.dec).mono ?_
          rintro e w6 ⟨rfl, hD, hC⟩
          have HI2 := Lib.hid (HI.out.go hD hC)
          clear hD hC HI 
          rw [HX8.out] at HI2 ⊢
          have HI := HI2
          clear HI2
          have HP := Lib.hid (HI.out.put 4 (.int .i64 (di7 l).1) ⟨(sdS l 0).1, (dc3 l).1, (dk5 l).1, (ds6 l).1, (di7 l).1, 0, false, false⟩ rfl rfl rfl)
          have c4 := (HI.out.tab.cell 4).trans rfl
          have f4 := HI.out.tab.frozen 4
          have lt_ := HI.out.tab.lt
          clear HI
          have HI := HP
          clear HP
          clear lt_
          have HP := Lib.hid (HI.out.put 5 (.int .i64 (di8 l).1) ⟨(sdS l 0).1, (dc3 l).1, (dk5 l).1, (ds6 l).1, (di7 l).1, (di8 l).1, false, false⟩ rfl rfl rfl)
          have c5 := (HI.out.tab.cell 5).trans rfl
          have f5 := HI.out.tab.frozen 5
          have lt_ := HI.out.tab.lt
          clear HI
          have HI := HP
          clear HP
          go_wp2_with fail
          refine (HG.out _ _ HI.out.dec).mono ?_
          rintro e w7 ⟨rfl, hD, hC⟩
          have HI2 := Lib.hid (HI.out.go hD hC)
          clear hD hC HI c4 f4 c5 f5 lt_
          rw [HX9.out] at HI2 ⊢
          have HI := HI2
          clear HI2
          go_wp2_with fail
          refine (HG.out _ _ HI.out.dec).mono ?_
          rintro e w8 ⟨rfl, hD, hC⟩
          have HI2 := Lib.hid (HI.out.go hD hC)
          clear hD hC HI 
          rw [HXA.out] at HI2 ⊢
          have HI := HI2
          clear HI2
          obtain ⟨ca, cca, hcv, hcc, hcm, hcA⟩ := own_slice HI.out.crow
          obtain ⟨ka, kca, hkv, hkc, hkm, hkA⟩ := own_slice HI.out.krow
          dsimp only at hcv hcc hcA hkv hkc hkA
          subst hcv hkv
          clear hcA hkA
          have b0 := (HI.out.tab.cell 0).trans rfl
          have b1 := (HI.out.tab.cell 1).trans rfl
          have b2 := (HI.out.tab.cell 2).trans rfl
          have b3 := (HI.out.tab.cell 3).trans rfl
          have b4 := (HI.out.tab.cell 4).trans rfl
          have b5 := (HI.out.tab.cell 5).trans rfl
          have HP := Lib.hid (HI.out.put 6 (.bool (df9 l).1) ⟨(sdS l 0).1, (dc3 l).1, (dk5 l).1, (ds6 l).1, (di7 l).1, (di8 l).1, (df9 l).1, false⟩ rfl rfl rfl)
          have c6 := (HI.out.tab.cell 6).trans rfl
          have f6 := HI.out.tab.frozen 6
          have lt_ := HI.out.tab.lt
          clear HI
          have HI := HP
          clear HP
          clear lt_
          have HP := Lib.hid (HI.out.put 7 (.bool (dfA l).1) ⟨(sdS l 0).1, (dc3 l).1, (dk5 l).1, (ds6 l).1, (di7 l).1, (di8 l).1, (df9 l).1, (dfA l).1⟩ rfl rfl rfl)
          have c7 := (HI.out.tab.cell 7).trans rfl
          have f7 := HI.out.tab.frozen 7
          have lt_ := HI.out.tab.lt
          clear HI
          have HI := HP
          clear HP
          obtain ⟨ca', cca', hcv', -, -, hcA⟩ := own_slice HI.out.crow
          obtain ⟨ka', kca', hkv', -, -, hkA⟩ := own_slice HI.out.krow
          dsimp only at hcv' hkv' hcA hkA
          injection hcv' with e1 e2 e3
          injection hkv' with e4 e5 e6
          subst e1 e4
          have hTA := fun h1 h2 => TAt.mk (t := ⟨(sdS l 0).1, (dc3 l).1, (dk5 l).1, (ds6 l).1, (di7 l).1, (di8 l).1, (df9 l).1, (dfA l).1⟩) (m := ⟨ca, (dc3 l).1.length, cca, ka, (dk5 l).1.length, kca⟩) rfl rfl h1 h2 hcA hkA HFair.out
          have HEn := Lib.hid (HE.out ⟨(sdS l 0).1, (dc3 l).1, (dk5 l).1, (ds6 l).1, (di7 l).1, (di8 l).1, (df9 l).1, (dfA l).1⟩ ⟨ca, (dc3 l).1.length, cca, ka, (dk5 l).1.length, kca⟩ _ HI.out.bel (hTA hcc hkc))
          clear hcA hkA hTA e2 e3 e5 e6 HE HFair HT HN HG HK
          go_wp2_with fail
          refine HEn.out.mono ?_
          rintro e wz ⟨r, q, rfl, hor, hbz⟩
          have hRlt := HI.out.res.lt
          have HRz := Lib.hid (HI.out.res.belS hbz hRlt)
          have HBz := Lib.hid (HI.out.bel.trans (hbz.mono HI.out.bel.size))
          have HCz := Lib.hid (own_below HI.out.crow (Nat.le_refl _) hbz)
          have HKz := Lib.hid (own_below HI.out.krow (Nat.le_refl _) hbz)
          have hl1 := HI.out.lt1
          have hl2 := HI.out.lt2
          clear hbz HI HEn b0 b1 b2 b3 b4 b5 c6 f6 c7 f7 lt_
          have HOw : Hid (∀ new, (wz.setRow w.heap.size new).ownsRow w.heap.size 68 3 (.slice ca (dc3 l).1.length cca) (dc3 l).1.length (cellsO (dc3 l).1) ∧ (wz.setRow w.heap.size new).ownsRow w.heap.size 3 1 (.slice ka (dk5 l).1.length kca) (dk5 l).1.length (cellsI (dk5 l).1)) := fun new =>
            ⟨own_base (own_chg (S := [w.heap.size]) HCz.out ((Chg.refl _ _).setRow (.inl (by simp)) _) (fun g hg => by have := (HCz.out.lt g hg).1; simp; omega)) (by omega), own_base (own_chg (S := [w.heap.size]) HKz.out ((Chg.refl _ _).setRow (.inl (by simp)) _) (fun g hg => by have := (HKz.out.lt g hg).1; simp; omega)) (by omega)⟩
          clear HCz HKz hl1 hl2
          rcases hor with ⟨h1, rfl, rfl⟩ | ⟨h1, rfl, rfl⟩
          · have HH := Lib.hid h1
            obtain ⟨s1, s2, s3⟩ := HS.out wz (TM.cs ⟨ca, (dc3 l).1.length, cca, ka, (dk5 l).1.length, kca⟩ ⟨(sdS l 0).1, (dc3 l).1, (dk5 l).1, (ds6 l).1, (di7 l).1, (di8 l).1, (df9 l).1, (dfA l).1⟩) HRz.out HBz.out rfl (by simp [Value.oneCell'])
            have S1 := Lib.hid s1
            have S2 := Lib.hid s2
            have S3 := Lib.hid s3
            clear h1 s1 s2 s3
            go_wp2_with (first | (guard_target =~ wpList _ _ _ (Oper.mk _ (Op.store 25 _ _) _ _ _ _ :: _) _ _; refine wpList_skp rfl (exec_store rfl rfl rfl S1.out) ?_))
            exact bodyPost_ret (v := .tuple #[.agg (TM.cs ⟨ca, (dc3 l).1.length, cca, ka, (dk5 l).1.length, kca⟩ ⟨(sdS l 0).1, (dc3 l).1, (dk5 l).1, (ds6 l).1, (di7 l).1, (di8 l).1, (df9 l).1, (dfA l).1⟩), .int .i64 0]) (results_cell_tmp Try.results27 _ _ rfl rfl S2.out) rfl ⟨.slice ca (dc3 l).1.length cca, .slice ka (dk5 l).1.length kca, ⟨_, _, rfl, .inl ⟨HH.out, rfl, rfl⟩, S3.out⟩, HOw.out _⟩
          · have HH := Lib.hid h1
            obtain ⟨s1, s2, s3⟩ := HS.out wz zeroTc HRz.out HBz.out rfl (by simp [Value.oneCell'])
            have S1 := Lib.hid s1
            have S2 := Lib.hid s2
            have S3 := Lib.hid s3
            clear h1 s1 s2 s3
            go_wp2_with (first | (guard_target =~ wpList _ _ _ (Oper.mk _ (Op.store 25 _ _) _ _ _ _ :: _) _ _; refine wpList_skp rfl (exec_store rfl rfl rfl S1.out) ?_))
            exact bodyPost_ret (v := .tuple #[.agg zeroTc, .int .i64 52]) (results_cell_tmp Try.results27 _ _ rfl rfl S2.out) rfl ⟨.slice ca (dc3 l).1.length cca, .slice ka (dk5 l).1.length kca, ⟨_, _, rfl, .inr ⟨HH.out, rfl, rfl⟩, S3.out⟩, HOw.out _⟩
end Go.Proofs.Ytialpfdhdcjpaaa

/- schema.Read's answer as a table in memory. -/
set_option linter.unusedSimpArgs false
set_option linter.unusedVariables false
set_option maxRecDepth 100000
namespace Go.Proofs.Ytialpfdhdcjpaaa
open Go.RowKit

def zeroTb : Tb := ⟨⟨#[]⟩, [], [], ⟨#[]⟩, 0, 0, false, false⟩
theorem zeroTb_fair : zeroTb.Fair := ⟨by decide, by decide, by decide, by decide, by decide, by decide, (by intro c hc; cases hc), (by intro c hc; cases hc)⟩
def RetRd (w : World) (l : List Nat) (e : Ending) (w' : World) : Prop := ∃ (t : Tb) (m : TM) (q : Int), e = .returned (.tuple #[.agg #[.string t.name, .slice m.ca m.cl m.cc, .slice m.ka m.kl m.kc, .string t.per, .int .i64 t.fr, .int .i64 t.tt, .bool t.apart, .bool t.vers], .int .i64 q]) ∧
  TAt w' t m ∧ Below w.heap.size w w' ∧ ((t = decT l ∧ writeT (decT l) = (l, 0) ∧ q = 0) ∨ (t = zeroTb ∧ writeT (decT l) ≠ (l, 0) ∧ q = 52))

theorem sRead_at (l : List Nat) (a : Option Addr) (n c : Nat) (w : World) (hB : Bs w.heap.size w a l) (hn : n = l.length) (hcap : n ≤ c) (hmax : n ≤ 1000000) :
    Calls Try.prog 27 #[.slice a n c] w (RetRd w l) := by
  refine (sRead_any l a n c w hB hn hcap hmax).mono ?_
  rintro e w' ⟨cv, kv, ⟨r, q, rfl, hor, hb⟩, hC, hK⟩
  rcases hor with ⟨h1, rfl, rfl⟩ | ⟨h1, rfl, rfl⟩
  · obtain ⟨ca, cc, rfl, hcc, -, hcA⟩ := own_slice hC
    obtain ⟨ka, kc, rfl, hkc, -, hkA⟩ := own_slice hK
    exact ⟨decT l, ⟨ca, (decT l).cols.length, cc, ka, (decT l).key.length, kc⟩, 0, rfl, ⟨rfl, rfl, hcc, hkc, hcA, hkA, decT_fair l hB.1 (by omega)⟩, hb, .inl ⟨rfl, h1, rfl⟩⟩
  · exact ⟨zeroTb, ⟨none, 0, 0, none, 0, 0⟩, 52, rfl, ⟨rfl, rfl, Nat.le_refl _, Nat.le_refl _, .inl rfl, .inl rfl, zeroTb_fair⟩, hb, .inr ⟨rfl, h1, rfl⟩⟩
theorem writeT_ok {t : Tb} {l : List Nat} (h : writeT t = (l, 0)) : t.ok = true ∧ encT t = l := by
  unfold writeT at h
  by_cases ht : t.ok = true
  · rw [if_pos ht] at h
    exact ⟨ht, congrArg Prod.fst h⟩
  · rw [if_neg ht] at h
    have := congrArg Prod.snd h
    simp at this
theorem zeroTb_ok : zeroTb.ok = false := by
  by_cases h : zeroTb.ok = true
  · have := (Tb.ok_iff.1 h).2.1.1
    simp [zeroTb] at this
  · simpa using h
end Go.Proofs.Ytialpfdhdcjpaaa
