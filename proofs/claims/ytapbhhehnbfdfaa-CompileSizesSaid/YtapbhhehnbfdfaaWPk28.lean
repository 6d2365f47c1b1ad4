/- Several texts of one proof, one behind the other. -/
import Derived.Test.YtapbhhehnbfdfaaWPk27
import Derived.BigQuiet
set_option linter.unusedSimpArgs false
set_option linter.unusedVariables false

/- Package compile: Decompile. -/
set_option linter.unusedSimpArgs false
set_option linter.unusedVariables false
set_option maxRecDepth 100000
namespace Go.Proofs.Ytapbhhehnbfdfaa
open Go.RowKit

def opL (o : Opn) : NLb := ⟨o.kd, o.nm, vl0, 0, 0⟩
/-- One instruction more, at a stack of nodes. -/
def dcmS (p : Pg) (s : List Nx) (x : Ins) : List Nx :=
  if (ofV x.op x.ag).ok = true then s.take (s.length - (ofV x.op x.ag).tk) ++ [.mk (opL (ofV x.op x.ag)) (s.drop (s.length - (ofV x.op x.ag).tk))]
  else s ++ [.mk (leafV p x) []]
def dcmL (p : Pg) (l : List Ins) : List Nx := l.foldl (dcmS p) []
theorem dcmL_snoc (p : Pg) (l : List Ins) (x : Ins) : dcmL p (l ++ [x]) = dcmS p (dcmL p l) x := by unfold dcmL; rw [List.foldl_append]; rfl
theorem ofV_12 (o a : Int) (h : o = 1 ∨ o = 2) : ofV o a = noOp := by
  rcases h with rfl | rfl
  · unfold ofV; rw [if_neg (by decide), if_neg (by decide), if_neg (by decide)]
  · unfold ofV; rw [if_neg (by decide), if_neg (by decide), if_neg (by decide)]
theorem ofV_off (o a : Int) (h : (ofV o a).ok = false) : ofV o a = noOp := by
  revert h
  unfold ofV unV biV foV
  split
  · split
    · intro h; cases h
    · intro _; rfl
  · split
    · split
      · intro h; cases h
      · intro _; rfl
    · split
      · split
        · intro h; cases h
        · intro _; rfl
      · intro _; rfl
theorem takes_tk (x : Ins) (n : Nat) : (takesV x n).1 = (ofV x.op x.ag).tk := by
  unfold takesV
  by_cases h1 : x.op = 1
  · rw [if_pos h1, ofV_12 _ _ (.inl h1)]; rfl
  · by_cases h2 : x.op = 2
    · rw [if_neg h1, if_pos h2, ofV_12 _ _ (.inr h2)]; rfl
    · rw [if_neg h1, if_neg h2]
theorem of_small (o a : Int) : (ofV o a).tk ≤ 4 ∧ -9223372036854775808 ≤ (ofV o a).kd ∧ (ofV o a).kd ≤ 9223372036854775807 ∧ ((ofV o a).ok = true → 0 < (ofV o a).tk ∧ (ofV o a).nm.size ≤ 1000) := by
  have hU : ∀ k : Nat, k < 5 → (-9223372036854775808 ≤ unK.getD k 0 ∧ unK.getD k 0 ≤ 9223372036854775807) ∧ (bs (unN.getD k [])).size ≤ 1000 := by
    intro k hk
    rcases (show k = 0 ∨ k = 1 ∨ k = 2 ∨ k = 3 ∨ k = 4 by omega) with rfl | rfl | rfl | rfl | rfl <;> decide +kernel
  have hB : ∀ k : Nat, k < 15 → (bs (biN.getD k [])).size ≤ 1000 := by
    intro k hk
    rcases (show k = 0 ∨ k = 1 ∨ k = 2 ∨ k = 3 ∨ k = 4 ∨ k = 5 ∨ k = 6 ∨ k = 7 ∨ k = 8 ∨ k = 9 ∨ k = 10 ∨ k = 11 ∨ k = 12 ∨ k = 13 ∨ k = 14 by omega) with rfl | rfl | rfl | rfl | rfl | rfl | rfl | rfl | rfl | rfl | rfl | rfl | rfl | rfl | rfl <;> decide +kernel
  have hF : ∀ k : Nat, k < 2 → (bs (foN.getD k [])).size ≤ 1000 := by
    intro k hk
    rcases (show k = 0 ∨ k = 1 by omega) with rfl | rfl <;> decide +kernel
  unfold ofV
  split
  · unfold unV
    split
    · rename_i h
      obtain ⟨k, rfl⟩ : ∃ k : Nat, a = (k : Int) := ⟨a.toNat, by omega⟩
      rw [Int.toNat_natCast]
      have := hU k (by omega)
      exact ⟨by show 1 ≤ 4; decide, this.1.1, this.1.2, fun _ => ⟨by show 0 < 1; decide, this.2⟩⟩
    · exact ⟨by decide, by decide, by decide, fun h => by cases h⟩
  · split
    · unfold biV
      split
      · rename_i h
        obtain ⟨k, rfl⟩ : ∃ k : Nat, a = (k : Int) := ⟨a.toNat, by omega⟩
        rw [Int.toNat_natCast]
        have := hB k (by omega)
        exact ⟨by show 2 ≤ 4; decide, by show (-9223372036854775808 : Int) ≤ 4; decide, by show (4 : Int) ≤ 9223372036854775807; decide, fun _ => ⟨by show 0 < 2; decide, this⟩⟩
      · exact ⟨by decide, by decide, by decide, fun h => by cases h⟩
    · split
      · unfold foV
        split
        · rename_i h
          obtain ⟨k, rfl⟩ : ∃ k : Nat, a = (k : Int) := ⟨a.toNat, by omega⟩
          rw [Int.toNat_natCast]
          have := hF k (by omega)
          exact ⟨by show 4 ≤ 4; decide, by show (-9223372036854775808 : Int) ≤ 7; decide, by show (7 : Int) ≤ 9223372036854775807; decide, fun _ => ⟨by show 0 < 4; decide, this⟩⟩
        · exact ⟨by decide, by decide, by decide, fun h => by cases h⟩
      · exact ⟨by decide, by decide, by decide, fun h => by cases h⟩
/-- Of a program that may be, each instruction may be. -/
theorem run_prefix {n : Nat} {l : List Ins} {r : Nat × Nat} (h : runI n l = some r) (k : Nat) : ∃ q, runI n (l.take k) = some q := by
  cases hq : runI n (l.take k) with
  | some q => exact ⟨q, rfl⟩
  | none =>
    have := runI_none n (l.take k) (l.drop k) hq
    rw [List.take_append_drop] at this
    rw [this] at h; cases h
theorem step_ok {n h m : Nat} {x : Ins} {q : Nat × Nat} (hq : stepI n (some (h, m)) x = some q) : (takesV x n).2 = true ∧ (takesV x n).1 ≤ h ∧ q.1 = h + 1 - (takesV x n).1 := by
  unfold stepI at hq
  simp only at hq
  split at hq
  · rename_i hc
    injection hq with hq
    subst hq
    exact ⟨hc.1, hc.2, rfl⟩
  · cases hq
theorem highV_run {p : Pg} (h : (highV p).2 = true) : (∃ m, runI p.cs.length p.code = some (1, m)) ∧ p.cs.length ≤ 200 ∧ p.code.length ≤ 4000 := by
  unfold highV at h
  split at h
  · cases h
  · rename_i hc
    cases hq : runI p.cs.length p.code with
    | none => rw [hq] at h; cases h
    | some q =>
      obtain ⟨a, b⟩ := q
      rw [hq] at h
      simp only at h
      split at h
      · cases h
      · rename_i hd
        have : a = 1 := by omega
        subst this
        exact ⟨⟨b, rfl⟩, by omega, by omega⟩
def PgFair (p : Pg) : Prop := ∀ v ∈ p.cs, v.k < 256 ∧ (-9223372036854775808 ≤ v.n ∧ v.n ≤ 9223372036854775807) ∧ v.s.size ≤ 9223372036854775807
theorem leaf_fair {p : Pg} (hp : PgFair p) {x : Ins} {n : Nat} (ht : (takesV x n).2 = true) (hk : (ofV x.op x.ag).ok = false) (hn : n = p.cs.length) : (leafV p x).fair ∧ (x.op = 1 → 0 ≤ x.ag ∧ x.ag < (p.cs.length : Int)) := by
  unfold takesV at ht
  by_cases h1 : x.op = 1
  · rw [if_pos h1] at ht
    simp only [Bool.and_eq_true, decide_eq_true_eq] at ht
    have hlt : x.ag.toNat < p.cs.length := by omega
    have hv := hp p.cs[x.ag.toNat] (List.getElem_mem hlt)
    have e : p.cs.getD x.ag.toNat vl0 = p.cs[x.ag.toNat] := by simp [hlt]
    refine ⟨?_, fun _ => by omega⟩
    unfold leafV
    rw [if_pos h1, e]
    exact ⟨(by show (-9223372036854775808 : Int) ≤ 1 ∧ (1 : Int) ≤ 9223372036854775807; decide), (by show 0 ≤ 9223372036854775807; decide), hv.1, hv.2.1, hv.2.2, (by show (-9223372036854775808 : Int) ≤ 0 ∧ (0 : Int) ≤ 9223372036854775807; decide), (by show 0 < 256; decide)⟩
  · refine ⟨?_, fun h => absurd h h1⟩
    by_cases h2 : x.op = 2
    · rw [if_neg h1, if_pos h2] at ht
      simp only [Bool.and_eq_true, decide_eq_true_eq] at ht
      unfold leafV
      rw [if_neg h1]
      exact ⟨(by show (-9223372036854775808 : Int) ≤ 2 ∧ (2 : Int) ≤ 9223372036854775807; decide), (by show 0 ≤ 9223372036854775807; decide), (by show 0 < 256; decide), (by show (-9223372036854775808 : Int) ≤ 0 ∧ (0 : Int) ≤ 9223372036854775807; decide), (by show 0 ≤ 9223372036854775807; decide), (by show -9223372036854775808 ≤ x.ag ∧ x.ag ≤ 9223372036854775807; omega), (by show 0 < 256; decide)⟩
    · rw [if_neg h1, if_neg h2] at ht
      rw [hk] at ht; cases ht
theorem op_fair {o a : Int} (h : (ofV o a).ok = true) : (opL (ofV o a)).fair := by
  have hs := of_small o a
  have h2 := hs.2.2.2 h
  exact ⟨⟨hs.2.1, hs.2.2.1⟩, (by show (ofV o a).nm.size ≤ 9223372036854775807; omega), (by show 0 < 256; decide), (by show (-9223372036854775808 : Int) ≤ 0 ∧ (0 : Int) ≤ 9223372036854775807; decide), (by show 0 ≤ 9223372036854775807; decide), (by show (-9223372036854775808 : Int) ≤ 0 ∧ (0 : Int) ≤ 9223372036854775807; decide), (by show 0 < 256; decide)⟩

/-- What Decompile hands back. -/
def RetDec (w : World) (p : Pg) (e : Ending) (w' : World) : Prop :=
  Below w.heap.size w w' ∧ (((highV p).2 = false ∧ e = .returned (.tuple #[.agg zeroNdc, .int .i64 3])) ∨
    ((highV p).2 = true ∧ ∃ y : NM, dcmL p p.code = [y.t] ∧ e = .returned (.tuple #[.agg #[.int .i64 y.t.lab.kd, .string y.t.lab.op, .int .u8 y.t.lab.v.k, .int .i64 y.t.lab.v.n, .string y.t.lab.v.s, .int .i64 y.t.lab.sl, .int .u8 (y.t.lab.ty : Int), .slice y.a y.t.args.length y.cap], .int .i64 0]) ∧ NdIn (fun b => w.heap.size ≤ b ∧ b < w'.heap.size) w' (p.code.length + 1) y))

/-- 's[k:h:h]' and 's[:k:k]' of nodes. -/
theorem cut3 (g h cap k : Nat) (hk : k < h) (hh : h ≤ cap) (W : World) : (Instr.slice 24 (.slice (some ⟨g, 0, none⟩) h cap) (some (.int .i64 (k : Int))) (some (.int .i64 (h : Int))) (some (.int .i64 (h : Int)))).run Try.prog W = .ok (.slice (some ⟨g, k * 8, none⟩) (h - k) (h - k)) W := by
  have hu := Try.underlying24
  have ht' : Try.prog.underlying 24 = some (.slice (Try.prog.elem 24)) := by simp [Program.elem, hu]
  have hee : Try.prog.elem 24 = 26 := by simp [Program.elem, hu]
  have hz : (Go.sizeOf 26).run Try.prog W = .ok 8 W := by
    obtain ⟨i0, hi, -, hz1, -⟩ := info_parts info_nd
    simp [Go.sizeOf, typeInfo, hi, hz1]
  rw [run_slice_lhm (P := Try.prog) W 24 (some ⟨g, 0, none⟩) h cap ht' .i64 .i64 .i64 (k : Int) (h : Int) (h : Int) (by omega) (by omega) (by omega) (by omega), hee, hz]
  simp only [Result.andThen, sliced, Int.toNat_natCast]
  rw [if_neg (by omega)]
  simp [Addr.add]
  by_cases h0 : k * 8 = 0
  · simp [h0]
  · simp [h0]
theorem cut0 (g h cap k : Nat) (hh : k ≤ cap) (W : World) : (Instr.slice 24 (.slice (some ⟨g, 0, none⟩) h cap) none (some (.int .i64 (k : Int))) (some (.int .i64 (k : Int)))).run Try.prog W = .ok (.slice (some ⟨g, 0, none⟩) k k) W := by
  have hu := Try.underlying24
  have ht' : Try.prog.underlying 24 = some (.slice (Try.prog.elem 24)) := by simp [Program.elem, hu]
  have hee : Try.prog.elem 24 = 26 := by simp [Program.elem, hu]
  have hz : (Go.sizeOf 26).run Try.prog W = .ok 8 W := by
    obtain ⟨i0, hi, -, hz1, -⟩ := info_parts info_nd
    simp [Go.sizeOf, typeInfo, hi, hz1]
  rw [run_slice_hm (P := Try.prog) W 24 (some ⟨g, 0, none⟩) h cap ht' .i64 .i64 (k : Int) (k : Int) (by omega) (by omega) (by omega), hee, hz]
  simp [Result.andThen, sliced, Addr.add]
end Go.Proofs.Ytapbhhehnbfdfaa

/- The walk of compile.Decompile. -/
set_option linter.unusedSimpArgs false
set_option linter.unusedVariables false
set_option maxRecDepth 100000
namespace Go.Proofs.Ytapbhhehnbfdfaa
open Go.RowKit

set_option maxHeartbeats 16000000 in
theorem decompile_any (y : PgM) (w : World) (hy : PgAt w y) (hf : PgFair y.p) :
    Calls Try.prog 18 #[.agg #[.slice y.ca y.p.cs.length y.cc, .slice y.ia y.p.code.length y.ic]] w (RetDec w y.p) := by
  obtain ⟨⟨cs, code⟩, ca, cc, ia, ic⟩ := y
  simp only at hf ⊢
  obtain ⟨i0, hi, hz0, hz1, hz2⟩ := info_parts info_nd
  obtain ⟨n, hn⟩ : ∃ n, cs.length = n := ⟨_, rfl⟩
  obtain ⟨m, hm⟩ : ∃ m, code.length = m := ⟨_, rfl⟩
  have HN := Lib.hid hn
  have HM := Lib.hid hm
  have HPf := Lib.hid hf
  have hic := hy.il
  have hic2 := hy.ic
  simp only at hic hic2
  rw [hm] at hic
  obtain ⟨w0, hw0⟩ : ∃ w0, (w.alloc (.cells #[.slice ca n cc, .slice ia m ic] 36)).alloc (.cells zeroNdc 26) = w0 := ⟨_, rfl⟩
  have hp0 : Blk w0 w.heap.size 36 #[.slice ca n cc, .slice ia m ic] := by rw [← hw0]; exact (Blk.new w _ _).alloc _
  have hr0 : Blk w0 (w.heap.size + 1) 26 zeroNdc := by
    rw [← hw0]
    have := Blk.new (w.alloc (.cells #[.slice ca n cc, .slice ia m ic] 36)) 26 zeroNdc
    rw [show (w.alloc (.cells #[.slice ca n cc, .slice ia m ic] 36)).heap.size = w.heap.size + 1 by simp] at this
    exact this
  have hb0 : Below w.heap.size w w0 := by rw [← hw0]; exact ((Below.refl _ w).alloc (Nat.le_refl _) _).alloc (by simp) _
  have HP0 := Lib.hid hp0
  have HR0 := Lib.hid hr0
  have HB0 := Lib.hid hb0
  have HS0 : Hid (w0.heap.size = w.heap.size + 2) := by rw [← hw0]; simp [Hid]
  have HPg := Lib.hid (fun (W : World) (hb : Below w.heap.size w W) => hy.later hb)
  have HRt := Lib.hid (codeRight_any ⟨⟨cs, code⟩, ca, cc, ia, ic⟩ w0 (hy.later hb0))
  obtain ⟨b, hb⟩ : ∃ b, (highV ⟨cs, code⟩).2 = b := ⟨_, rfl⟩
  have HHb := Lib.hid hb
  replace HRt : Hid (Calls Try.prog 23 #[.agg #[.slice ca n cc, .slice ia m ic]] w0 fun e w' => e = .returned (.bool b) ∧ Below w0.heap.size w0 w') := by
    have := HRt.out
    simp only at this
    rw [hn, hm, hb] at this; exact this
  rw [hn, hm]
  have c0 := (hp0.cell 0).trans rfl
  have c1 := (hp0.cell 1).trans rfl
  clear hy hf hn hm hp0 hr0 hb0 hb
  go_enter Try.func18, Try.ntmps18
  go_wp2_with fail
  refine HRt.out.mono ?_
  rintro e w1 ⟨rfl, hb1⟩
  have HB1 := Lib.hid hb1
  have HEnd := Lib.hid (fun (W : World) (hW : Below w0.heap.size w0 W) (cx : Array Value) (hcz : cx.size = 8) (hc1 : (cx.all fun x => x.oneCell') = true) => show _ ∧ _ ∧ Chg [w.heap.size + 1] W (W.setRow (w.heap.size + 1) cx) ∧ Below w.heap.size w (W.setRow (w.heap.size + 1) cx) from
    ⟨run_storeVar_row (P := Try.prog) W (w.heap.size + 1) 26 26 zeroNdc cx ((hW.block _ (by have := HS0.out; omega)).trans HR0.out) (by rw [info_ndS, hcz]) (by rw [hcz]; rfl) hc1,
     run_loadVar_row (P := Try.prog) _ _ _ 26 _ (0, 0) _ (Blk.setRow (new := cx) ((hW.block _ (by have := HS0.out; omega)).trans HR0.out)) Try.underlying26 rfl (by rw [info_ndS, hcz]),
     (Chg.refl _ _).setRow (.inl (by simp)) _,
     (HB0.out.trans (hW.mono HB0.out.size)).trans (((Chg.refl _ W).setRow (.inl (by simp)) _ : Chg [w.heap.size + 1] W _).below (by have := HB0.out.size; have := hW.size; omega) (by simp))⟩)
  clear hb1 HRt
  cases b with
  | false =>
    obtain ⟨h1, h2, -, h3⟩ := HEnd.out w1 HB1.out zeroNdc rfl (by simp [Value.oneCell'])
    have HS : Hid ((storeVar 26 ⟨w.heap.size + 1, 0, none⟩ (.agg zeroNdc)).run Try.prog w1 = .ok () (w1.setRow (w.heap.size + 1) zeroNdc)) := h1
    have HL := Lib.hid h2
    have HE : Hid (RetDec w ⟨cs, code⟩ (.returned (.tuple #[.agg zeroNdc, .int .i64 3])) (w1.setRow (w.heap.size + 1) zeroNdc)) := ⟨h3, .inl ⟨HHb.out, rfl⟩⟩
    clear h1 h2 h3 HEnd c0 c1
    go_wp2_with (first | (guard_target =~ wpList _ _ _ (Oper.mk _ (Op.store 26 _ _) _ _ _ _ :: _) _ _; refine wpList_skp rfl (exec_store rfl rfl rfl HS.out) ?_))
    exact bodyPost_ret (results_cell_tmp Try.results18 _ _ rfl rfl HL.out) rfl HE.out
  | true =>
    obtain ⟨⟨mx, hrun⟩, hn2, hm4⟩ := highV_run HHb.out
    simp only at hrun hn2 hm4
    rw [HN.out] at hrun hn2
    rw [HM.out] at hm4
    have HRun := Lib.hid hrun
    have HBx : Hid (∀ W, Below w0.heap.size w0 W → W.cell? ⟨w.heap.size, 0, none⟩ = some (.slice ca n cc) ∧ W.cell? ⟨w.heap.size, 1, none⟩ = some (.slice ia m ic)) := fun W hW => by
      have := (hW.block w.heap.size (by have := HS0.out; omega)).trans HP0.out
      exact ⟨(Blk.cell this 0).trans rfl, (Blk.cell this 1).trans rfl⟩
    clear c0 c1 hrun
    obtain ⟨c0, c1⟩ := HBx.out w1 HB1.out
    go_wp2
    clear c0 c1
    go_loopw [4, 18] (fun sv iv wr => ∃ (k h g : Nat) (cv : Value) (L : List NM), k ≤ m ∧ cv = sv ∧ iv = .int .i64 (k : Int) ∧ h ≤ k ∧ Hid (runI n (code.take k) = some (h, g)) ∧ Hid (L.length = h) ∧ Hid (L.map (·.t) = dcmL ⟨cs, code⟩ (code.take k)) ∧ Hid (NdsIn w0.heap.size wr k cv L) ∧ Hid (Below w0.heap.size w0 wr)) (fun _ iv _ => m - (intOf iv).toNat)
    case atStart => exact ⟨0, 0, 0, _, [], by omega, rfl, rfl, by omega, rfl, rfl, rfl, NdsIn.nil _ _ _, HB1.out⟩
    case round =>
      obtain ⟨k, h, g0, cv, L, hk, rfl, rfl, hhk, HI, HLl, HLt, HNd, HB⟩ := hrel
      have HBw : Hid (Below w.heap.size w wr) := HB0.out.trans (HB.out.mono HB0.out.size)
      by_cases hlt : k < m
      · have hkl : k < code.length := by rw [HM.out]; exact hlt
        obtain ⟨bc, oc, hab, -, y0, y1⟩ := insAt (HPg.out wr HBw.out).i hkl
        simp only at hab
        obtain ⟨q, hq⟩ := run_prefix HRun.out (k + 1)
        have hstep : stepI n (some (h, g0)) code[k] = some q := by
          rw [← hq, List.take_succ_eq_append_getElem hkl, runI_snoc, HI.out]
        obtain ⟨ht2, ht1, hq1⟩ := step_ok hstep
        have hq2 := runI_le n _ q.1 q.2 (hq.trans (by rfl))
        have HTk : Hid (dcmL ⟨cs, code⟩ (code.take (k + 1)) = dcmS ⟨cs, code⟩ (L.map (·.t)) code[k]) := by
          rw [List.take_succ_eq_append_getElem hkl, dcmL_snoc, HLt.out]; exact rfl
        have HRk : Hid (runI n (code.take (k + 1)) = some (q.1, q.2)) := hq.trans rfl
        rw [takes_tk] at ht1 hq1
        have HFl := Lib.hid (fun h9 => leaf_fair HPf.out ht2 h9 HN.out.symm)
        have HFo := Lib.hid (fun (h9 : (ofV code[k].op code[k].ag).ok = true) => op_fair h9)
        have hsm := of_small code[k].op code[k].ag
        generalize code[k] = x at *
        subst hab
        obtain ⟨w2, hw2⟩ : ∃ w2, wr.alloc (.cells #[.int .i64 x.op, .int .i64 x.ag] 63) = w2 := ⟨_, rfl⟩
        have hB2 : Blk w2 wr.heap.size 63 #[.int .i64 x.op, .int .i64 x.ag] := by rw [← hw2]; exact Blk.new wr _ _
        have hb2 : Below wr.heap.size wr w2 := by rw [← hw2]; exact (Below.refl _ wr).alloc (Nat.le_refl _) _
        have HB2r := Lib.hid hb2
        have HB2b := Lib.hid hB2
        have i0 := (hB2.cell 0).trans rfl
        have i1 := (hB2.cell 1).trans rfl
        have HO := Lib.hid (opOf_any x.op x.ag w2)
        obtain ⟨o, ho⟩ : ∃ o, ofV x.op x.ag = o := ⟨_, rfl⟩
        have HOe := Lib.hid ho
        rw [ho] at HO HFl HFo ht1 hq1 hsm
        obtain ⟨ok, on, ot, ob⟩ := o
        simp only at HFl HFo ht1 hq1 hsm
        replace HO : Hid (Calls Try.prog 28 #[.int .i64 x.op, .int .i64 x.ag] w2 fun e w' => Below w2.heap.size w2 w' ∧ e = .returned (.tuple #[.agg #[.int .i64 ok, .string on, .int .i64 (ot : Int)], .bool ob])) := HO.out
        have HSm := Lib.hid hsm
        have HTt := Lib.hid (And.intro ht1 hq1)
        have hqle := hq2.1
        rw [List.length_take] at hqle
        have HQle : Hid (q.1 ≤ k + 1) := by show _ ≤ _; omega
        clear hkl hq hstep ht2 ht1 hq1 hq2 hB2 hb2 ho hsm hqle
        go_wp2_with fail
        refine HO.out.mono ?_
        rintro e w3 ⟨hb3, rfl⟩
        obtain ⟨w4, hw4⟩ : ∃ w4, w3.alloc (.cells #[.int .i64 ok, .string on, .int .i64 (ot : Int)] 66) = w4 := ⟨_, rfl⟩
        have hV4 : Blk w4 w3.heap.size 66 #[.int .i64 ok, .string on, .int .i64 (ot : Int)] := by rw [← hw4]; exact Blk.new w3 _ _
        have hb4 : Below w3.heap.size w3 w4 := by rw [← hw4]; exact (Below.refl _ w3).alloc (Nat.le_refl _) _
        have hb24 : Below w2.heap.size w2 w4 := hb3.trans (hb4.mono hb3.size)
        have HB4 : Hid (Below wr.heap.size wr w4) := HB2r.out.trans (hb24.mono HB2r.out.size)
        have HB4o : Hid (Below w0.heap.size w0 w4) := HB.out.trans (HB4.out.mono HB.out.size)
        have HI4 : Hid (Blk w4 wr.heap.size 63 #[.int .i64 x.op, .int .i64 x.ag]) := (hb24.block _ HB2b.out.lt).trans HB2b.out
        have HV4 := Lib.hid hV4
        clear hb3 hb4 hb24 hV4 HO i0 i1 y0 y1
        cases ob with
        | false =>
          obtain ⟨hfair, hag⟩ := HFl.out (by trivial)
          obtain ⟨c0, c1⟩ := HBx.out w4 HB4o.out
          have HLf := Lib.hid (leaf_any ⟨⟨cs, code⟩, ca, cc, some ⟨bc, oc, none⟩, ic⟩ x w4 (HPg.out w4 (HB0.out.trans (HB4o.out.mono HB0.out.size))) hag)
          obtain ⟨lb, hlb⟩ : ∃ lb, leafV ⟨cs, code⟩ x = lb := ⟨_, rfl⟩
          have HLb := Lib.hid hlb
          replace HLf : Hid (Calls Try.prog 29 #[.agg #[.slice ca n cc, .slice (some ⟨bc, oc, none⟩) m ic], .agg #[.int .i64 x.op, .int .i64 x.ag]] w4 fun e w' => e = .returned (.agg (lb.csN (.slice none 0 0))) ∧ Below w4.heap.size w4 w') := by
            have := HLf.out
            simp only at this
            rw [HN.out, HM.out, hlb] at this; exact this
          rw [hlb] at hfair
          have HFa := Lib.hid hfair
          have i0 := (HI4.out.cell 0).trans rfl
          have i1 := (HI4.out.cell 1).trans rfl
          have HQ1 : Hid (q.1 = h + 1) := by
            have h1 := HTt.out
            have h4 := ofV_off x.op x.ag (by rw [HOe.out])
            rw [HOe.out] at h4
            have h3 : ot = 0 := by injection h4
            show q.1 = h + 1
            omega
          have HDs : Hid (dcmL ⟨cs, code⟩ (code.take (k + 1)) = L.map (·.t) ++ [.mk lb []]) := by
            show _ = _
            rw [HTk.out]
            unfold dcmS
            rw [HOe.out, if_neg (by simp), HLb.out]
          clear hfair hag hlb HFl HFo
          go_wp2_with fail
          refine HLf.out.mono ?_
          rintro e w5 ⟨rfl, hb5⟩
          have HB5 : Hid (Below wr.heap.size wr w5) := HB4.out.trans (hb5.mono HB4.out.size)
          have hrow5 : w5.ownsRow w0.heap.size 26 8 cv h (cellsNs L) := by
            have := own_below HNd.out.row (Nat.le_refl _) HB5.out
            rw [HLl.out] at this; exact this
          have HR5 := Lib.hid hrow5
          have HBs : Hid (w0.heap.size ≤ w5.heap.size) := Nat.le_trans HB.out.size HB5.out.size
          clear hb5 hrow5 HLf c0 c1 i0 i1
          go_wp2_with (first | (at_builtin; refine wpList_appF rfl _ _ 24 rfl w0.heap.size 26 i0 (.agg #[.int .i64 0, .string ⟨#[]⟩, .int .u8 0, .int .i64 0, .string ⟨#[]⟩, .int .i64 0, .int .u8 0, .slice none 0 0]) 8 96 1 Try.underlying24 hi hz0 rfl hz1 (by omega) hz2 (by omega) cv h _ (cellsNd ⟨.mk lb [], none, 0⟩) w5 HR5.out rfl _ rfl rfl (one_Nd _) rfl (by omega) HBs.out ?_; intro v6 w6 hown6 hc6 hsz6 hf6; have HO6 := Lib.hid hown6; have HC6 := Lib.hid hc6; have HF6 := Lib.hid hf6; clear hown6 hc6 hsz6 hf6))
          have HN6 : Hid (NdsIn w0.heap.size w6 (k + 1) v6 (L ++ [⟨.mk lb [], none, 0⟩])) := HNd.out.up.add HB5.out.size (fun b _ hb => HB5.out.block b hb) HB.out.size (NdIn.leaf HFa.out) (by rw [HLl.out]; exact HO6.out) HC6.out HF6.out
          have HB6 : Hid (Below w0.heap.size w0 w6) := HB.out.trans ((HB5.out.mono HB.out.size).trans (((Below.refl w0.heap.size w5).alloc HBs.out _).trans (HC6.out.below (by have := HBs.out; simp; omega) (fun g hg => (HR5.out.lt g (by simpa using hg)).1))))
          go_roundw
          case rel => exact ⟨k + 1, q.1, q.2, v6, L ++ [(⟨.mk lb [], none, 0⟩ : NM)], by omega, rfl, by go_num, HQle.out, HRk, (by show _ = _; rw [HQ1.out, List.length_append, HLl.out]; rfl), (by show _ = _; rw [HDs.out, List.map_append]; rfl), HN6, HB6⟩
          case measure => simp [intOf]; omega
        | true =>
          obtain ⟨htk, hnm⟩ := HSm.out.2.2.2 (by trivial)
          have ht1 := HTt.out.1
          have hq1 := HTt.out.2
          obtain ⟨g, cap, hcv, hcap⟩ : ∃ g cap, cv = .slice (some ⟨g, 0, none⟩) h cap ∧ h ≤ cap := by
            have hr := HNd.out.row
            rw [HLl.out] at hr
            rcases hr.2 with ⟨_, h0⟩ | ⟨g, cap, cur, hv, _, _, hnc, _⟩
            · omega
            · exact ⟨g, cap, hv, hnc⟩
          have HCv := Lib.hid hcv
          subst hcv
          have hgl : g < wr.heap.size := own_lt HNd.out.row (g := g) rfl
          obtain ⟨at_, hat⟩ : ∃ at_, h - ot = at_ := ⟨_, rfl⟩
          have e1 : IntKind.i64.wrap ((h : Int) - (ot : Int)) = (at_ : Int) := by rw [IntWalk.i64_in _ (by omega)]; omega
          have hs1 := fun W => cut3 g h cap at_ (by omega) hcap W
          have hs2 := fun W => cut0 g h cap at_ (by omega) W
          have hha : h - at_ = ot := by omega
          rw [hha] at hs1
          have j2 := ((HV4.out.cell 2).trans rfl : w4.cell? ⟨w3.heap.size, 2, none⟩ = some (.int .i64 (ot : Int)))
          have l0 : ∀ V, Chg [] w4.drew V → V.cell? ⟨w3.heap.size, 0, none⟩ = some (.int .i64 ok) := fun V hV => (hV.cell (b := w3.heap.size) HV4.out.lt (by simp)).trans ((HV4.out.cell 0).trans rfl)
          have l1 : ∀ V, Chg [] w4.drew V → V.cell? ⟨w3.heap.size, 1, none⟩ = some (.string on) := fun V hV => (hV.cell (b := w3.heap.size) HV4.out.lt (by simp)).trans ((HV4.out.cell 1).trans rfl)
          obtain ⟨nd, hnd⟩ : ∃ nd : NM, (⟨.mk (opL ⟨ok, on, ot, true⟩) ((L.drop at_).map (·.t)), some ⟨g, at_ * 8, none⟩, L.length - at_⟩ : NM) = nd := ⟨_, rfl⟩
          have hcn : cellsNd nd = [.int .i64 ok, .string on, .int .u8 0, .int .i64 0, .string ⟨#[]⟩, .int .i64 0, .int .u8 0, .slice (some ⟨g, at_ * 8, none⟩) ot ot] := by
            rw [← hnd]
            have : (L.drop at_).length = ot := by rw [List.length_drop, HLl.out]; omega
            simp [cellsNd, cellsR, NLb.cells, Rose.lab, Rose.args, opL, HLl.out, hha]
          have HCn := Lib.hid hcn
          have hholds : ∀ j v, (cellsNs (L.take at_))[j]? = some v → w4.drew.cell? ⟨g, j, none⟩ = some v := fun j v hj => by
            have hr := own_below HNd.out.row (Nat.le_refl _) HB4.out
            have hc : cellsNs L = cellsNs (L.take at_) ++ cellsNs (L.drop at_) := by
              conv => lhs; rw [← List.take_append_drop at_ L]
              unfold cellsNs cellsOf; rw [List.flatMap_append]
            have hj2 := (List.getElem?_eq_some_iff.1 hj).1
            have hll : (cellsNs L).length = L.length * 8 := cellsNs_len L
            have hjl : j < L.length * 8 := by rw [← hll, hc, List.length_append]; omega
            show w4.cell? ⟨g, j, none⟩ = some v
            have hr2 : w4.ownsRow w0.heap.size 26 8 (.slice (some ⟨g, 0, none⟩) L.length cap) L.length (cellsNs L) := by rw [HLl.out]; rw [HLl.out] at hr; exact hr
            rw [hr2.cellAt j hjl, hc, List.getElem?_append_left hj2]
            exact hj
          have hlo : (cellsNs (L.take at_)).length = at_ * 8 := by rw [cellsNs_len, List.length_take, Nat.min_eq_left (by rw [HLl.out]; omega)]
          have HHo := Lib.hid hholds
          have HLo := Lib.hid hlo
          have HFa := Lib.hid (HFo.out (by trivial))
          have HNe := Lib.hid hnd
          have HDs : Hid (dcmL ⟨cs, code⟩ (code.take (k + 1)) = (L.take at_ ++ [nd]).map (·.t)) := by
            show _ = _
            rw [HTk.out]
            unfold dcmS
            rw [HOe.out, if_pos rfl, List.length_map, HLl.out, hat, ← hnd, List.map_append, List.map_take, List.map_drop]
            rfl
          have HLn : Hid ((L.take at_ ++ [nd]).length = q.1) := by
            show _ = _
            rw [List.length_append, List.length_take, HLl.out, hq1]
            simp; omega
          have hg4 : g < w4.drew.heap.size := Nat.lt_of_lt_of_le hgl HB4.out.size
          have hb4o : w0.heap.size ≤ w4.drew.heap.size := HB4o.out.size
          have hatb : at_ + 1 < 100000000000 := by omega
          have hath : at_ ≤ h := by omega
          clear hnd hcn hholds hlo hgl htk hnm ht1 hq1 hat hha HFl HFo
          go_upto_region 12 with fail
          refine wp_region_ordS [] [(0, true), (1, true), (2, true), (3, true), (4, true), (5, true), (6, true), (7, true), (8, true), (9, true), (10, false), (11, false), (12, true)] (by kernel_rfl) (by kernel_rfl) (by kernel_rfl) (by kernel_rfl) ?_
          repeat (first | (refine wpO_F (v := ?_) rfl (by rfl) (fun w' hL => ?_) ?_; rotate_left; (solve | (go_simp; with_reducible rfl) | go_simp); try simp only [Act.put, List.setIfInBounds_toArray, List.set_cons_zero, List.set_cons_succ]) | (refine wpO_G' (Chg.refl _) rfl (by rfl) ?_; try simp only [Act.put, List.setIfInBounds_toArray, List.set_cons_zero, List.set_cons_succ]))
          refine wpO_C rfl (by rfl) ?_
          go_simp
          refine ⟨(Chg.refl _ _).alloc _, ?_⟩
          try simp only [Act.put, List.setIfInBounds_toArray, List.set_cons_zero, List.set_cons_succ]
          refine wpO_C rfl (by rfl) ?_
          refine wp_appN (.tmp 53) (.tmp 60) 24 rfl w0.heap.size 26 i0 (.agg #[.int .i64 0, .string ⟨#[]⟩, .int .u8 0, .int .i64 0, .string ⟨#[]⟩, .int .i64 0, .int .u8 0, .slice none 0 0]) 8 96 1 Try.underlying24 hi hz0 rfl hz1 (by omega) hz2 (by omega) g at_ (cellsNs (L.take at_)) (cellsNd nd) w4.drew HLo.out hg4 HHo.out rfl _ (by rw [HCn.out]) (cellsNd_len nd) (by omega) rfl hatb hb4o ?_
          intro v6 w6 hown6 hb6 hv6
          refine ⟨below_chgN hb6, ?_⟩
          try simp only [Act.put, List.setIfInBounds_toArray, List.set_cons_zero, List.set_cons_succ]
          have hb6' : Below wr.heap.size wr w6 := HB4.out.trans (((Below.refl _ w4).drew.alloc (Nat.le_refl _) _ |>.trans (hb6.mono (by simp))).mono HB4.out.size)
          have HN6 : Hid (NdsIn w0.heap.size w6 (k + 1) v6 (L.take at_ ++ [nd])) := by
            have hcv2 : (Value.slice (some ⟨g, 0, none⟩) h cap) = .slice (some ⟨g, 0, none⟩) L.length cap := by rw [HLl.out]
            have hrow6 : w6.ownsRow w0.heap.size 26 8 v6 (at_ + 1) (cellsNs (L.take at_) ++ cellsNd ⟨.mk (opL ⟨ok, on, ot, true⟩) ((L.drop at_).map (·.t)), some ⟨g, at_ * 8, none⟩, L.length - at_⟩) := by rw [HNe.out]; exact hown6
            have := NdsIn.fold (at_ := at_) HNd.out hcv2 (by rw [HLl.out]; omega) hb6' HFa.out (by rw [HLl.out]; omega) hrow6 (fun g' hg' => by have h1 := hv6 g' hg'; have h2 := HB4.out.size; have h3 : w4.drew.heap.size = w4.heap.size := rfl; omega)
            rw [HNe.out] at this; exact this
          have HB6 : Hid (Below w0.heap.size w0 w6) := HB.out.trans (hb6'.mono HB.out.size)
          clear hown6 hb6 hv6 hb6' HHo HLo hs1 hs2 j2 l0 l1 hg4 hb4o
          repeat (first | (refine wpO_F (v := ?_) rfl (by rfl) (fun w' hL => ?_) ?_; rotate_left; (solve | (go_simp; with_reducible rfl) | go_simp); try simp only [Act.put, List.setIfInBounds_toArray, List.set_cons_zero, List.set_cons_succ]) | (refine wpO_G' (Chg.refl _) rfl (by rfl) ?_; try simp only [Act.put, List.setIfInBounds_toArray, List.set_cons_zero, List.set_cons_succ]))
          refine wpO_nil ?_
          try go_wp2
          go_roundw
          case rel => exact ⟨k + 1, q.1, q.2, v6, L.take at_ ++ [nd], by omega, rfl, by go_num, HQle.out, HRk.out, HLn.out, HDs.out.symm, HN6.out, HB6.out⟩
          case measure => simp [intOf]; omega
      · have hke : k = m := by omega
        have hrun2 := HI.out
        rw [hke, ← HM.out, List.take_length, HRun.out] at hrun2
        have hh1 : h = 1 := by injection hrun2 with e; injection e with e1 e2; exact e1.symm
        have hL1 : L.length = 1 := by rw [HLl.out]; exact hh1
        obtain ⟨y, hLy⟩ : ∃ y, L = [y] := by
          match L, hL1 with
          | [y], _ => exact ⟨y, rfl⟩
        subst hLy
        have hLt := HLt.out
        rw [hke, ← HM.out, List.take_length] at hLt
        obtain ⟨av, ac, hcv, -, -, hA⟩ := own_slice HNd.out.row
        have hNs : NsAt wr.heap.size wr k av ac [y] := ⟨hA, fun z hz => NdIn.at_ ((HNd.out.kid z hz).imp fun b hb => hb.2.1), by obtain ⟨a2, c2, e, h1, h2, h3⟩ := own_slice HNd.out.row; rw [hcv] at e; injection e with _ _ e3; subst e3; exact h1, by obtain ⟨a2, c2, e, h1, h2, h3⟩ := own_slice HNd.out.row; rw [hcv] at e; injection e with _ _ e3; subst e3; exact h2⟩
        obtain ⟨bn, on, hav, -, y0, y1, y2, y3, y4, y5, y6, y7⟩ := hNs.at_ (k := 0) (by simp)
        simp only [List.getElem_cons_zero, Nat.zero_mul, Nat.add_zero] at y0 y1 y2 y3 y4 y5 y6 y7
        subst hav
        have hcv1 : cv = .slice (some ⟨bn, on, none⟩) 1 ac := hcv
        obtain ⟨cx, hcx⟩ : ∃ cx : Array Value, #[.int .i64 y.t.lab.kd, .string y.t.lab.op, .int .u8 y.t.lab.v.k, .int .i64 y.t.lab.v.n, .string y.t.lab.v.s, .int .i64 y.t.lab.sl, .int .u8 (y.t.lab.ty : Int), .slice y.a y.t.args.length y.cap] = cx := ⟨_, rfl⟩
        obtain ⟨h1, h2, h3, h4⟩ := HEnd.out wr HB.out cx (by rw [← hcx]; rfl) (by rw [← hcx]; simp [Value.oneCell'])
        have HS := Lib.hid h1
        have HL := Lib.hid h2
        have HE : Hid (RetDec w ⟨cs, code⟩ (.returned (.tuple #[.agg cx, .int .i64 0])) (wr.setRow (w.heap.size + 1) cx)) := by
          refine ⟨h4, .inr ⟨HHb.out, y, hLt.symm, by rw [← hcx], ?_⟩⟩
          have hkid := HNd.out.kid y (by simp)
          have hs0 := HS0.out
          have : NdIn (fun b => w.heap.size ≤ b ∧ b < (wr.setRow (w.heap.size + 1) cx).heap.size) (wr.setRow (w.heap.size + 1) cx) k y :=
            (hkid.keep (w' := wr.setRow (w.heap.size + 1) cx) (fun b hb => h3.block b hb.2.1 (by simp; omega))).imp fun b hb => ⟨by omega, by simp; exact hb.2.1⟩
          rw [hke] at this
          show NdIn _ _ (code.length + 1) y
          rw [HM.out]
          exact RoseIn.up this
        subst hcv1
        clear h1 h2 h3 h4 hA hNs hcv hLt hrun2
        subst hcx
        go_wp2_with (first | (guard_target =~ wpList _ _ _ (Oper.mk _ (Op.store 26 _ _) _ _ _ _ :: _) _ _; refine wpList_skp rfl (exec_store rfl rfl rfl HS.out) ?_))
        exact bodyPost_ret (results_cell_tmp Try.results18 _ _ rfl rfl HL.out) rfl HE.out
end Go.Proofs.Ytapbhhehnbfdfaa

/- Law 26's great and alive. -/
set_option linter.unusedSimpArgs false
set_option linter.unusedVariables false
set_option maxRecDepth 100000
namespace Go.Proofs.Ytapbhhehnbfdfaa
open Go.RowKit

/-- Is a node too much for a statement? -/
def great26 (x : Nx) : Bool := decide (300 < min x.count 3000) || greatN 30 x
theorem great26_count {x : Nx} (h : great26 x = false) : x.count ≤ 300 := by
  unfold great26 at h
  simp only [Bool.or_eq_false_iff, decide_eq_false_iff_not] at h
  omega
set_option maxHeartbeats 2000000 in
theorem great26_any (n : Nat) (x : NM) (W : World) (h : NdAt W.heap.size W n x) :
    Calls Try.prog 7 #[x.nv] W fun e w' => e = .returned (.bool (great26 x.t)) ∧ Below W.heap.size W w' := by
  rw [NM.nv_eq]
  have HX := Lib.hid (Slot8.new W 26 (.int .i64 x.t.lab.kd) (.string x.t.lab.op) (.int .u8 x.t.lab.v.k) (.int .i64 x.t.lab.v.n) (.string x.t.lab.v.s) (.int .i64 x.t.lab.sl) (.int .u8 (x.t.lab.ty : Int)) (.slice x.a x.t.args.length x.cap))
  obtain ⟨w0, hw0⟩ : ∃ w0, W.alloc (.cells #[.int .i64 x.t.lab.kd, .string x.t.lab.op, .int .u8 x.t.lab.v.k, .int .i64 x.t.lab.v.n, .string x.t.lab.v.s, .int .i64 x.t.lab.sl, .int .u8 (x.t.lab.ty : Int), .slice x.a x.t.args.length x.cap] 26) = w0 := ⟨_, rfl⟩
  have HB0 : Hid (Below W.heap.size W w0) := by rw [← hw0]; exact (Below.refl _ W).alloc (Nat.le_refl _) _
  have hs0 : w0.heap.size = W.heap.size + 1 := by rw [← hw0]; simp
  rw [hw0] at HX
  have HZ := Lib.hid hs0
  have HC := Lib.hid (nCnt_any n x w0 0 (h.later HB0.out) (by omega))
  have HG := Lib.hid (fun V (hb : Below W.heap.size W V) => nGreat_any n x V 30 (h.later hb) (by omega))
  rw [NM.nv_eq] at HC HG
  obtain ⟨c, hc⟩ : ∃ c, min (0 + x.t.count) 3000 = c := ⟨_, rfl⟩
  obtain ⟨g, hg⟩ : ∃ g, greatN 30 x.t = g := ⟨_, rfl⟩
  obtain ⟨b, hb⟩ : ∃ b, decide (300 < c) = b := ⟨_, rfl⟩
  have HV : Hid (great26 x.t = (b || g)) := by unfold great26; rw [hg, ← hb, ← hc, Nat.zero_add]; exact rfl
  have q1 : decide ((300 : Int) < (c : Int)) = b := by rw [← hb, Bool.eq_iff_iff]; simp; omega
  rw [hc] at HC
  rw [hg] at HG
  clear hc hg hs0 h
  obtain ⟨x0, x1, x2, x3, x4, x5, x6, x7⟩ := HX.out
  cases b
  · have q2 : ¬ (300 < c) := by simpa using hb
    go_enter Try.func7, Try.ntmps7
    go_wp2_with fail
    refine HC.out.mono ?_
    rintro e w1 ⟨rfl, hb1⟩
    obtain ⟨y0, y1, y2, y3, y4, y5, y6, y7⟩ := HX.out.later (by have := HZ.out; omega) hb1
    have HB1 := Lib.hid (HB0.out.trans (hb1.mono HB0.out.size))
    clear HC hb1 x0 x1 x2 x3 x4 x5 x6 x7
    go_wp2_with fail
    refine (HG.out _ HB1.out).mono ?_
    rintro e w2 ⟨rfl, hb2⟩
    have HB2 := Lib.hid (HB1.out.trans (hb2.mono HB1.out.size))
    clear HG hb2 y0 y1 y2 y3 y4 y5 y6 y7
    go_wp2
    go_ret
    exact ⟨ret_b (by rw [HV.out]; rfl), HB2.out⟩
  · have q2 : 300 < c := by simpa using hb
    go_enter Try.func7, Try.ntmps7
    go_wp2_with fail
    refine HC.out.mono ?_
    rintro e w1 ⟨rfl, hb1⟩
    have HB1 := Lib.hid (HB0.out.trans (hb1.mono HB0.out.size))
    clear HC hb1 x0 x1 x2 x3 x4 x5 x6 x7
    go_wp2
    go_ret
    exact ⟨ret_b (by rw [HV.out]; rfl), HB1.out⟩


abbrev v1 : Vl := ⟨1, 1, ⟨#[]⟩⟩
abbrev one26 : NLb := ⟨1, ⟨#[]⟩, v1, 0, 1⟩
abbrev sum26 : NLb := ⟨4, ⟨#[43]⟩, ⟨0, 0, ⟨#[]⟩⟩, 0, 1⟩
abbrev agg26 : NLb := ⟨6, ⟨#[99, 111, 117, 110, 116]⟩, ⟨0, 0, ⟨#[]⟩⟩, 0, 0⟩
abbrev oneX : Nx := .mk one26 []
abbrev sumX : Nx := .mk sum26 [oneX, oneX]
abbrev aggX : Nx := .mk agg26 []
abbrev oneCs26 : Array Value := #[.int .i64 1, .string ⟨#[]⟩, .int .u8 1, .int .i64 1, .string ⟨#[]⟩, .int .i64 0, .int .u8 1, .slice none 0 0]
abbrev sumCs26 (h : Nat) : Array Value := #[.int .i64 4, .string ⟨#[43]⟩, .int .u8 0, .int .i64 0, .string ⟨#[]⟩, .int .i64 0, .int .u8 1, .slice (some ⟨h, 0, none⟩) 2 2]
abbrev argCs26 : Array Value := #[.int .i64 1, .string ⟨#[]⟩, .int .u8 1, .int .i64 1, .string ⟨#[]⟩, .int .i64 0, .int .u8 1, .slice none 0 0, .int .i64 1, .string ⟨#[]⟩, .int .u8 1, .int .i64 1, .string ⟨#[]⟩, .int .i64 0, .int .u8 1, .slice none 0 0]
abbrev P26 : Pg := ⟨[v1], [⟨1, 0⟩, ⟨1, 0⟩, ⟨4, 10⟩]⟩
theorem add_one0 : addV oneX ⟨[], []⟩ = some ⟨[v1], [⟨1, 0⟩]⟩ := by rw [addV_eq]; decide +kernel
theorem add_one1 : addV oneX ⟨[v1], [⟨1, 0⟩]⟩ = some ⟨[v1], [⟨1, 0⟩, ⟨1, 0⟩]⟩ := by rw [addV_eq]; decide +kernel
theorem add_sum26 : addV sumX ⟨[], []⟩ = some P26 := by
  have h1 : foldA [oneX, oneX] ⟨[], []⟩ = some ⟨[v1], [⟨1, 0⟩, ⟨1, 0⟩]⟩ := by
    unfold foldA
    simp only [List.foldl_cons, List.foldl_nil, Option.bind_some]
    rw [add_one0]
    simp only [Option.bind_some]
    rw [add_one1]
  rw [addV_eq]
  show (if (insV sum26 2 ⟨[], []⟩).2.2 = true then (foldA [oneX, oneX] (insV sum26 2 ⟨[], []⟩).1).map (fun q => (⟨q.cs, q.code ++ [(insV sum26 2 ⟨[], []⟩).2.1]⟩ : Pg)) else none) = some P26
  rw [show insV sum26 2 ⟨[], []⟩ = (⟨[], []⟩, ⟨4, 10⟩, true) by decide +kernel]
  simp only [if_true]
  rw [h1]
  rfl
theorem high26 : highV P26 = (2, true) := by decide +kernel
theorem comp_sumV : compV sumX = (P26, 0) := by
  unfold compV
  rw [add_sum26]
  simp only [high26, if_true]
theorem comp_aggV : compV aggX = (⟨[], []⟩, 3) := by
  unfold compV
  rw [addV_eq]
  rw [show (insV aggX.lab aggX.args.length ⟨[], []⟩).2.2 = false by decide +kernel]
  rfl
theorem dcm26 : dcmL P26 P26.code = [.mk (opL ⟨4, ⟨#[43]⟩, 2, true⟩) [.mk (leafV P26 ⟨1, 0⟩) [], .mk (leafV P26 ⟨1, 0⟩) []]] := by
  have h1 : ofV 1 0 = noOp := by decide +kernel
  have h4 : ofV 4 10 = ⟨4, ⟨#[43]⟩, 2, true⟩ := by decide +kernel
  show dcmS P26 (dcmS P26 (dcmS P26 [] ⟨1, 0⟩) ⟨1, 0⟩) ⟨4, 10⟩ = _
  unfold dcmS
  simp only [h1, h4]
  rfl
theorem fair1 : one26.fair := ⟨by decide, by decide, by decide, by decide, by decide, by decide, by decide⟩
theorem fairS : sum26.fair := ⟨by decide, by decide, by decide, by decide, by decide, by decide, by decide⟩
theorem fairA : agg26.fair := ⟨by decide, by decide, by decide, by decide, by decide, by decide, by decide⟩
theorem sum_at {W : World} {h : Nat} (hB : Blk W h 26 argCs26) : NdAt W.heap.size W 2 ⟨sumX, some ⟨h, 0, none⟩, 2⟩ := by
  refine ⟨fairS, Nat.le_refl _, by show 2 ≤ 9223372036854775807; decide, [⟨oneX, none, 0⟩, ⟨oneX, none, 0⟩], rfl, .inr ⟨h, 0, rfl, hB.lt, fun i v hi => ?_⟩, fun y hy => ?_⟩
  · rw [Nat.zero_add]
    exact (hB.cell i).trans (by rw [← hi]; simp [cellsOf, cellsR, NLb.cells, Rose.lab, Rose.args])
  · simp only [List.mem_cons, List.not_mem_nil, or_false] at hy
    rcases hy with rfl | rfl
    all_goals exact ⟨fair1, Nat.le_refl _, by show 0 ≤ 9223372036854775807; decide, [], rfl, .inl rfl, fun y hy => by cases hy⟩
theorem agg_at (W : World) : NdAt W.heap.size W 1 ⟨aggX, none, 0⟩ := ⟨fairA, Nat.le_refl _, by show 0 ≤ 9223372036854775807; decide, [], rfl, .inl rfl, fun y hy => by cases hy⟩
theorem comp_sum {w : World} {h : Nat} (hB : Blk w h 26 argCs26) : Calls Try.prog 10 #[.agg (sumCs26 h)] w fun e w' => Below w.heap.size w w' ∧ ∃ ca cc ia ic, e = .returned (.tuple #[.agg #[.slice ca 1 cc, .slice ia 3 ic], .int .i64 0]) ∧ PgAt w' ⟨P26, ca, cc, ia, ic⟩ := by
  refine (compile_any 2 ⟨sumX, some ⟨h, 0, none⟩, 2⟩ w (sum_at hB) (by show sumX.count ≤ 1000000; decide +kernel)).mono fun e w' hr => ?_
  obtain ⟨hb, ⟨p, ca, cc, ia, ic⟩, hy, he, hP⟩ := hr
  simp only [comp_sumV] at hy he
  subst hy
  exact ⟨hb, ca, cc, ia, ic, he, hP⟩
theorem comp_agg (w : World) : Calls Try.prog 10 #[.agg #[.int .i64 6, .string ⟨#[99, 111, 117, 110, 116]⟩, .int .u8 0, .int .i64 0, .string ⟨#[]⟩, .int .i64 0, .int .u8 0, .slice none 0 0]] w fun e w' => Below w.heap.size w w' ∧ ∃ ca cc ia ic, e = .returned (.tuple #[.agg #[.slice ca 0 cc, .slice ia 0 ic], .int .i64 3]) := by
  refine (compile_any 1 ⟨aggX, none, 0⟩ w (agg_at w) (by show aggX.count ≤ 1000000; decide +kernel)).mono fun e w' hr => ?_
  obtain ⟨hb, ⟨p, ca, cc, ia, ic⟩, hy, he, hP⟩ := hr
  simp only [comp_aggV] at hy he
  subst hy
  exact ⟨hb, ca, cc, ia, ic, he⟩
theorem fairP26 : PgFair P26 := fun v hv => by
  rw [List.mem_singleton.1 hv]
  exact ⟨by decide, by decide, by decide⟩
theorem dec_sum {w : World} {ca ia : Option Addr} {cc ic : Nat} (hP : PgAt w ⟨P26, ca, cc, ia, ic⟩) : Calls Try.prog 18 #[.agg #[.slice ca 1 cc, .slice ia 3 ic]] w fun e w' => Below w.heap.size w w' ∧ ∃ a cap, e = .returned (.tuple #[.agg #[.int .i64 4, .string ⟨#[43]⟩, .int .u8 0, .int .i64 0, .string ⟨#[]⟩, .int .i64 0, .int .u8 0, .slice a 2 cap], .int .i64 0]) := by
  refine (decompile_any ⟨P26, ca, cc, ia, ic⟩ w hP fairP26).mono fun e w' hr => ?_
  obtain ⟨hb, ⟨h0, -⟩ | ⟨-, ⟨t, a, cap⟩, hd, he, -⟩⟩ := hr
  · rw [high26] at h0; cases h0
  · rw [dcm26] at hd
    injection hd with hd
    simp only at hd
    subst hd
    exact ⟨hb, a, cap, he⟩

set_option maxHeartbeats 16000000 in
theorem alive26_any (w : World) : Calls Try.prog 8 #[] w fun e w' => e = .returned (.bool true) ∧ Below w.heap.size w w' := by
  obtain ⟨w1, hw1⟩ : ∃ w1, (w.alloc (.cells zeroNdc 26)).setRow w.heap.size oneCs26 = w1 := ⟨_, rfl⟩
  have hB := Blk.new w 26 zeroNdc
  have HS1 : Hid ((storeVar 26 ⟨w.heap.size, 0, none⟩ (.agg oneCs26)).run Try.prog (w.alloc (.cells zeroNdc 26)) = .ok () w1) := by
    rw [← hw1]; exact run_storeVar_row _ _ _ 26 _ _ hB (by rw [info_ndS]; rfl) rfl (by simp [Value.oneCell'])
  have HV1 : Hid (Blk w1 w.heap.size 26 oneCs26) := by rw [← hw1]; exact Blk.setRow (new := oneCs26) hB
  have HB1 : Hid (Below w.heap.size w w1) := by
    rw [← hw1]
    have hc : Chg [w.heap.size] (w.alloc (.cells zeroNdc 26)) ((w.alloc (.cells zeroNdc 26)).setRow w.heap.size oneCs26) := (Chg.refl _ _).setRow (.inl (by simp)) _
    exact ((Below.refl _ w).alloc (Nat.le_refl _) _).trans (hc.below (by simp) (by simp))
  have HZ1 : Hid (w1.heap.size = w.heap.size + 1) := by rw [← hw1]; simp [Hid]
  clear hB hw1
  -- the second variable
  obtain ⟨w2, hw2⟩ : ∃ w2, ((w1.alloc (.cells argCs26 26)).alloc (.cells zeroNdc 26)).setRow (w1.heap.size + 1) (sumCs26 w1.heap.size) = w2 := ⟨_, rfl⟩
  have hB2 : Blk ((w1.alloc (.cells argCs26 26)).alloc (.cells zeroNdc 26)) (w1.heap.size + 1) 26 zeroNdc := by
    have := Blk.new (w1.alloc (.cells argCs26 26)) 26 zeroNdc
    rw [show (w1.alloc (.cells argCs26 26)).heap.size = w1.heap.size + 1 by simp] at this
    exact this
  have hA2 : Blk ((w1.alloc (.cells argCs26 26)).alloc (.cells zeroNdc 26)) w1.heap.size 26 argCs26 := (Blk.new w1 _ _).alloc _
  have HS2 : Hid ((storeVar 26 ⟨w1.heap.size + 1, 0, none⟩ (.agg (sumCs26 w1.heap.size))).run Try.prog ((w1.alloc (.cells argCs26 26)).alloc (.cells zeroNdc 26)) = .ok () w2) := by
    rw [← hw2]; exact run_storeVar_row _ _ _ 26 _ _ hB2 (by rw [info_ndS]; rfl) rfl (by simp [Value.oneCell'])
  have hc2 : Chg [w1.heap.size + 1] ((w1.alloc (.cells argCs26 26)).alloc (.cells zeroNdc 26)) (((w1.alloc (.cells argCs26 26)).alloc (.cells zeroNdc 26)).setRow (w1.heap.size + 1) (sumCs26 w1.heap.size)) := (Chg.refl _ _).setRow (.inl (by simp)) _
  have HV2 : Hid (Blk w2 (w1.heap.size + 1) 26 (sumCs26 w1.heap.size)) := by rw [← hw2]; exact Blk.setRow (new := sumCs26 w1.heap.size) hB2
  have HA2 : Hid (Blk w2 w1.heap.size 26 argCs26) := by rw [← hw2]; exact hA2.chg hc2 (by simp)
  have HB2 : Hid (Below w.heap.size w w2) := by
    have hb : Below w1.heap.size w1 ((w1.alloc (.cells argCs26 26)).alloc (.cells zeroNdc 26)) := ((Below.refl _ w1).alloc (Nat.le_refl _) _).alloc (by simp) _
    rw [← hw2]
    exact HB1.out.trans ((hb.trans (hc2.below (by simp; omega) (by simp))).mono HB1.out.size)
  clear hB2 hA2 hc2 hw2
  obtain ⟨x0, x1, x2, x3, x4, x5, x6, x7⟩ : Slot8 w1 w.heap.size (.int .i64 1) (.string ⟨#[]⟩) (.int .u8 1) (.int .i64 1) (.string ⟨#[]⟩) (.int .i64 0) (.int .u8 1) (.slice none 0 0) := ⟨(Blk.cell HV1.out 0).trans rfl, (Blk.cell HV1.out 1).trans rfl, (Blk.cell HV1.out 2).trans rfl, (Blk.cell HV1.out 3).trans rfl, (Blk.cell HV1.out 4).trans rfl, (Blk.cell HV1.out 5).trans rfl, (Blk.cell HV1.out 6).trans rfl, (Blk.cell HV1.out 7).trans rfl⟩
  obtain ⟨y0, y1, y2, y3, y4, y5, y6, y7⟩ : Slot8 w2 (w1.heap.size + 1) (.int .i64 4) (.string ⟨#[43]⟩) (.int .u8 0) (.int .i64 0) (.string ⟨#[]⟩) (.int .i64 0) (.int .u8 1) (.slice (some ⟨w1.heap.size, 0, none⟩) 2 2) := ⟨(Blk.cell HV2.out 0).trans rfl, (Blk.cell HV2.out 1).trans rfl, (Blk.cell HV2.out 2).trans rfl, (Blk.cell HV2.out 3).trans rfl, (Blk.cell HV2.out 4).trans rfl, (Blk.cell HV2.out 5).trans rfl, (Blk.cell HV2.out 6).trans rfl, (Blk.cell HV2.out 7).trans rfl⟩
  have HC := Lib.hid (comp_sum HA2.out)
  go_enter Try.func8, Try.ntmps8
  go_wp2_with (first | (guard_target =~ wpList _ _ _ (Oper.mk _ (Op.store 26 _ _) _ _ _ _ :: _) _ _; refine wpList_skp rfl (exec_store rfl rfl rfl HS1.out) ?_) | (guard_target =~ wpList _ _ _ (Oper.mk _ (Op.store 26 _ _) _ _ _ _ :: _) _ _; refine wpList_skp rfl (exec_store rfl rfl rfl HS2.out) ?_))
  refine HC.out.mono ?_
  rintro e w3 ⟨hb3, ca, cc, ia, ic, rfl, hP3⟩
  have HB3 : Hid (Below w.heap.size w w3) := HB2.out.trans (hb3.mono HB2.out.size)
  have HP3 := Lib.hid hP3
  clear hb3 hP3 x0 x1 x2 x3 x4 x5 x6 x7 y0 y1 y2 y3 y4 y5 y6 y7 HC
  have HG := Lib.hid (fun W => comp_agg W)
  obtain ⟨w4, hw4⟩ : ∃ w4, w3.alloc (.cells #[.slice ca 1 cc, .slice ia 3 ic] 36) = w4 := ⟨_, rfl⟩
  have hb4 : Below w3.heap.size w3 w4 := by rw [← hw4]; exact (Below.refl _ w3).alloc (Nat.le_refl _) _
  have HV4 : Hid (Blk w4 w3.heap.size 36 #[.slice ca 1 cc, .slice ia 3 ic]) := by rw [← hw4]; exact Blk.new w3 _ _
  have HB4 : Hid (Below w.heap.size w w4) := HB3.out.trans (hb4.mono HB3.out.size)
  have HP4 := Lib.hid (HP3.out.later hb4)
  clear hb4
  go_wp2_with fail
  refine (HG.out _).mono ?_
  rintro e w5 ⟨hb5, ca5, cc5, ia5, ic5, rfl⟩
  have hb6 : Below w5.heap.size w5 (w5.alloc (.cells #[.slice ca5 0 cc5, .slice ia5 0 ic5] 36)) := (Below.refl _ w5).alloc (Nat.le_refl _) _
  obtain ⟨w6, hw6⟩ : ∃ w6, w5.alloc (.cells #[.slice ca5 0 cc5, .slice ia5 0 ic5] 36) = w6 := ⟨_, rfl⟩
  rw [hw6] at hb6
  have hb46 : Below w4.heap.size w4 w6 := hb5.trans (hb6.mono hb5.size)
  have HV6 : Hid (Blk w6 w3.heap.size 36 #[.slice ca 1 cc, .slice ia 3 ic]) := (hb46.block _ HV4.out.lt).trans HV4.out
  have HV5 : Hid (Blk w5 w3.heap.size 36 #[.slice ca 1 cc, .slice ia 3 ic]) := (hb5.block _ HV4.out.lt).trans HV4.out
  have HB6 : Hid (Below w.heap.size w w6) := HB4.out.trans (hb46.mono HB4.out.size)
  have HP6 := Lib.hid (HP4.out.later hb46)
  have HD := Lib.hid (dec_sum HP6.out)
  clear hb5 hb6 hb46 hw4
  have c0 := (HV6.out.cell 0).trans rfl
  have c1 := (HV6.out.cell 1).trans rfl
  go_wp2_with fail
  refine HD.out.mono ?_
  rintro e w7 ⟨hb7, a7, cap7, rfl⟩
  have HV7 : Hid (Blk w7 w3.heap.size 36 #[.slice ca 1 cc, .slice ia 3 ic]) := (hb7.block _ HV6.out.lt).trans HV6.out
  have HB7 : Hid (Below w.heap.size w w7) := HB6.out.trans (hb7.mono HB6.out.size)
  obtain ⟨w8, hw8⟩ : ∃ w8, w7.alloc (.cells #[.int .i64 4, .string ⟨#[43]⟩, .int .u8 0, .int .i64 0, .string ⟨#[]⟩, .int .i64 0, .int .u8 0, .slice a7 2 cap7] 26) = w8 := ⟨_, rfl⟩
  have hb8 : Below w7.heap.size w7 w8 := by rw [← hw8]; exact (Below.refl _ w7).alloc (Nat.le_refl _) _
  have HB8 : Hid (Below w.heap.size w w8) := HB7.out.trans (hb8.mono HB7.out.size)
  have HV8 : Hid (Blk w8 w3.heap.size 36 #[.slice ca 1 cc, .slice ia 3 ic]) := (hb8.block _ HV7.out.lt).trans HV7.out
  have HN8 : Hid (Blk w8 w7.heap.size 26 #[.int .i64 4, .string ⟨#[43]⟩, .int .u8 0, .int .i64 0, .string ⟨#[]⟩, .int .i64 0, .int .u8 0, .slice a7 2 cap7]) := by rw [← hw8]; exact Blk.new w7 _ _
  clear hb7 hb8 HD HG c0 c1 hw6
  have c0 := (HV8.out.cell 0).trans rfl
  have c1 := (HV8.out.cell 1).trans rfl
  have n1 := (HN8.out.cell 1).trans rfl
  have n7 := (HN8.out.cell 7).trans rfl
  trace_state
  go_wp2
  go_ret
  exact ⟨rfl, HB8.out⟩
end Go.Proofs.Ytapbhhehnbfdfaa

/- Compile's programs have no constant twice; compV's cases. -/
set_option linter.unusedSimpArgs false
set_option linter.unusedVariables false
set_option maxRecDepth 100000
namespace Go.Proofs.Ytapbhhehnbfdfaa
open Go.RowKit

theorem addC_nodup (p : Pg) (x : Vl) (h : p.cs.Nodup) : (addC p x).cs.Nodup := by
  unfold addC
  cases hq : placeV p.cs x with
  | some k => exact h
  | none =>
    show (p.cs ++ [x]).Nodup
    refine List.nodup_append.2 ⟨h, by simp, fun a ha b hb => ?_⟩
    rw [List.mem_singleton.1 hb]
    intro e
    subst e
    exact placeV_none hq ha
theorem insV_nodup (l : NLb) (n : Nat) (p : Pg) (h : p.cs.Nodup) : (insV l n p).1.cs.Nodup := by
  unfold insV
  split
  · exact addC_nodup p l.v h
  · split
    · exact h
    · exact h
theorem foldA_nodup {l : List Nx} (hl : ∀ y ∈ l, ∀ p q, addV y p = some q → p.cs.Nodup → q.cs.Nodup) (p q : Pg) (h : foldA l p = some q) (hp : p.cs.Nodup) : q.cs.Nodup := by
  induction l generalizing p with
  | nil => injection h with h; subst h; exact hp
  | cons y r ih =>
    unfold foldA at h
    rw [List.foldl_cons] at h
    cases hy : addV y p with
    | none =>
      have := foldA_none [y] r p (by unfold foldA; simp [hy])
      unfold foldA at this
      rw [List.singleton_append, List.foldl_cons] at this
      rw [this] at h; cases h
    | some p1 =>
      have h2 : foldA r p1 = some q := by
        unfold foldA
        rw [← hy]; exact h
      exact ih (fun z hz => hl z (List.mem_cons_of_mem _ hz)) p1 h2 (hl y List.mem_cons_self p p1 hy hp)
theorem addV_nodup (x : Nx) : ∀ p q, addV x p = some q → p.cs.Nodup → q.cs.Nodup := by
  induction x using Rose.ind with
  | h l args ih =>
    intro p q h hp
    rw [addV_eq] at h
    have e1 : (Rose.mk l args).lab = l := rfl
    have e2 : (Rose.mk l args).args = args := rfl
    rw [e1, e2] at h
    by_cases hb : (insV l args.length p).2.2 = true
    · rw [if_pos hb] at h
      cases hf : foldA args (insV l args.length p).1 with
      | none => rw [hf] at h; cases h
      | some r =>
        rw [hf] at h
        simp only [Option.map_some, Option.some.injEq] at h
        subst h
        exact foldA_nodup ih _ r hf (insV_nodup l args.length p hp)
    · rw [if_neg hb] at h; cases h
/-- What comes of Compile. -/
theorem compV_cases (x : Nx) : (∃ q, compV x = (q, 0) ∧ (highV q).2 = true ∧ q.cs.Nodup ∧ q.code.length = x.count ∧ q.cs.length ≤ 200) ∨ compV x = (⟨[], []⟩, 2) ∨ compV x = (⟨[], []⟩, 3) := by
  unfold compV
  cases ha : addV x ⟨[], []⟩ with
  | none => exact .inr (.inr rfl)
  | some q =>
    simp only
    by_cases hh : (highV q).2 = true
    · rw [if_pos hh]
      have h1 := (addV_len x _ _ ha).2
      exact .inl ⟨q, rfl, hh, addV_nodup x _ _ ha List.nodup_nil, by simpa using h1, (highV_run hh).2.1⟩
    · rw [if_neg hh]; exact .inr (.inl rfl)
end Go.Proofs.Ytapbhhehnbfdfaa

/- The law CompileSizes: its walk. -/
set_option linter.unusedSimpArgs false
set_option linter.unusedVariables false
set_option maxRecDepth 100000
namespace Go.Proofs.Ytapbhhehnbfdfaa
open Go.RowKit

theorem vl_eqS {u v : Vl} (h : (((u.k : Int) == (v.k : Int)) = true) ∧ (u.n == v.n) = true ∧ (u.s.toList == v.s.toList) = true) : u = v := by
  obtain ⟨k1, n1, s1⟩ := u
  obtain ⟨k2, n2, s2⟩ := v
  obtain ⟨h1, h2, h3⟩ := h
  simp only [beq_iff_eq] at h1 h2 h3
  rw [ByteArray.toList_eq, ByteArray.toList_eq] at h3
  have e3 : s1 = s2 := ByteArray.ext (Array.toList_inj.1 h3)
  rw [show k1 = k2 by omega, h2, e3]
theorem drewN_coS {w wr : World} (h : Below w.heap.size w wr) (n : Nat) : Below w.heap.size w (wr.drewN n) := ⟨h.os, h.tape, h.output, h.size, h.block⟩

set_option maxHeartbeats 16000000 in
theorem compileSizes_walk (x : NM) (n : Nat) (w : World) (h : NdAt w.heap.size w n x) :
    Calls Try.prog 6 #[x.nv] w fun e w' => e = .returned (.bool true) ∧ Below w.heap.size w w' := by
  rw [NM.nv_eq]
  have HX := Lib.hid (Slot8.new w 26 (.int .i64 x.t.lab.kd) (.string x.t.lab.op) (.int .u8 x.t.lab.v.k) (.int .i64 x.t.lab.v.n) (.string x.t.lab.v.s) (.int .i64 x.t.lab.sl) (.int .u8 (x.t.lab.ty : Int)) (.slice x.a x.t.args.length x.cap))
  obtain ⟨w0, hw0⟩ : ∃ w0, w.alloc (.cells #[.int .i64 x.t.lab.kd, .string x.t.lab.op, .int .u8 x.t.lab.v.k, .int .i64 x.t.lab.v.n, .string x.t.lab.v.s, .int .i64 x.t.lab.sl, .int .u8 (x.t.lab.ty : Int), .slice x.a x.t.args.length x.cap] 26) = w0 := ⟨_, rfl⟩
  have HB0 : Hid (Below w.heap.size w w0) := by rw [← hw0]; exact (Below.refl _ w).alloc (Nat.le_refl _) _
  have hs0 : w0.heap.size = w.heap.size + 1 := by rw [← hw0]; simp
  rw [hw0] at HX
  have HZ := Lib.hid hs0
  have HN := Lib.hid h
  have HG := Lib.hid (great26_any n x w0 (h.later HB0.out))
  have HAl := Lib.hid (fun W => alive26_any W)
  rw [NM.nv_eq] at HG
  obtain ⟨g, hg⟩ : ∃ g, great26 x.t = g := ⟨_, rfl⟩
  have HGe := Lib.hid hg
  rw [hg] at HG
  obtain ⟨x0, x1, x2, x3, x4, x5, x6, x7⟩ := HX.out
  clear hg hs0 h
  go_enter Try.func6, Try.ntmps6
  go_wp2_with fail
  refine HG.out.mono ?_
  rintro e w1 ⟨rfl, hb1⟩
  have HX1 := Lib.hid (HX.out.later (by have := HZ.out; omega) hb1)
  have HB1 := Lib.hid (HB0.out.trans (hb1.mono HB0.out.size))
  have HZ1 : Hid (w.heap.size < w1.heap.size) := by have := HZ.out; have := hb1.size; show _ < _; omega
  clear hb1 HG x0 x1 x2 x3 x4 x5 x6 x7
  cases g with
  | true =>
    go_wp2_with fail
    refine (HAl.out _).mono ?_
    rintro e w2 ⟨rfl, hb2⟩
    have HB2 := Lib.hid (HB1.out.trans (hb2.mono HB1.out.size))
    clear hb2
    go_wp2
    go_ret
    exact ⟨rfl, HB2.out⟩
  | false =>
    have hcnt := great26_count HGe.out
    have HC := Lib.hid (compile_any n x w1 (HN.out.later HB1.out) (by omega))
    rw [NM.nv_eq] at HC
    obtain ⟨x0, x1, x2, x3, x4, x5, x6, x7⟩ := HX1.out
    rcases compV_cases x.t with ⟨q, hq, hh, hnd, hlen, hcl⟩ | hq | hq
    · have HCq : Hid (compV x.t = (q, 0)) := hq
      have HHh := Lib.hid hh
      have HNd := Lib.hid hnd
      have HLn := Lib.hid hlen
      clear hq hh hnd hlen
      go_wp2_with fail
      refine HC.out.mono ?_
      rintro e w2 ⟨hb2, ⟨p, ca, cc, ia, ic⟩, hy, rfl, hP⟩
      rw [HCq.out] at hy ⊢
      simp only at hy hP
      subst hy
      have HP := Lib.hid hP
      have hcc := hP.cl
      have hcm := hP.cc
      have hil := hP.il
      have him := hP.ic
      simp only at hcc hcm hil him
      obtain ⟨m, hm⟩ : ∃ m, p.cs.length = m := ⟨_, rfl⟩
      obtain ⟨l, hl⟩ : ∃ l, p.code.length = l := ⟨_, rfl⟩
      have HM := Lib.hid hm
      have HL := Lib.hid hl
      have HX2 := Lib.hid (HX1.out.later HZ1.out hb2)
      have HB2 : Hid (Below w.heap.size w w2) := HB1.out.trans (hb2.mono HB1.out.size)
      simp only [hm, hl] at hcc hil hcl ⊢
      obtain ⟨w3, hw3⟩ : ∃ w3, w2.alloc (.cells #[.slice ca m cc, .slice ia l ic] 36) = w3 := ⟨_, rfl⟩
      have hb3 : Below w2.heap.size w2 w3 := by rw [← hw3]; exact (Below.refl _ w2).alloc (Nat.le_refl _) _
      have HV3 : Hid (Blk w3 w2.heap.size 36 #[.slice ca m cc, .slice ia l ic]) := by rw [← hw3]; exact Blk.new w2 _ _
      have HS3 : Hid (w.heap.size < w3.heap.size) := Nat.lt_of_lt_of_le (Nat.lt_of_lt_of_le HZ1.out hb2.size) hb3.size
      have HX3 := Lib.hid (HX2.out.later (Nat.lt_of_lt_of_le HZ1.out hb2.size) hb3)
      have HB3 : Hid (Below w.heap.size w w3) := HB2.out.trans (hb3.mono HB2.out.size)
      have HP3 := Lib.hid (HP.out.later hb3)
      clear hb2 hP hm hl hb3 HC x0 x1 x2 x3 x4 x5 x6 x7 hw0
      go_wp2
      go_loopw [5] (fun i wr => ∃ k : Nat, k ≤ m ∧ i = .int .i64 (k : Int) ∧ Hid (Below w3.heap.size w3 wr)) (fun i _ => m - (intOf i).toNat)
      case atStart => exact ⟨0, by omega, rfl, Below.refl _ _⟩
      case round =>
        obtain ⟨k, hk, rfl, HB⟩ := hrel
        have hV := (HB.out.block _ HV3.out.lt).trans HV3.out
        have c0 := ((Blk.cell hV 0).trans rfl : wr.cell? ⟨w2.heap.size, 0, none⟩ = some (.slice ca m cc))
        have c1 := ((Blk.cell hV 1).trans rfl : wr.cell? ⟨w2.heap.size, 1, none⟩ = some (.slice ia l ic))
        clear hV
        by_cases hkm : k < m
        · go_wp2
          clear c0 c1
          go_loopw [6] (fun j wr => ∃ i : Nat, i ≤ k ∧ j = .int .i64 (i : Int) ∧ Hid (Below w3.heap.size w3 wr)) (fun j _ => k - (intOf j).toNat)
          case atStart => exact ⟨0, by omega, rfl, HB.out⟩
          case round =>
            obtain ⟨i, hi, rfl, HBi⟩ := hrel
            by_cases hik : i < k
            · have hV := (HBi.out.block _ HV3.out.lt).trans HV3.out
              have c0 := ((Blk.cell hV 0).trans rfl : wr.cell? ⟨w2.heap.size, 0, none⟩ = some (.slice ca m cc))
              clear hV
              rcases (HP3.out.c.below HBi.out).mono HBi.out.size with h0 | ⟨b, o, hca, hbl, hcu⟩
              · have h1 := cellsOf_len valC 3 valC_len p.cs
                have h2 : (cellsVl p.cs).length = 0 := by rw [h0]; rfl
                unfold cellsVl at h2
                rw [h1, HM.out] at h2; omega
              simp only at hca
              subst hca
              have hki : k < p.cs.length := by rw [HM.out]; exact hkm
              have hii : i < p.cs.length := by omega
              have hne : p.cs[k] ≠ p.cs[i] := fun e => List.pairwise_iff_getElem.1 HNd.out i k hii hki hik e.symm
              have gk := fun (j : Nat) (v : Value) (hv : (valC p.cs[k])[j]? = some v) => hcu _ _ (cellsOf_get valC 3 valC_len p.cs k j p.cs[k] v (List.getElem?_eq_getElem hki) hv)
              have gi := fun (j : Nat) (v : Value) (hv : (valC p.cs[i])[j]? = some v) => hcu _ _ (cellsOf_get valC 3 valC_len p.cs i j p.cs[i] v (List.getElem?_eq_getElem hii) hv)
              have a0 : wr.cell? ⟨b, o + k * 3, none⟩ = some (.int .u8 (p.cs[k].k : Int)) := by simpa using gk 0 _ rfl
              have a1 : wr.cell? ⟨b, o + k * 3 + 1, none⟩ = some (.int .i64 p.cs[k].n) := by simpa [Nat.add_assoc] using gk 1 _ rfl
              have a2 : wr.cell? ⟨b, o + k * 3 + 2, none⟩ = some (.string p.cs[k].s) := by simpa [Nat.add_assoc] using gk 2 _ rfl
              have b0 : wr.cell? ⟨b, o + i * 3, none⟩ = some (.int .u8 (p.cs[i].k : Int)) := by simpa using gi 0 _ rfl
              have b1 : wr.cell? ⟨b, o + i * 3 + 1, none⟩ = some (.int .i64 p.cs[i].n) := by simpa [Nat.add_assoc] using gi 1 _ rfl
              have b2 : wr.cell? ⟨b, o + i * 3 + 2, none⟩ = some (.string p.cs[i].s) := by simpa [Nat.add_assoc] using gi 2 _ rfl
              generalize p.cs[k] = u at *
              generalize p.cs[i] = v at *
              have i1 : (0 : Int) ≤ (k : Int) := by omega
              have i2 : (k : Int) < (m : Int) := by omega
              have i3 : (0 : Int) ≤ (i : Int) := by omega
              have i4 : (i : Int) < (m : Int) := by omega
              have HNe := Lib.hid hne
              clear hki hii hne gk gi hcu hbl
              go_wp2_with fail
              go_quiet (fail)
              have hE : ((u.k : Int) == (v.k : Int) && (u.n == v.n && u.s.toList == v.s.toList)) = false := by
                rw [Bool.eq_false_iff]
                intro h9
                simp only [Bool.and_eq_true] at h9
                exact HNe.out (vl_eqS h9)
              rw [hE]
              clear hE
              go_wp2
              go_roundw
              case rel => exact ⟨i + 1, by omega, by go_num, drewN_coS HBi.out _⟩
              case measure => (simp [intOf] <;> try omega)
            · go_wp2
              go_roundw
              case rel => exact ⟨k + 1, by omega, by go_num, HBi.out⟩
              case measure => (simp [intOf] <;> try omega)
        · clear c0 c1
          have HF : Hid (∀ W, Later wr.drew W → Below w3.heap.size w3 W) := fun W hW => HB.out.trans ((Later.undrew hW).mono HB.out.size)
          have HFb : Hid (∀ W, Later wr.drew W → Blk W w2.heap.size 36 #[.slice ca m cc, .slice ia l ic]) := fun W hW => ((HF.out W hW).block _ HV3.out.lt).trans HV3.out
          have HFx : Hid (∀ W, Later wr.drew W → Slot8 W w.heap.size (.int .i64 x.t.lab.kd) (.string x.t.lab.op) (.int .u8 x.t.lab.v.k) (.int .i64 x.t.lab.v.n) (.string x.t.lab.v.s) (.int .i64 x.t.lab.sl) (.int .u8 (x.t.lab.ty : Int)) (.slice x.a x.t.args.length x.cap)) := fun W hW => HX3.out.later HS3.out (HF.out W hW)
          have f0 : ∀ W, Later wr.drew W → W.cell? ⟨w2.heap.size, 0, none⟩ = some (.slice ca m cc) := fun W hW => (Blk.cell (HFb.out W hW) 0).trans rfl
          have f1 : ∀ W, Later wr.drew W → W.cell? ⟨w2.heap.size, 1, none⟩ = some (.slice ia l ic) := fun W hW => (Blk.cell (HFb.out W hW) 1).trans rfl
          have e0 := fun W hW => (HFx.out W hW).c0
          have e1 := fun W hW => (HFx.out W hW).c1
          have e2 := fun W hW => (HFx.out W hW).c2
          have e3 := fun W hW => (HFx.out W hW).c3
          have e4 := fun W hW => (HFx.out W hW).c4
          have e5 := fun W hW => (HFx.out W hW).c5
          have e6 := fun W hW => (HFx.out W hW).c6
          have e7 := fun W hW => (HFx.out W hW).c7
          have HR : Hid (∀ W, Later wr.drew W → Calls Try.prog 23 #[.agg #[.slice ca m cc, .slice ia l ic]] W fun e w' => e = .returned (.bool true) ∧ Below W.heap.size W w') := fun W hW => by
            have := codeRight_any ⟨p, ca, cc, ia, ic⟩ W (HP3.out.later (HF.out W hW))
            simp only [HM.out, HL.out, HHh.out] at this
            exact this
          have HCt : Hid (∀ W, Later wr.drew W → Calls Try.prog 24 #[.agg #[.int .i64 x.t.lab.kd, .string x.t.lab.op, .int .u8 x.t.lab.v.k, .int .i64 x.t.lab.v.n, .string x.t.lab.v.s, .int .i64 x.t.lab.sl, .int .u8 (x.t.lab.ty : Int), .slice x.a x.t.args.length x.cap], .int .i64 0] W fun e w' => e = .returned (.int .i64 (l : Int)) ∧ Below W.heap.size W w') := fun W hW => by
            have h1 := nCnt_any n x W 0 (HN.out.later (HB3.out.trans ((HF.out W hW).mono HB3.out.size))) (by omega)
            rw [NM.nv_eq, show min (0 + x.t.count) 3000 = l by rw [← HL.out, HLn.out]; omega] at h1
            exact h1
          have c0 := ((Blk.cell ((HB.out.block _ HV3.out.lt).trans HV3.out) 0).trans rfl : wr.cell? ⟨w2.heap.size, 0, none⟩ = some (.slice ca m cc))
          go_wp2_with fail
          clear c0
          refine wp_region_ord [(0, false), (1, true), (2, true), (3, false), (4, true), (5, true), (6, true), (7, true), (8, true), (9, true), (10, false), (11, true), (12, true), (13, true)] (by kernel_rfl) (by kernel_rfl) (by kernel_rfl) (by kernel_rfl) ?_
          refine wpO_C rfl (by rfl) ?_
          go_simp
          refine (HAl.out _).mono ?_
          rintro e w4 ⟨rfl, hb4⟩
          refine ⟨hb4, ?_⟩
          try simp only [Act.put, List.setIfInBounds_toArray, List.set_cons_zero, List.set_cons_succ]
          replace f0 := fun W (hW : Later w4 W) => f0 W (Below.trans hb4 (Below.mono hW (Below.size hb4)))
          replace f1 := fun W (hW : Later w4 W) => f1 W (Below.trans hb4 (Below.mono hW (Below.size hb4)))
          replace e0 := fun W (hW : Later w4 W) => e0 W (Below.trans hb4 (Below.mono hW (Below.size hb4)))
          replace e1 := fun W (hW : Later w4 W) => e1 W (Below.trans hb4 (Below.mono hW (Below.size hb4)))
          replace e2 := fun W (hW : Later w4 W) => e2 W (Below.trans hb4 (Below.mono hW (Below.size hb4)))
          replace e3 := fun W (hW : Later w4 W) => e3 W (Below.trans hb4 (Below.mono hW (Below.size hb4)))
          replace e4 := fun W (hW : Later w4 W) => e4 W (Below.trans hb4 (Below.mono hW (Below.size hb4)))
          replace e5 := fun W (hW : Later w4 W) => e5 W (Below.trans hb4 (Below.mono hW (Below.size hb4)))
          replace e6 := fun W (hW : Later w4 W) => e6 W (Below.trans hb4 (Below.mono hW (Below.size hb4)))
          replace e7 := fun W (hW : Later w4 W) => e7 W (Below.trans hb4 (Below.mono hW (Below.size hb4)))
          repeat (first | (refine wpO_F (v := ?_) rfl (by rfl) (fun w' hL => ?_) ?_; rotate_left; (solve | (go_simp; with_reducible rfl) | go_simp); try simp only [Act.put, List.setIfInBounds_toArray, List.set_cons_zero, List.set_cons_succ]) | (refine wpO_G rfl (by rfl) ?_; try simp only [Act.put, List.setIfInBounds_toArray, List.set_cons_zero, List.set_cons_succ]))
          refine wpO_C rfl (by rfl) ?_
          go_simp
          refine (HR.out _ hb4).mono ?_
          rintro e w5 ⟨rfl, hb5⟩
          refine ⟨hb5, ?_⟩
          try simp only [Act.put, List.setIfInBounds_toArray, List.set_cons_zero, List.set_cons_succ]
          have hb45 := Below.trans hb4 (Below.mono hb5 (Below.size hb4))
          replace f0 := fun W (hW : Later w5 W) => f0 W (Below.trans hb5 (Below.mono hW (Below.size hb5)))
          replace f1 := fun W (hW : Later w5 W) => f1 W (Below.trans hb5 (Below.mono hW (Below.size hb5)))
          replace e0 := fun W (hW : Later w5 W) => e0 W (Below.trans hb5 (Below.mono hW (Below.size hb5)))
          replace e1 := fun W (hW : Later w5 W) => e1 W (Below.trans hb5 (Below.mono hW (Below.size hb5)))
          replace e2 := fun W (hW : Later w5 W) => e2 W (Below.trans hb5 (Below.mono hW (Below.size hb5)))
          replace e3 := fun W (hW : Later w5 W) => e3 W (Below.trans hb5 (Below.mono hW (Below.size hb5)))
          replace e4 := fun W (hW : Later w5 W) => e4 W (Below.trans hb5 (Below.mono hW (Below.size hb5)))
          replace e5 := fun W (hW : Later w5 W) => e5 W (Below.trans hb5 (Below.mono hW (Below.size hb5)))
          replace e6 := fun W (hW : Later w5 W) => e6 W (Below.trans hb5 (Below.mono hW (Below.size hb5)))
          replace e7 := fun W (hW : Later w5 W) => e7 W (Below.trans hb5 (Below.mono hW (Below.size hb5)))
          repeat (first | (refine wpO_F (v := ?_) rfl (by rfl) (fun w' hL => ?_) ?_; rotate_left; (solve | (go_simp; with_reducible rfl) | go_simp); try simp only [Act.put, List.setIfInBounds_toArray, List.set_cons_zero, List.set_cons_succ]) | (refine wpO_G rfl (by rfl) ?_; try simp only [Act.put, List.setIfInBounds_toArray, List.set_cons_zero, List.set_cons_succ]))
          refine wpO_C rfl (by rfl) ?_
          go_simp
          refine (HCt.out _ hb45).mono ?_
          rintro e w6 ⟨rfl, hb6⟩
          refine ⟨hb6, ?_⟩
          try simp only [Act.put, List.setIfInBounds_toArray, List.set_cons_zero, List.set_cons_succ]
          repeat (first | (refine wpO_F (v := ?_) rfl (by rfl) (fun w' hL => ?_) ?_; rotate_left; (solve | (go_simp; with_reducible rfl) | go_simp); try simp only [Act.put, List.setIfInBounds_toArray, List.set_cons_zero, List.set_cons_succ]) | (refine wpO_G rfl (by rfl) ?_; try simp only [Act.put, List.setIfInBounds_toArray, List.set_cons_zero, List.set_cons_succ]))
          refine wpO_nil ?_
          have HB6 : Hid (Below w.heap.size w w6) := HB3.out.trans ((HF.out _ (Below.trans hb45 (Below.mono hb6 (Below.size hb45)))).mono HB3.out.size)
          clear f0 f1 e0 e1 e2 e3 e4 e5 e6 e7 hb4 hb5 hb6 hb45
          go_wp2
          go_ret
          exact ⟨rfl, HB6.out⟩
    all_goals
      have HCq := Lib.hid hq
      clear hq
      go_wp2_with fail
      refine HC.out.mono ?_
      rintro e w2 ⟨hb2, ⟨p, ca, cc, ia, ic⟩, hy, rfl, hP⟩
      rw [HCq.out] at hy ⊢
      simp only at hy hP
      subst hy
      have HB2 : Hid (Below w.heap.size w w2) := HB1.out.trans (hb2.mono HB1.out.size)
      obtain ⟨w3, hw3⟩ : ∃ w3, w2.alloc (.cells #[.slice ca 0 cc, .slice ia 0 ic] 36) = w3 := ⟨_, rfl⟩
      have hb3 : Below w2.heap.size w2 w3 := by rw [← hw3]; exact (Below.refl _ w2).alloc (Nat.le_refl _) _
      have HB3 : Hid (Below w.heap.size w w3) := HB2.out.trans (hb3.mono HB2.out.size)
      simp only [List.length_nil]
      clear hb2 hb3 hP HC x0 x1 x2 x3 x4 x5 x6 x7 hw0
      go_wp2_with fail
      refine (HAl.out _).mono ?_
      rintro e w4 ⟨rfl, hb4⟩
      have HB4 := Lib.hid (HB3.out.trans (hb4.mono HB3.out.size))
      clear hb4
      go_wp2
      go_ret
      exact ⟨rfl, HB4.out⟩
end Go.Proofs.Ytapbhhehnbfdfaa
