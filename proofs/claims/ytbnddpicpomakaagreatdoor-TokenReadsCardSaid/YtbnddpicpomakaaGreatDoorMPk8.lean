/- Several texts of one proof, one behind the other. -/
import Derived.Test.YtbnddpicpomakaaGreatDoorMPk7
import Derived.Laws.Cover4
set_option linter.unusedSimpArgs false
set_option linter.unusedVariables false

/- The walk of token.Read. -/
set_option linter.unusedSimpArgs false
set_option linter.unusedVariables false
set_option maxRecDepth 100000
namespace Go.Proofs.YtbnddpicpomakaaGreatDoor
open Go.RowKit

/-- Each token has a byte at least, and no more than there are. -/
theorem skipR_pos {ks : List Int} {l : List Nat} (h : ks.contains (classZ ((l.headD 128 : Nat) : Int)) = true) (h0 : ks.contains 0 = false) : 1 ≤ skipR ks l := by
  cases l with
  | nil =>
    have e : classZ ((128 : Nat) : Int) = 0 := class_high (by omega)
    simp only [List.headD_nil] at h
    rw [e, h0] at h; cases h
  | cons c r =>
    simp only [List.headD_cons] at h
    rw [skipR, if_pos h]; omega
theorem unq_err : (unquoteS (strN [])).2 ≠ 0 := by decide +kernel
theorem quot_pos {l : List Nat} (h : (quotR l).2.2 = 0) : 1 ≤ (quotR l).2.1 := by
  simp only [quotR] at h ⊢
  split at h
  · rename_i h2
    rw [if_pos h2]
    simp only
    by_cases hz : quotesR l = 0
    · rw [hz, List.take_zero] at h2
      exact absurd h2 unq_err
    · omega
  · simp at h
theorem sgn_mem {l x : List Nat} (h : signsR.find? (fun x => x.isPrefixOf l) = some x) : 1 ≤ x.length ∧ x.length ≤ l.length := by
  have h1 := List.find?_some h
  have h2 := List.mem_of_find?_eq_some h
  refine ⟨?_, (List.isPrefixOf_iff_prefix.1 (by simpa using h1)).length_le⟩
  have : ∀ y ∈ signsR, 1 ≤ y.length := by decide
  exact this x h2
theorem pre_len {p l : List Nat} (h : p.isPrefixOf l = true) : p.length ≤ l.length := (List.isPrefixOf_iff_prefix.1 h).length_le
theorem front_size {l : List Nat} (h : (frontR l).2.2 = 0) : 1 ≤ (frontR l).2.1 ∧ (frontR l).2.1 ≤ l.length := by
  unfold frontR at h ⊢
  split at h
  · rename_i hp
    rw [if_pos hp]
    rw [blobR_eq] at h ⊢
    have hl : 2 ≤ l.length := by
      rw [Bool.or_eq_true] at hp
      rcases hp with hp | hp <;> exact pre_len hp
    split at h
    · rename_i hq
      rw [if_pos hq]
      split at h
      · rename_i hu
        rw [if_pos hu]
        have := (quotR_tx (l.drop 1)).2
        rw [List.length_drop] at this
        simp only; omega
      · simp at h
    · rename_i hq
      exact absurd h hq
  · rename_i hp
    rw [if_neg hp]
    simp only at h ⊢
    split at h
    · rename_i hc
      rw [if_pos hc]
      have h1 := skipR_le [2, 3] l
      have h2 : 1 ≤ skipR [2, 3] l := skipR_pos (by rw [hc]; decide) (by decide)
      simp only [wordR] at h ⊢
      split at h
      · rename_i h3; rw [if_pos h3]; exact ⟨h2, h1⟩
      · simp at h
    · rename_i hc2
      rw [if_neg hc2]
      split at h
      · rename_i hc
        rw [if_pos hc]
        have h1 := skipR_le [3] l
        have h2 : 1 ≤ skipR [3] l := skipR_pos (by rw [hc]; decide) (by decide)
        simp only [numR] at h ⊢
        split at h
        · simp at h
        · rename_i h3
          rw [if_neg h3]
          split at h
          · rename_i h4; rw [if_pos h4]; exact ⟨h2, h1⟩
          · rename_i h4; exact absurd h h4
      · rename_i hc3
        rw [if_neg hc3]
        split at h
        · rename_i hc
          rw [if_pos hc]
          exact ⟨quot_pos h, (quotR_tx l).2⟩
        · rename_i hc4
          rw [if_neg hc4]
          unfold signR at h ⊢
          cases hf : signsR.find? (fun x => x.isPrefixOf l) with
          | none => rw [hf] at h; simp at h
          | some x => simp only; exact sgn_mem hf

/-- What Read hands back. -/
def RetRd19 (v : List Tk × Nat × Int) (w : World) (e : Ending) (w' : World) : Prop :=
  ∃ (a : Option Addr) (cap : Nat), e = .returned (.tuple #[.slice a v.1.length cap, .agg #[.int .i64 (v.2.1 : Int), .int .i64 v.2.2]]) ∧ v.1.length ≤ cap ∧ cap ≤ 9223372036854775807 ∧ Arr w'.heap.size w' a (cellsTk v.1) ∧ Below w.heap.size w w'
theorem info_ftS : (Tryz.prog.info? 26).map (·.size) = some 2 := by kernel_rfl
theorem info_tk : (Tryz.prog.info? 36).map (fun i => (i.zero, i.size, i.bytes)) = some (some (.agg #[.int .i64 0, .int .i64 0, .string ⟨#[]⟩, .int .i64 0]), 4, 40) := by kernel_rfl
theorem results_tmp_cell {P : Program} {fn : Func} {p t : Tmp} {ty : TypeId} (h : fn.results = #[.tmp t, .cell p ty]) (tmps : Array Value) (w : World) {ad : Addr} {v u : Value}
    (hp : tmps.getD p undef = .pointer (some ad)) (ht : tmps.getD t undef = u) (hl : (loadVar ty ad).run P w = .ok v w) : (results fn tmps).run P w = .ok (.tuple #[u, v]) w := by
  have hp' : tmps[p]?.getD undef = .pointer (some ad) := by simpa using hp
  have ht' : tmps[t]?.getD undef = u := by simpa using ht
  simp [results, h, hp', ht', asAddr, hl]
/-- The end: a fault is stored in the result's cell. -/
theorem ft_end {w W : World} (p q : Int) (hB : Blk W w.heap.size 26 #[.int .i64 0, .int .i64 0]) (hb : Below w.heap.size w W) :
    (storeVar 26 ⟨w.heap.size, 0, none⟩ (.agg #[.int .i64 p, .int .i64 q])).run Tryz.prog W = .ok () (W.setRow w.heap.size #[.int .i64 p, .int .i64 q]) ∧ (loadVar 26 ⟨w.heap.size, 0, none⟩).run Tryz.prog (W.setRow w.heap.size #[.int .i64 p, .int .i64 q]) = .ok (.agg #[.int .i64 p, .int .i64 q]) (W.setRow w.heap.size #[.int .i64 p, .int .i64 q]) ∧ Below w.heap.size w (W.setRow w.heap.size #[.int .i64 p, .int .i64 q]) ∧ Chg [w.heap.size] W (W.setRow w.heap.size #[.int .i64 p, .int .i64 q]) := by
  have hc : Chg [w.heap.size] W (W.setRow w.heap.size #[.int .i64 p, .int .i64 q]) := (Chg.refl _ _).setRow (.inl (by simp)) _
  exact ⟨run_storeVar_row _ _ _ 26 _ _ hB (by rw [info_ftS]; rfl) rfl (by simp [Value.oneCell']), run_loadVar_row _ _ _ 26 _ (0, 0) _ (Blk.setRow (new := #[.int .i64 p, .int .i64 q]) hB) Tryz.underlying26 rfl (by rw [info_ftS]; rfl), hb.trans (hc.below hb.size (by simp)), hc⟩
theorem readR_end {l : List Nat} {at_ n : Nat} (h : ¬ at_ < l.length) : readR l n at_ = ([], at_, 0) := by
  cases n with
  | zero => rfl
  | succ n => rw [readR, if_neg h]

set_option maxHeartbeats 8000000 in
theorem tkRead_any (s : ByteArray) (w : World) (hT : Pre6 w) (hs : s.size ≤ 140737488351232) : Calls Tryz.prog 7 #[.string s] w (RetRd19 (readV19 s) w) := by
  obtain ⟨w0, hw0⟩ : ∃ w0, w.alloc (.cells #[.int .i64 0, .int .i64 0] 26) = w0 := ⟨_, rfl⟩
  have hZ0 : Blk (w.alloc (.cells #[.int .i64 0, .int .i64 0] 26)) w.heap.size 26 #[.int .i64 0, .int .i64 0] := Blk.new w _ _
  rw [hw0] at hZ0
  have HZ0 := Lib.hid hZ0
  have HB0 : Hid (Below w.heap.size w w0) := by rw [← hw0]; exact (Below.refl _ w).alloc (Nat.le_refl _) _
  have hlt0 : w.heap.size < w0.heap.size := by rw [← hw0]; simp
  have HL0 : Hid (w.heap.size < w0.heap.size) := hlt0
  clear hZ0 hlt0
  by_cases hbig : 4096 < s.size
  · have q1 : decide ((4096 : Int) < (s.size : Int)) = true := by simp; omega
    have HV : Hid (readV19 s = ([], 0, 2)) := by simp only [readV19, if_pos hbig, Hid]
    clear hbig
    go_enter Tryz.func7, Tryz.ntmps7
    obtain ⟨s1, s2, s3, s4⟩ := ft_end (w := w) (W := w0) 0 2 HZ0.out HB0.out
    have S1 := Lib.hid s1
    have S2 := Lib.hid s2
    have S3 := Lib.hid s3
    clear s1 s2 s3 s4
    go_wp2_with (first | (guard_target =~ wpList _ _ _ (Oper.mk _ (Op.store 26 _ _) _ _ _ _ :: _) _ _; refine wpList_skp rfl (exec_store rfl rfl rfl S1.out) ?_))
    refine bodyPost_ret (results_tmp_cell Tryz.results7 _ _ rfl rfl S2.out) rfl ?_
    unfold RetRd19
    rw [HV.out]
    exact ⟨none, 0, rfl, Nat.le_refl _, by decide, .inl rfl, S3.out⟩
  have q1 : decide ((4096 : Int) < (s.size : Int)) = false := by simp; omega
  have HRt := Lib.hid (fun W (hb : Below w.heap.size w W) => Right_any s W (by omega) (hT.below hb).tabs)
  have hV0 : readV19 s = if (decS (bytesU s)).isSome = false then ([], 0, 3) else (if (readR (bytesU s) (s.size + 1) (skipR [1] (bytesU s))).2.2 = 0 then ((readR (bytesU s) (s.size + 1) (skipR [1] (bytesU s))).1 ++ [⟨0, (readR (bytesU s) (s.size + 1) (skipR [1] (bytesU s))).2.1, ⟨#[]⟩, 0⟩], 0, 0) else ([], (readR (bytesU s) (s.size + 1) (skipR [1] (bytesU s))).2.1, (readR (bytesU s) (s.size + 1) (skipR [1] (bytesU s))).2.2)) := by
    simp only [readV19, if_neg hbig]
  generalize (decS (bytesU s)).isSome = rt at *
  cases rt with
  | false =>
    rw [if_pos rfl] at hV0
    have HV := Lib.hid hV0
    clear hV0 hbig hT
    go_enter Tryz.func7, Tryz.ntmps7
    go_wp2_with fail
    refine (HRt.out w0 HB0.out).mono ?_
    rintro e w1 ⟨rfl, hb1⟩
    have HB1 := Lib.hid (HB0.out.trans (hb1.mono HB0.out.size))
    have HZ1 : Hid (Blk w1 w.heap.size 26 #[.int .i64 0, .int .i64 0]) := (hb1.block _ HL0.out).trans HZ0.out
    clear hb1
    obtain ⟨s1, s2, s3, s4⟩ := ft_end (w := w) (W := w1) 0 3 HZ1.out HB1.out
    have S1 := Lib.hid s1
    have S2 := Lib.hid s2
    have S3 := Lib.hid s3
    clear s1 s2 s3 s4
    go_wp2_with (first | (guard_target =~ wpList _ _ _ (Oper.mk _ (Op.store 26 _ _) _ _ _ _ :: _) _ _; refine wpList_skp rfl (exec_store rfl rfl rfl S1.out) ?_))
    refine bodyPost_ret (results_tmp_cell Tryz.results7 _ _ rfl rfl S2.out) rfl ?_
    unfold RetRd19
    rw [HV.out]
    exact ⟨none, 0, rfl, Nat.le_refl _, by decide, .inl rfl, S3.out⟩
  | true =>
    rw [if_neg (by decide)] at hV0
    have hs4 : s.size ≤ 4096 := by omega
    have HF := Lib.hid (fun (p : Nat) (hp : p < s.size) W (hb : Below w.heap.size w W) => tkFront_any (s.extract p s.size) W (hT.below hb) (by have := ext_size s p; omega) (by have := congrArg List.length (bytes_ext s p); rw [bytesU_len, List.length_drop, bytesU_len] at this; omega))
    have HRu0 : Hid (∀ W : World, Calls Tryz.prog 30 #[.string s, .slice (some ⟨W.heap.size, 0, none⟩) 1 1] (W.alloc (.cells #[.int .i64 1] 3)) fun e w' => e = .returned (.int .i64 (skipR [1] (bytesU s) : Int)) ∧ Below W.heap.size W w') := fun W => runNew s [1] (by omega) (by decide) (by decide) W
    have HRu : Hid (∀ (p : Nat) (W : World), Calls Tryz.prog 30 #[.string (s.extract p s.size), .slice (some ⟨W.heap.size, 0, none⟩) 1 1] (W.alloc (.cells #[.int .i64 1] 3)) fun e w' => e = .returned (.int .i64 (skipR [1] ((bytesU s).drop p) : Int)) ∧ Below W.heap.size W w') := fun p W => by
      have := runNew (s.extract p s.size) [1] (by have := ext_size s p; omega) (by decide) (by decide) W
      rw [bytes_ext] at this; exact this
    have hbl := bytesU_len s
    have hsk := skipR_le [1] (bytesU s)
    have HSk := Lib.hid (fun p => skipR_le [1] ((bytesU s).drop p))
    have HFs := Lib.hid (fun p => front_size (l := (bytesU s).drop p))
    have HFx : Hid (∀ (p : Nat), p < s.size → ∀ W, Below w.heap.size w W → Calls Tryz.prog 31 #[.string (s.extract p s.size)] W (RetF (frontR ((bytesU s).drop p)) W)) := fun p hp W hb => by
      have := HF.out p hp W hb
      rw [bytes_ext] at this; exact this
    have HRn : Hid (∀ n p, p < s.size → readR (bytesU s) (n + 1) p = if (frontR ((bytesU s).drop p)).2.2 = 0 then (⟨(frontR ((bytesU s).drop p)).1.kd, p, (frontR ((bytesU s).drop p)).1.tx, (frontR ((bytesU s).drop p)).1.n⟩ :: (readR (bytesU s) n (p + (frontR ((bytesU s).drop p)).2.1 + skipR [1] ((bytesU s).drop (p + (frontR ((bytesU s).drop p)).2.1)))).1, (readR (bytesU s) n (p + (frontR ((bytesU s).drop p)).2.1 + skipR [1] ((bytesU s).drop (p + (frontR ((bytesU s).drop p)).2.1)))).2) else ([], p, (frontR ((bytesU s).drop p)).2.2)) := fun n p hp => by
      rw [readR, if_pos (by rw [hbl]; exact hp)]
    have HRe : Hid (∀ n p, ¬ p < s.size → readR (bytesU s) n p = ([], p, 0)) := fun n p hp => readR_end (by rw [hbl]; exact hp)
    rw [hbl] at hsk
    obtain ⟨full, hfull⟩ : ∃ r, readR (bytesU s) (s.size + 1) (skipR [1] (bytesU s)) = r := ⟨_, rfl⟩
    rw [hfull] at hV0
    have HFu := Lib.hid hfull
    have HV := Lib.hid hV0
    have HSl : Hid (∀ p, ((bytesU s).drop p).length = s.size - p) := fun p => by rw [List.length_drop, hbl]
    obtain ⟨i0, hi, hz0, hz1, hz2⟩ := info_parts info_tk
    generalize bytesU s = l at *
    generalize skipR [1] l = a0 at *
    clear hT hbig hV0 hbl hfull HF
    go_enter Tryz.func7, Tryz.ntmps7
    go_wp2_with fail
    refine (HRt.out w0 HB0.out).mono ?_
    rintro e w1 ⟨rfl, hb1⟩
    have HB1 := Lib.hid (HB0.out.trans (hb1.mono HB0.out.size))
    have HZ1 : Hid (Blk w1 w.heap.size 26 #[.int .i64 0, .int .i64 0]) := (hb1.block _ HL0.out).trans HZ0.out
    have HL1 : Hid (w.heap.size < w1.heap.size) := Nat.lt_of_lt_of_le HL0.out hb1.size
    clear hb1
    go_wp2_with fail
    refine (HRu0.out w1).mono ?_
    rintro e w2 ⟨rfl, hb2⟩
    have HB2 := Lib.hid (HB1.out.trans (hb2.mono HB1.out.size))
    have HZ2 : Hid (Blk w2 w.heap.size 26 #[.int .i64 0, .int .i64 0]) := (hb2.block _ HL1.out).trans HZ1.out
    have HL2 : Hid (w.heap.size < w2.heap.size) := Nat.lt_of_lt_of_le HL1.out hb2.size
    clear hb2
    go_wp2
    go_loopw [4, 5] (fun v i wr => ∃ (n p : Nat) (acc : List Tk) (cv : Value), cv = v ∧ i = .int .i64 (p : Int) ∧ p ≤ s.size ∧ s.size < p + n ∧ acc.length ≤ p ∧ Hid (wr.ownsRow w2.heap.size 36 4 cv acc.length (cellsTk acc)) ∧ Hid (full = (acc ++ (readR l n p).1, (readR l n p).2)) ∧ Hid (Below w2.heap.size w2 wr)) (fun _ i _ => s.size - (intOf i).toNat)
    case atStart => exact ⟨s.size + 1, a0, [], _, rfl, rfl, by omega, by omega, Nat.zero_le _, World.ownsRow_nil _ _ _ _, by show _ = _; rw [HFu.out]; rfl, Below.refl _ _⟩
    case round =>
      obtain ⟨n, p, acc, cv, rfl, rfl, hp, hn, hac, HO, HI, HBr⟩ := hrel
      have HBw := Lib.hid (HB2.out.trans (HBr.out.mono HB2.out.size))
      have HZr : Hid (Blk wr w.heap.size 26 #[.int .i64 0, .int .i64 0]) := (HBr.out.block _ HL2.out).trans HZ2.out
      have HLr : Hid (w.heap.size < wr.heap.size) := Nat.lt_of_lt_of_le HL2.out HBr.out.size
      by_cases hlt : p < s.size
      · have qp : (p : Int) ≤ (s.size : Int) := by omega
        obtain ⟨n, rfl⟩ : ∃ m, n = m + 1 := ⟨n - 1, by omega⟩
        have hI2 := HI.out
        rw [HRn.out n p hlt] at hI2
        have HY := Lib.hid (HFx.out p hlt wr HBw.out)
        have hsz := HFs.out p
        rw [HSl.out] at hsz
        obtain ⟨⟨⟨kd, at_, tx, nn⟩, z, er⟩, hfr⟩ : ∃ r, frontR (l.drop p) = r := ⟨_, rfl⟩
        rw [hfr] at HY hI2 hsz
        simp only at hI2 hsz
        unfold RetF at HY
        simp only [Tk.cs] at HY
        have HI2 := Lib.hid hI2
        clear hI2 hfr HI
        go_wp2_with fail
        refine HY.out.mono ?_
        rintro e w3 ⟨rfl, hb3⟩
        have HB3 := Lib.hid (HBr.out.trans (hb3.mono HBr.out.size))
        have HZ3 : Hid (Blk w3 w.heap.size 26 #[.int .i64 0, .int .i64 0]) := (hb3.block _ HLr.out).trans HZr.out
        have HL3 : Hid (w.heap.size < w3.heap.size) := Nat.lt_of_lt_of_le HLr.out hb3.size
        have HO3 : Hid (w3.ownsRow w2.heap.size 36 4 cv acc.length (cellsTk acc)) := own_below HO.out (Nat.le_refl _) hb3
        clear hb3 HY HO
        have hbA : Below w3.heap.size w3 (w3.alloc (.cells #[.int .i64 kd, .int .i64 at_, .string tx, .int .i64 nn] 36)) := (Below.refl _ w3).alloc (Nat.le_refl _) _
        have hbx : Blk (w3.alloc (.cells #[.int .i64 kd, .int .i64 at_, .string tx, .int .i64 nn] 36)) w3.heap.size 36 #[.int .i64 kd, .int .i64 at_, .string tx, .int .i64 nn] := Blk.new w3 _ _
        obtain ⟨w4, hw4⟩ : ∃ w4, w3.alloc (.cells #[.int .i64 kd, .int .i64 at_, .string tx, .int .i64 nn] 36) = w4 := ⟨_, rfl⟩
        rw [hw4] at hbA hbx
        have HB4 := Lib.hid (HB3.out.trans (hbA.mono HB3.out.size))
        have HZ4 : Hid (Blk w4 w.heap.size 26 #[.int .i64 0, .int .i64 0]) := (hbA.block _ HL3.out).trans HZ3.out
        have HL4 : Hid (w.heap.size < w4.heap.size) := Nat.lt_of_lt_of_le HL3.out hbA.size
        have HO4 : Hid (w4.ownsRow w2.heap.size 36 4 cv acc.length (cellsTk acc)) := own_below HO3.out (Nat.le_refl _) hbA
        by_cases h0 : er = 0
        rotate_left
        · have q0 : (er != 0) = true := by simpa using h0
          rw [if_neg h0] at HI2
          have HV2 : Hid (readV19 s = ([], p, er)) := by
            show _ = _
            rw [HV.out, HI2.out, if_neg h0]
          have HBz := Lib.hid (HB2.out.trans (HB4.out.mono HB2.out.size))
          clear HV HI2 h0 hbA hbx HO3 HO4 hsz
          obtain ⟨s1, s2, s3, s4⟩ := ft_end (w := w) (W := w4) (p : Int) er HZ4.out HBz.out
          have S1 := Lib.hid s1
          have S2 := Lib.hid s2
          have S3 := Lib.hid s3
          clear s1 s2 s3 s4
          go_wp2_with (first | (guard_target =~ wpList _ _ _ (Oper.mk _ (Op.store 26 _ _) _ _ _ _ :: _) _ _; refine wpList_skp rfl (exec_store rfl rfl rfl S1.out) ?_))
          refine bodyPost_ret (results_tmp_cell Tryz.results7 _ _ rfl rfl S2.out) rfl ?_
          unfold RetRd19
          rw [HV2.out]
          exact ⟨none, 0, rfl, Nat.le_refl _, by decide, .inl rfl, S3.out⟩
        subst h0
        rw [if_pos rfl] at HI2
        have hz := hsz rfl
        have hcells : cellsTk acc ++ [.int .i64 kd, .int .i64 (p : Int), .string tx, .int .i64 nn] = cellsTk (acc ++ [(⟨kd, (p : Int), tx, nn⟩ : Tk)]) := by unfold cellsTk; rw [cellsOf_snoc]; rfl
        have HCs := Lib.hid hcells
        have pc := (hbx.cell 1).trans rfl
        have pf := hbx.frozen 1
        have pl := hbx.lt
        have hBx5 : Blk (w4.setCell ⟨w3.heap.size, 1, none⟩ (.int .i64 (p : Int))) w3.heap.size 36 #[.int .i64 kd, .int .i64 (p : Int), .string tx, .int .i64 nn] := hbx.set_ 1 _
        have hc5 : Chg [w3.heap.size] w4 (w4.setCell ⟨w3.heap.size, 1, none⟩ (.int .i64 (p : Int))) := (Chg.refl _ _).setCell (.inl (by simp)) _
        obtain ⟨w5, hw5⟩ : ∃ w5, w4.setCell ⟨w3.heap.size, 1, none⟩ (.int .i64 (p : Int)) = w5 := ⟨_, rfl⟩
        rw [hw5] at hBx5 hc5
        have h34 := hbA.size
        have hl3 := HL3.out
        have h23 := HB3.out.size
        have HZ5 : Hid (Blk w5 w.heap.size 26 #[.int .i64 0, .int .i64 0]) := (hc5.block _ HL4.out (by simp; omega)).trans HZ4.out
        have HL5 : Hid (w.heap.size < w5.heap.size) := Nat.lt_of_lt_of_le HL4.out hc5.size
        have HO5 : Hid (w5.ownsRow w2.heap.size 36 4 cv acc.length (cellsTk acc)) := own_chg HO4.out hc5 (fun g hg hm => by have := own_lt HO3.out hg; rw [List.mem_singleton.1 hm] at this; omega)
        have HB5 : Hid (Below w2.heap.size w2 w5) := HB4.out.trans (hc5.below HB4.out.size (by simpa using h23))
        have HS5 : Hid (w2.heap.size ≤ w5.heap.size) := HB5.out.size
        have z0 := (hBx5.cell 0).trans rfl
        have z1 := (hBx5.cell 1).trans rfl
        have z2 := (hBx5.cell 2).trans rfl
        have z3 := (hBx5.cell 3).trans rfl
        obtain ⟨p2, hp2⟩ : ∃ p2, p + z = p2 := ⟨_, rfl⟩
        have hsk2 := HSk.out p2
        rw [HSl.out] at hsk2
        have wpz : IntKind.i64.wrap ((p : Int) + (z : Int)) = (p2 : Int) := by rw [show (p : Int) + (z : Int) = (p2 : Int) by omega]; exact IntWalk.i64_in _ (by omega)
        have wpz2 : (p : Int) + (z : Int) = (p2 : Int) := by omega
        have hp2s : p2 ≤ s.size := by omega
        have hp2i : (p2 : Int) ≤ (s.size : Int) := by omega
        have HY2 := Lib.hid (HRu.out p2)
        rw [hp2] at HI2
        obtain ⟨y, hy⟩ : ∃ y, skipR [1] (l.drop p2) = y := ⟨_, rfl⟩
        rw [hy] at HY2 HI2 hsk2
        have wpy : IntKind.i64.wrap ((p2 : Int) + (y : Int)) = ((p2 + y : Nat) : Int) := by rw [show (p2 : Int) + (y : Int) = ((p2 + y : Nat) : Int) by omega]; exact IntWalk.i64_in _ (by omega)
        have HI3 : Hid (full = ((acc ++ [(⟨kd, (p : Int), tx, nn⟩ : Tk)]) ++ (readR l n (p2 + y)).1, (readR l n (p2 + y)).2)) := by
          show _ = _
          rw [HI2.out]; simp
        clear hbA hbx hc5 HI2 hy HO3 HO4 hsz hcells hBx5
        go_wp2_with (at_builtin; refine wpList_appM rfl _ _ 23 rfl w2.heap.size 36 i0 (.agg #[.int .i64 0, .int .i64 0, .string ⟨#[]⟩, .int .i64 0]) 4 40 1 Tryz.underlying23 hi hz0 rfl hz1 (by omega) hz2 (by omega) cv acc.length (cellsTk acc) [.int .i64 kd, .int .i64 (p : Int), .string tx, .int .i64 nn] w5 HO5.out rfl _ rfl rfl (by intro u hu; simp at hu; rcases hu with rfl | rfl | rfl | rfl <;> rfl) rfl (by omega) HS5.out ?_; intro v6 w6 hown6 hc6 hsz6; have HO6 := Lib.hid hown6; have HC6 := Lib.hid hc6; clear hown6 hc6 hsz6)
        have HB6 : Hid (Below w2.heap.size w2 w6) := HB5.out.trans (((Below.refl w2.heap.size w5).alloc HS5.out _).trans (HC6.out.below (by have := HS5.out; simp; omega) (fun g hg => (HO5.out.lt g (by simpa using hg)).1)))
        have hO7 : w6.ownsRow w2.heap.size 36 4 v6 (acc ++ [(⟨kd, (p : Int), tx, nn⟩ : Tk)]).length (cellsTk (acc ++ [(⟨kd, (p : Int), tx, nn⟩ : Tk)])) := by
          rw [← HCs.out, List.length_append]; exact HO6.out
        have HO7 := Lib.hid hO7
        clear hO7 HO6 HO5 z0 z1 z2 z3 pc pf pl
        refine (HY2.out w6).mono ?_
        rintro e w7 ⟨rfl, hb7⟩
        have HB7 := Lib.hid (HB6.out.trans (hb7.mono HB6.out.size))
        have HO8 : Hid (w7.ownsRow w2.heap.size 36 4 v6 (acc ++ [(⟨kd, (p : Int), tx, nn⟩ : Tk)]).length (cellsTk (acc ++ [(⟨kd, (p : Int), tx, nn⟩ : Tk)]))) := own_below HO7.out (Nat.le_refl _) hb7
        clear hb7 HY2 HO7
        go_wp2
        go_roundw
        case rel => exact ⟨n, p2 + y, acc ++ [(⟨kd, (p : Int), tx, nn⟩ : Tk)], v6, rfl, by first | rfl | (rw [wpy]) | go_num, by omega, by omega, by rw [List.length_append]; show acc.length + 1 ≤ _; omega, HO8.out, HI3.out, HB7.out⟩
        case measure => simp [intOf]; omega
      · have q0 : decide ((p : Int) < (s.size : Int)) = false := by simp; omega
        have hI2 := HI.out
        rw [HRe.out n p hlt, List.append_nil] at hI2
        have HV2 : Hid (readV19 s = (acc ++ [(⟨0, (p : Int), ⟨#[]⟩, 0⟩ : Tk)], 0, 0)) := by
          show _ = _
          rw [HV.out, hI2]; rfl
        have hcells : cellsTk acc ++ [.int .i64 0, .int .i64 (p : Int), .string ⟨#[]⟩, .int .i64 0] = cellsTk (acc ++ [(⟨0, (p : Int), ⟨#[]⟩, 0⟩ : Tk)]) := by unfold cellsTk; rw [cellsOf_snoc]; rfl
        have HCs := Lib.hid hcells
        have HSr : Hid (w2.heap.size ≤ wr.heap.size) := HBr.out.size
        clear hI2 HI HV hcells
        go_wp2_with (first
          | (guard_target =~ wpList _ _ _ (Oper.mk _ (Op.store 26 _ _) _ _ _ _ :: _) _ _; refine wpList_skp rfl (exec_store rfl rfl rfl S1.out) ?_)
          | (at_builtin; refine wpList_appM rfl _ _ 23 rfl w2.heap.size 36 i0 (.agg #[.int .i64 0, .int .i64 0, .string ⟨#[]⟩, .int .i64 0]) 4 40 1 Tryz.underlying23 hi hz0 rfl hz1 (by omega) hz2 (by omega) cv acc.length (cellsTk acc) [.int .i64 0, .int .i64 (p : Int), .string ⟨#[]⟩, .int .i64 0] wr HO.out rfl _ rfl rfl (by intro u hu; simp at hu; rcases hu with rfl | rfl | rfl | rfl <;> rfl) rfl (by omega) HSr.out ?_; intro v6 w6 hown6 hc6 hsz6; have hB6 : Below w2.heap.size w2 w6 := HBr.out.trans (((Below.refl w2.heap.size wr).alloc HSr.out _).trans (hc6.below (by have := HSr.out; simp; omega) (fun g hg => (HO.out.lt g (by simpa using hg)).1))); have hO7 : w6.ownsRow w2.heap.size 36 4 v6 (acc ++ [(⟨0, (p : Int), ⟨#[]⟩, 0⟩ : Tk)]).length (cellsTk (acc ++ [(⟨0, (p : Int), ⟨#[]⟩, 0⟩ : Tk)])) := (by rw [← HCs.out, List.length_append]; exact hown6); obtain ⟨s1, s2, s3, s4⟩ := ft_end (w := w) (W := w6) 0 0 ((hB6.block _ HL2.out).trans HZ2.out) (HB2.out.trans (hB6.mono HB2.out.size)); have hO8 := own_chg hO7 s4 (fun g hg hm => by have := (hO7.lt g hg).1; have := HL2.out; rw [List.mem_singleton.1 hm] at *; omega); obtain ⟨a8, c8, hv8, hcc8, hcm8, hA8⟩ := own_slice hO8; have HA8 := Lib.hid hA8; have HC8 := Lib.hid hcc8; have HM8 := Lib.hid hcm8; have HV8 := Lib.hid hv8; have S1 := Lib.hid s1; have S2 := Lib.hid s2; have S3 := Lib.hid s3; clear hown6 hc6 hsz6 hB6 hO7 s1 s2 s3 s4 hO8 hv8 hcc8 hcm8 hA8))
        refine bodyPost_ret (results_tmp_cell Tryz.results7 _ _ rfl rfl S2.out) rfl ?_
        unfold RetRd19
        rw [HV2.out]
        exact ⟨a8, c8, by rw [HV8.out]; rfl, HC8.out, HM8.out, HA8.out, S3.out⟩
end Go.Proofs.YtbnddpicpomakaaGreatDoor

/- Places: what reading tells of blanks ahead of a text, and how places rise. -/
set_option linter.unusedSimpArgs false
set_option linter.unusedVariables false
set_option maxRecDepth 100000
namespace Go.Proofs.YtbnddpicpomakaaGreatDoor
open Go.RowKit

/-- A token, so many places later. -/
def Tk.up (n : Nat) (t : Tk) : Tk := ⟨t.kd, t.at_ + (n : Int), t.tx, t.n⟩
theorem readR_up (b l : List Nat) (n : Nat) (hn : b.length = n) : ∀ (f p : Nat), readR (b ++ l) f (n + p) = ((readR l f p).1.map (Tk.up n), n + (readR l f p).2.1, (readR l f p).2.2)
  | 0, p => by simp [readR]
  | f + 1, p => by
    have hd : ∀ q, (b ++ l).drop (n + q) = l.drop q := fun q => by rw [← hn]; simp [List.drop_append]
    rw [readR, readR]
    by_cases hp : p < l.length
    · rw [if_pos (by rw [List.length_append]; omega), if_pos hp]
      simp only
      rw [hd p]
      by_cases h0 : (frontR (l.drop p)).2.2 = 0
      · rw [if_pos h0, if_pos h0]
        rw [show n + p + (frontR (l.drop p)).2.1 = n + (p + (frontR (l.drop p)).2.1) by omega, hd, show n + (p + (frontR (l.drop p)).2.1) + skipR [1] (l.drop (p + (frontR (l.drop p)).2.1)) = n + (p + (frontR (l.drop p)).2.1 + skipR [1] (l.drop (p + (frontR (l.drop p)).2.1))) by omega, readR_up b l n hn f]
        simp only [List.map_cons, Tk.up]
        congr 2
        · congr 1; omega
      · rw [if_neg h0, if_neg h0]; simp
    · rw [if_neg (by rw [List.length_append]; omega), if_neg hp]; simp
/-- More rounds tell the same. -/
theorem readR_more (l : List Nat) : ∀ (f p g : Nat), l.length < p + f → f ≤ g → readR l g p = readR l f p
  | 0, p, g, h, _ => by rw [readR_end (by omega), readR_end (by omega)]
  | f + 1, p, 0, _, hg => by omega
  | f + 1, p, g + 1, h, hg => by
    rw [readR, readR]
    by_cases hp : p < l.length
    · rw [if_pos hp, if_pos hp]
      simp only
      by_cases h0 : (frontR (l.drop p)).2.2 = 0
      · have hz := front_size h0
        rw [if_pos h0, if_pos h0, readR_more l f _ g (by omega) (by omega)]
      · rw [if_neg h0, if_neg h0]
    · rw [if_neg hp, if_neg hp]
/-- Where tokens lie: rising from p on, below the place behind them; that lies in the text. -/
theorem readR_at (l : List Nat) : ∀ (f p : Nat), p ≤ l.length → l.length < p + f →
    ((readR l f p).2.2 = 0 → (readR l f p).2.1 = l.length) ∧ p ≤ (readR l f p).2.1 ∧ (readR l f p).2.1 ≤ l.length ∧
    (∀ t ∈ (readR l f p).1, (p : Int) ≤ t.at_ ∧ t.at_ < (l.length : Int)) ∧ (readR l f p).1.Pairwise (fun a b => a.at_ < b.at_)
  | 0, p, h, h2 => by omega
  | f + 1, p, h, h2 => by
    rw [readR]
    by_cases hp : p < l.length
    · rw [if_pos hp]
      simp only
      by_cases h0 : (frontR (l.drop p)).2.2 = 0
      · have hz := front_size h0
        have hk := skipR_le [1] (l.drop (p + (frontR (l.drop p)).2.1))
        rw [List.length_drop] at hz hk
        rw [if_pos h0]
        obtain ⟨i1, i2, i3, i4, i5⟩ := readR_at l f (p + (frontR (l.drop p)).2.1 + skipR [1] (l.drop (p + (frontR (l.drop p)).2.1))) (by omega) (by omega)
        refine ⟨i1, (by simp only; omega), i3, fun t ht => ?_, List.Pairwise.cons (fun t ht => ?_) i5⟩
        · rcases List.mem_cons.1 ht with rfl | ht
          · exact ⟨by simp, by simp; omega⟩
          · have := i4 t ht; omega
        · have := i4 t ht
          simp only; omega
      · rw [if_neg h0]
        exact ⟨fun h => absurd h h0, Nat.le_refl _, h, (fun t ht => by cases ht), List.Pairwise.nil⟩
    · rw [if_neg hp]
      exact ⟨fun _ => by simp only; omega, Nat.le_refl _, h, (fun t ht => by cases ht), List.Pairwise.nil⟩
/-- Blanks. -/
def blanksL (n : Nat) : List Nat := List.replicate n 32
def blanksS (n : Nat) : ByteArray := strN (blanksL n)
theorem blanks_len (n : Nat) : (blanksL n).length = n := List.length_replicate
theorem skip_blanks (n : Nat) (l : List Nat) : skipR [1] (blanksL n ++ l) = n + skipR [1] l := by
  induction n with
  | zero => simp [blanksL]
  | succ n ih =>
    have : blanksL (n + 1) ++ l = 32 :: (blanksL n ++ l) := by simp [blanksL, List.replicate_succ]
    rw [this, skipR, if_pos (by decide), ih]; omega
theorem valid_blanks (n : Nat) (l : List Nat) (h256 : ∀ c ∈ l, c < 256) : (decS (blanksL n ++ l)).isSome = (decS l).isSome := by
  induction n with
  | zero => simp [blanksL]
  | succ n ih =>
    have e : blanksL (n + 1) ++ l = 32 :: (blanksL n ++ l) := by simp [blanksL, List.replicate_succ]
    have hB : ∀ c ∈ 32 :: (blanksL n ++ l), c < 256 := by
      intro c hc
      rcases List.mem_cons.1 hc with rfl | hc
      · omega
      · rcases List.mem_append.1 hc with hc | hc
        · rw [List.eq_of_mem_replicate hc]; omega
        · exact h256 c hc
    have hp : pt (32 :: (blanksL n ++ l)) = some (32, 1) := by
      have := pt_enc (v := 32) (by decide) (blanksL n ++ l)
      exact this
    rw [e, decS_go hB hp, Option.isSome_map]
    exact ih
theorem bytes_app (a b : ByteArray) : bytesU (a ++ b) = bytesU a ++ bytesU b := by
  unfold bytesU; simp
theorem bytes_blanks (n : Nat) : bytesU (blanksS n) = blanksL n := bytes_strN fun c hc => by rw [List.eq_of_mem_replicate hc]; omega
/-- What Read tells with blanks ahead. -/
theorem read_up (s : ByteArray) (n : Nat) (h : s.size + n ≤ 4096) : readV19 (blanksS n ++ s) =
    if (readV19 s).2.2 = 0 then ((readV19 s).1.map (Tk.up n), 0, 0) else if (decS (bytesU s)).isSome = false then ([], 0, 3) else ([], n + (readV19 s).2.1, (readV19 s).2.2) := by
  have hb := bytesU_len s
  have hsk := skipR_le [1] (bytesU s)
  have hz : (blanksS n ++ s).size = n + s.size := by rw [ByteArray.size_append]; unfold blanksS; rw [strN_size, blanks_len]
  have e : bytesU (blanksS n ++ s) = blanksL n ++ bytesU s := by rw [bytes_app, bytes_blanks]
  have n1 : ¬ 4096 < n + s.size := by omega
  have n2 : ¬ 4096 < s.size := by omega
  simp only [readV19]
  rw [hz, e, valid_blanks n _ (bytesU_lt s), skip_blanks]
  simp only [if_neg n1, if_neg n2]
  by_cases hv : (decS (bytesU s)).isSome = false
  · rw [if_pos hv, if_pos hv]; simp [hv]
  · rw [if_neg hv, if_neg hv, if_neg hv, readR_up _ _ n (blanks_len n), readR_more (bytesU s) (s.size + 1) _ (n + s.size + 1) (by omega) (by omega)]
    simp only
    by_cases h0 : (readR (bytesU s) (s.size + 1) (skipR [1] (bytesU s))).2.2 = 0
    · rw [if_pos h0, if_pos h0, if_pos rfl]
      simp [Tk.up, Int.add_comm]
    · rw [if_neg h0, if_neg h0, if_neg h0]
/-- What Read tells of places. -/
theorem read_at (s : ByteArray) (h : s.size ≤ 4096) :
    ((readV19 s).2.2 = 0 → ∃ L, (readV19 s).1 = L ++ [⟨0, (s.size : Int), ⟨#[]⟩, 0⟩] ∧ (∀ t ∈ (readV19 s).1, 0 ≤ t.at_) ∧ (readV19 s).1.Pairwise (fun a b => a.at_ < b.at_)) ∧
    ((readV19 s).2.2 ≠ 0 → (readV19 s).1 = []) ∧ (readV19 s).2.1 ≤ s.size := by
  have hb := bytesU_len s
  have hsk := skipR_le [1] (bytesU s)
  obtain ⟨i1, i2, i3, i4, i5⟩ := readR_at (bytesU s) (s.size + 1) (skipR [1] (bytesU s)) (by omega) (by omega)
  rw [hb] at i1 i3 i4
  simp only [readV19]
  rw [if_neg (by omega)]
  by_cases hv : (decS (bytesU s)).isSome = false
  · rw [if_pos hv]; exact ⟨fun h => by simp at h, fun _ => rfl, Nat.zero_le _⟩
  · rw [if_neg hv]
    by_cases h0 : (readR (bytesU s) (s.size + 1) (skipR [1] (bytesU s))).2.2 = 0
    · rw [if_pos h0]
      refine ⟨fun _ => ⟨_, by rw [i1 h0], fun t ht => ?_, ?_⟩, fun h => absurd rfl h, Nat.zero_le _⟩
      · rcases List.mem_append.1 ht with ht | ht
        · have := (i4 t ht).1; omega
        · rw [List.mem_singleton.1 ht]; simp
      · rw [i1 h0]
        refine List.pairwise_append.2 ⟨i5, List.pairwise_singleton _ _, fun a ha b hb2 => ?_⟩
        rw [List.mem_singleton.1 hb2]
        exact (i4 a ha).2
    · rw [if_neg h0]
      exact ⟨fun h => absurd h h0, fun _ => rfl, i3⟩
end Go.Proofs.YtbnddpicpomakaaGreatDoor

/- '[]rune' to a string. -/
set_option linter.unusedSimpArgs false
set_option linter.unusedVariables false
set_option maxRecDepth 100000
namespace Go.Proofs.YtbnddpicpomakaaGreatDoor
open Go.RowKit

/-- The text of some code points. -/
def strP (p : List Nat) : ByteArray := ⟨((encS p).map UInt8.ofNat).toArray⟩

theorem strP_size (p : List Nat) : (strP p).size = (encS p).length := by simp [strP, ByteArray.size]

theorem bytesU_strP {p : List Nat} (h : ∀ v ∈ p, okP v = true) : bytesU (strP p) = encS p := by
  unfold bytesU strP
  simp only [List.map_map]
  conv => rhs; rw [← List.map_id (encS p)]
  refine List.map_congr_left fun c hc => ?_
  have := encS_lt h c hc
  simp; omega

theorem encode_pt {v : Nat} (h : okP v = true) : Utf8.encode (v : Int) = ⟨((encP v).map UInt8.ofNat).toArray⟩ := by
  rw [okP_iff] at h
  have hv : Utf8.valid (v : Int) = true := by
    unfold Utf8.valid
    simp only [Bool.or_eq_true, Bool.and_eq_true, decide_eq_true_eq]
    omega
  unfold Utf8.encode encP
  simp only [hv, if_true, Int.toNat_natCast]
  split
  · rfl
  · split
    · rfl
    · split <;> rfl

theorem runes_foldl : ∀ (p : List Nat) (s : ByteArray), (∀ v ∈ p, okP v = true) → (p.map fun (n : Nat) => (n : Int)).foldl (fun r n => r ++ Utf8.encode n) s = s ++ strP p
  | [], s, _ => by
    have : strP [] = ByteArray.empty := rfl
    rw [this]; simp
  | v :: p, s, h => by
    rw [List.map_cons, List.foldl_cons, runes_foldl p _ (fun x hx => h x (by simp [hx])), encode_pt (h v (by simp)), ByteArray.append_assoc]
    congr 1
    apply ByteArray.ext
    simp [strP, encS_cons]

theorem runes_strP {p : List Nat} (h : ∀ v ∈ p, okP v = true) : runesBytes (p.map fun (n : Nat) => (n : Int)) = strP p := by
  unfold runesBytes
  rw [runes_foldl p _ h]; simp

theorem Rs.str {P : Program} {N : Nat} {w : World} {a : Option Addr} {p : List Nat} (h : Rs .i32 N w a (p.map fun (n : Nat) => (n : Int))) (hok : ∀ v ∈ p, okP v = true) (src dst e : TypeId)
    (hs : P.underlying src = some (.slice e)) (he : P.underlying e = some (.int .i32)) (hd : P.underlying dst = some .string) (n cap : Nat) (hn : n = p.length) :
    (convert src dst (.slice a n cap)).run P w = .ok (.string (strP p)) w := by
  subst hn
  rcases h with h | ⟨b, o, rfl, hb, hc⟩
  · have hp : p = [] := by simpa using h
    subst hp
    cases a with
    | none => exact run_convert_runes_nil w src dst e _ _ hs he hd
    | some a =>
      have := run_convert_runes (P := P) w src dst e a 0 cap [] (by simp) hs he hd (by simp)
      exact this
  · have := run_convert_runes (P := P) w src dst e ⟨b, o, none⟩ p.length cap (p.map fun (n : Nat) => (n : Int)) (by simp) hs he hd (fun j hj => by
      have e1 : (⟨b, o, none⟩ : Addr).add j = ⟨b, o + j, none⟩ := by unfold Addr.add; split <;> simp_all
      rw [e1]
      have hj' : j < p.length := by simpa using hj
      rw [hc j ((p[j] : Nat) : Int) (by simp [hj'])]
      simp [hj'])
    rw [this]
    rw [List.take_of_length_le (by simp), runes_strP hok]
end Go.Proofs.YtbnddpicpomakaaGreatDoor

/- The mathematics of the law RunesBack: a number's digits. -/
set_option linter.unusedSimpArgs false
set_option linter.unusedVariables false
set_option maxRecDepth 100000
namespace Go.Proofs.YtbnddpicpomakaaGreatDoor
set_option linter.unusedSimpArgs false
open Go.RowKit

theorem valF_snoc (a : Nat) (l : List Nat) (c : Nat) : valF a (l ++ [c]) = valF a l * 10 + (c - 48) := by
  unfold valF; rw [List.foldl_append]; rfl

theorem dec_facts (u : Nat) : (∀ c ∈ Lib.decDigits u, 48 ≤ c.toNat ∧ c.toNat ≤ 57) ∧ valF 0 ((Lib.decDigits u).map UInt8.toNat) = u ∧ 0 < (Lib.decDigits u).length ∧ (∀ k, u < 10 ^ (k + 1) → (Lib.decDigits u).length ≤ k + 1) := by
  induction u using Nat.strongRecOn with
  | _ u ih =>
    by_cases h : u < 10
    · have e : Lib.decDigits u = [UInt8.ofNat (48 + u)] := by rw [Lib.decDigits, dif_pos h]
      have h2 : (UInt8.ofNat (48 + u)).toNat = 48 + u := by simp; omega
      rw [e]
      refine ⟨?_, ?_, by simp, fun k _ => by simp⟩
      · intro c hc
        rw [List.mem_singleton] at hc
        subst hc
        omega
      · show valF 0 [(UInt8.ofNat (48 + u)).toNat] = u
        rw [h2]; simp [valF]
    · have e : Lib.decDigits u = Lib.decDigits (u / 10) ++ [UInt8.ofNat (48 + u % 10)] := by rw [Lib.decDigits, dif_neg h]
      have h2 : (UInt8.ofNat (48 + u % 10)).toNat = 48 + u % 10 := by simp; omega
      obtain ⟨i1, i2, i3, i4⟩ := ih (u / 10) (by omega)
      rw [e]
      refine ⟨?_, ?_, by simp, ?_⟩
      · intro c hc
        rcases List.mem_append.1 hc with hc | hc
        · exact i1 c hc
        · rw [List.mem_singleton] at hc
          subst hc
          omega
      · rw [List.map_append, List.map_singleton, valF_snoc, i2, h2]
        omega
      · intro k hk
        rw [List.length_append, List.length_singleton]
        cases k with
        | zero => omega
        | succ k =>
          have := i4 k (by rw [Nat.pow_succ] at hk; omega)
          omega

theorem bytesU_baL (l : List UInt8) : bytesU (baL l) = l.map UInt8.toNat := rfl

theorem num_digits (n : Int) (h0 : 0 ≤ n) (h1 : n ≤ 9223372036854775807) : numberV (baL (Lib.itoa n)) = (n, 0) ∧ (baL (Lib.itoa n)).size ≤ 19 := by
  obtain ⟨u, rfl⟩ := Int.eq_ofNat_of_zero_le h0
  have e : Lib.itoa (u : Int) = Lib.decDigits u := by unfold Lib.itoa; rw [if_neg (by omega)]; simp
  obtain ⟨i1, i2, i3, i4⟩ := dec_facts u
  rw [e]
  have hd : digitsB (baL (Lib.decDigits u)) = true := by
    rw [digitsB_true, baL_size]
    refine ⟨i3, fun i hi => ?_⟩
    unfold byteN
    rw [bytesU_baL, List.getD_eq_getElem?_getD, List.getElem?_map, List.getElem?_eq_getElem hi]
    exact i1 _ (List.getElem_mem hi)
  refine ⟨?_, ?_⟩
  · unfold numberV
    rw [if_neg (by rw [hd]; simp), show valL (bytesU (baL (Lib.decDigits u))) = u from i2, if_neg (by omega)]
  · rw [baL_size]
    exact i4 18 (by have : (10 : Nat) ^ (18 + 1) = 10000000000000000000 := by decide
                    omega)

theorem unq_quote (s : ByteArray) : unquoteS (quoteS s) = (s, 0) := by
  unfold unquoteS quoteS
  rw [baL_list, unquote_quote]
  simp [baL]

theorem quote_size (s : ByteArray) : (quoteS s).size ≤ 2 * s.size + 2 := by
  unfold quoteS
  rw [baL_size]
  unfold quoteL
  have := (dblL_len s.data.toList).2
  have e : s.data.toList.length = s.size := by simp
  simp only [List.length_append, List.length_cons, List.length_nil]
  omega

theorem strP_back {s : ByteArray} {p : List Nat} (h : decS (bytesU s) = some p) : strP p = s ∧ ∀ v ∈ p, okP v = true := by
  obtain ⟨h1, h2⟩ := (decS_iff (bytesU_lt s) p).1 h
  refine ⟨?_, h1⟩
  unfold strP
  rw [h2]
  apply ByteArray.ext
  unfold bytesU
  have hid : (UInt8.ofNat ∘ UInt8.toNat) = id := by funext c; simp
  rw [List.map_map, hid, List.map_id]

theorem split_strP {p : List Nat} (h : ∀ v ∈ p, okP v = true) : decS (bytesU (strP p)) = some p ∧ (strP p).size ≤ 4 * p.length := by
  rw [bytesU_strP h]
  exact ⟨decS_encS h, by rw [strP_size]; exact (encS_len p).2⟩
end Go.Proofs.YtbnddpicpomakaaGreatDoor

/- The walks of hindsightref05.Quote and Unquote. -/
set_option linter.unusedSimpArgs false
set_option linter.unusedVariables false
set_option maxRecDepth 100000
namespace Go.Proofs.YtbnddpicpomakaaGreatDoor
set_option linter.unusedSimpArgs false
open Go.RowKit

def dblN : List Nat → List Nat
  | [] => []
  | c :: l => if c = 39 then 39 :: 39 :: dblN l else c :: dblN l
theorem dblN_app : ∀ a b : List Nat, dblN (a ++ b) = dblN a ++ dblN b
  | [], b => rfl
  | c :: a, b => by
    rw [List.cons_append, dblN, dblN, dblN_app a b]
    split <;> rfl
theorem dblN_take (l : List Nat) (k : Nat) (hk : k < l.length) : dblN (l.take (k + 1)) = dblN (l.take k) ++ (if l[k] = 39 then [39, 39] else [l[k]]) := by
  have e : dblN [l[k]] = if l[k] = 39 then [39, 39] else [l[k]] := by
    rw [dblN]
    split <;> rfl
  rw [List.take_add_one, List.getElem?_eq_getElem hk, dblN_app]
  exact congrArg _ e
theorem dblN_len : ∀ l : List Nat, (dblN l).length ≤ 2 * l.length
  | [] => Nat.le_refl _
  | c :: l => by
    have := dblN_len l
    rw [dblN]
    split <;> simp only [List.length_cons] <;> omega
theorem dbl_map : ∀ l : List UInt8, (dblL l).map UInt8.toNat = dblN (l.map UInt8.toNat)
  | [] => rfl
  | c :: l => by
    rw [dblL, List.map_cons, dblN]
    by_cases h : c = 39
    · subst h
      rw [if_pos rfl, if_pos (by rfl : UInt8.toNat 39 = 39), List.map_cons, List.map_cons, dbl_map l]; rfl
    · have h2 : c.toNat ≠ 39 := by
        intro h2
        apply h
        apply UInt8.toNat_inj.1
        rw [h2]; rfl
      rw [if_neg h, if_neg h2, List.map_cons, dbl_map l]

theorem strN_map (l : List UInt8) : strN (l.map UInt8.toNat) = baL l := by
  unfold strN baL
  have hid : (UInt8.ofNat ∘ UInt8.toNat) = id := by funext c; simp
  rw [List.map_map, hid, List.map_id]

theorem quoteS_N (s : ByteArray) : quoteS s = strN (39 :: (dblN (bytesU s) ++ [39])) := by
  unfold quoteS quoteL
  rw [← strN_map, List.map_cons, List.map_append, dbl_map]; rfl

theorem OwnB.newU (w : World) (base : Nat) (T : TypeId) (c : Nat) (n : Int) (g : Nat) (hn : n = (c : Int)) (hc : c < 256) (hb : base ≤ w.heap.size) (hg : g = w.heap.size) : OwnB (w.alloc (.cells #[.int .u8 n] T)) base T (.slice (some ⟨g, 0, none⟩) 1 1) [c] := by
  subst hn hg
  refine ⟨by simpa using hc, by simp, .inr ⟨w.heap.size, 1, #[.int .u8 (c : Int)], by simp, hb, heap_alloc_new _ _, by simp, by unfold maxLen; omega, by simp, by simp⟩⟩

set_option maxHeartbeats 2000000 in
theorem rQuote_any (s : ByteArray) (w : World) (hs : s.size ≤ 1000000) :
    Calls Tryz.prog 73 #[.string s] w fun e w' => e = .returned (.string (quoteS s)) ∧ Below w.heap.size w w' := by
  obtain ⟨i0, hi, hz0, hz1, hz2⟩ := info_parts Tryz.info5
  go_enter Tryz.func73, Tryz.ntmps73
  go_wp2
  go_loopw [3, 4] (fun v i wr => ∃ k : Nat, k ≤ s.size ∧ i = .int .i64 k ∧ OwnB wr w.heap.size 5 v (39 :: dblN ((bytesU s).take k)) ∧ Below w.heap.size w wr) (fun _ i _ => s.size - (intOf i).toNat)
  case atStart => exact ⟨0, by omega, rfl, OwnB.newU w w.heap.size 5 39 39 _ rfl (by omega) (Nat.le_refl _) rfl, (Below.refl _ w).alloc (Nat.le_refl _) _⟩
  case round =>
    obtain ⟨k, hk, rfl, hown, hb⟩ := hrel
    have hsz := hb.size
    have hle : (39 :: dblN ((bytesU s).take k)).length ≤ 2000001 := by
      have h1 := dblN_len ((bytesU s).take k)
      rw [List.length_take, bytesU_len] at h1
      rw [List.length_cons]; omega
    by_cases hlt : k < s.size
    · have hkl : k < (bytesU s).length := by rw [bytesU_len]; exact hlt
      have hx : (bytesU s)[k] = (s[k]'hlt).toNat := by simp [bytesU]; rfl
      have hm := dblN_take (bytesU s) k hkl
      rw [hx] at hm
      have HM := Lib.hid hm
      have hc256 := (s[k]'hlt).toNat_lt
      clear hx hm
      by_cases h39 : (s[k]'hlt).toNat = 39
      · have HM2 : Hid (39 :: dblN ((bytesU s).take (k + 1)) = ((39 :: dblN ((bytesU s).take k)) ++ [39]) ++ [39]) := by rw [HM.out, if_pos h39]; simp [Hid]
        have q39 : (((s[k]'hlt).toNat : Int) == 39) = true := by rw [h39]; rfl
        clear HM
        go_wp2_with (first
          | (at_builtin; refine wpList_app1 rfl _ _ 99 rfl w.heap.size 5 i0 Tryz.underlying99 hi hz0 hz1 hz2 _ _ wr hown rfl 39 (by omega) _ (by omega) rfl (by omega) hsz ?_; intro v1 w1 hown1 hb1' hsz1')
          | (at_builtin; refine wpList_app1 rfl _ _ 99 rfl w.heap.size 5 i0 Tryz.underlying99 hi hz0 hz1 hz2 _ _ w1 hown1 rfl 39 (by omega) _ rfl rfl (by rw [List.length_append]; simp only [List.length_cons, List.length_nil] at hle ⊢; omega) (hb.trans hb1').size ?_; intro v2 w2 hown2 hb2' hsz2'))
        go_roundw
        case rel => exact ⟨k + 1, by omega, by go_num, by rw [HM2.out]; exact hown2, (hb.trans hb1').trans hb2'⟩
        case measure => simp [intOf]; omega
      · have HM2 : Hid (39 :: dblN ((bytesU s).take (k + 1)) = (39 :: dblN ((bytesU s).take k)) ++ [(s[k]'hlt).toNat]) := by rw [HM.out, if_neg h39]; simp [Hid]
        have q39 : (((s[k]'hlt).toNat : Int) == 39) = false := by
          rw [Bool.eq_false_iff]; intro h; rw [beq_iff_eq] at h; omega
        clear HM
        go_wp2_with (at_builtin; refine wpList_app1 rfl _ _ 99 rfl w.heap.size 5 i0 Tryz.underlying99 hi hz0 hz1 hz2 _ _ wr hown rfl (s[k]'hlt).toNat (by omega) _ rfl rfl (by omega) hsz ?_; intro v1 w1 hown1 hb1' hsz1')
        go_roundw
        case rel => exact ⟨k + 1, by omega, by go_num, by rw [HM2.out]; exact hown1, hb.trans hb1'⟩
        case measure => simp [intOf]; omega
    · have hall : (bytesU s).take k = bytesU s := List.take_of_length_le (by rw [bytesU_len]; omega)
      rw [hall] at hown hle
      have HQ : Hid (strN (39 :: dblN (bytesU s) ++ [39]) = quoteS s) := (quoteS_N s).symm
      clear hall
      have HCV : Hid (∀ (v : Value) (w1 : World), OwnB w1 w.heap.size 5 v (39 :: dblN (bytesU s) ++ [39]) → (convert 99 9 v).run Tryz.prog w1 = .ok (.string (quoteS s)) w1) := fun v w1 h => by
        obtain ⟨a, cap, rfl, hcap, hB, _⟩ := h.slice
        rw [← HQ.out]
        exact hB.conv (P := Tryz.prog) 99 5 Tryz.underlying99 Tryz.underlying5 9 Tryz.underlying9 _ cap rfl
      clear HQ
      go_wp2_with (at_builtin; refine wpList_app1 rfl _ _ 99 rfl w.heap.size 5 i0 Tryz.underlying99 hi hz0 hz1 hz2 _ _ wr hown rfl 39 (by omega) _ rfl rfl (by omega) hsz ?_; intro v1 w1 hown1 hb1' hsz1'; have hcv1 := HCV.out v1 w1 hown1)
      go_ret
      exact ⟨rfl, hb.trans hb1'⟩

/-! Unquote. -/
theorem toListU_inj {a b : ByteArray} (h : a.toList = b.toList) : a = b := by
  rw [ByteArray.toList_eq, ByteArray.toList_eq] at h
  apply ByteArray.ext
  exact Array.toList_inj.1 h

def uL : List Nat → List Nat
  | [] => []
  | [_] => []
  | c :: d :: r => if c = 39 then c :: uL r else c :: uL (d :: r)

theorem uL_short {l : List Nat} (h : l.length ≤ 1) : uL l = [] := by
  match l, h with
  | [], _ => rfl
  | [_], _ => rfl
  | _ :: _ :: _, h => simp at h
theorem uL_len : ∀ (n : Nat) (l : List Nat), l.length ≤ n → (uL l).length ≤ l.length
  | _, [], _ => Nat.le_refl _
  | _, [_], _ => by simp [uL]
  | 0, _ :: _ :: _, h => by simp at h
  | n + 1, c :: d :: r, h => by
    rw [uL]
    simp only [List.length_cons] at h
    split
    · have := uL_len n r (by omega)
      simp only [List.length_cons]; omega
    · have := uL_len n (d :: r) (by simp only [List.length_cons]; omega)
      simp only [List.length_cons] at this ⊢; omega
theorem uL_back : ∀ x : List Nat, uL (dblN x ++ [39]) = x
  | [] => rfl
  | c :: x => by
    have ih := uL_back x
    rw [dblN]
    by_cases h : c = 39
    · subst h
      rw [if_pos rfl]
      show uL (39 :: 39 :: (dblN x ++ [39])) = _
      rw [uL, if_pos rfl, ih]
    · rw [if_neg h]
      show uL (c :: (dblN x ++ [39])) = _
      cases hd : dblN x ++ [39] with
      | nil => simp at hd
      | cons d r =>
        rw [uL, if_neg h, ← hd, ih]

theorem uL_step {l : List Nat} {k : Nat} (h : k + 1 < l.length) : uL (l.drop k) = if l[k] = 39 then l[k] :: uL (l.drop (k + 2)) else l[k] :: uL (l.drop (k + 1)) := by
  rw [List.drop_eq_getElem_cons (by omega : k < l.length), List.drop_eq_getElem_cons h, uL]

theorem unq_ref (s : ByteArray) : unquoteS s = if quoteS (strN (uL ((bytesU s).drop 1))) = s then (strN (uL ((bytesU s).drop 1)), 0) else (⟨#[]⟩, 3) := by
  have hback : ∀ x : List UInt8, s = baL (quoteL x) → strN (uL ((bytesU s).drop 1)) = baL x := by
    intro x hx
    have e : bytesU s = 39 :: (dblN (x.map UInt8.toNat) ++ [39]) := by
      rw [hx]
      show (quoteL x).map UInt8.toNat = _
      unfold quoteL
      rw [List.map_cons, List.map_append, dbl_map]; rfl
    rw [e]
    show strN (uL (dblN (x.map UInt8.toNat) ++ [39])) = _
    rw [uL_back, strN_map]
  have hsb : baL s.data.toList = s := by unfold baL; simp
  unfold unquoteS unquoteL
  by_cases h1 : quoteL (plainL s.data.toList) = s.data.toList
  · have hb := hback (plainL s.data.toList) (by rw [h1, hsb])
    rw [if_pos h1, hb, if_pos]
    unfold quoteS
    rw [baL_list, h1, hsb]
  · rw [if_neg h1, if_neg]
    · rfl
    · intro h2
      apply h1
      have h3 : s.data.toList = quoteL (strN (uL ((bytesU s).drop 1))).data.toList := by
        have := congrArg (fun t : ByteArray => t.data.toList) h2
        simp only [quoteS, baL_list] at this
        exact this.symm
      rw [h3, plain_quote]

set_option maxRecDepth 1000000 in
set_option maxHeartbeats 4000000 in
theorem rUnquote_any (s : ByteArray) (w : World) (hs : s.size ≤ 400000) :
    Calls Tryz.prog 64 #[.string s] w fun e w' => e = .returned (.tuple #[.string (unquoteS s).1, .int .i64 (unquoteS s).2]) ∧ Below w.heap.size w w' := by
  obtain ⟨i0, hi, hz0, hz1, hz2⟩ := info_parts Tryz.info5
  have HL := Lib.hid (bytesU_len s)
  have HU := Lib.hid (unq_ref s)
  have hul := uL_len _ ((bytesU s).drop 1) (Nat.le_refl _)
  rw [List.length_drop, HL.out] at hul
  go_enter Tryz.func64, Tryz.ntmps64
  go_wp2
  go_loopw [4, 5] (fun v i wr => ∃ (k : Nat) (q : List Nat), 1 ≤ k ∧ k ≤ s.size + 1 ∧ i = .int .i64 k ∧ OwnB wr w.heap.size 5 v q ∧ Hid (q ++ uL ((bytesU s).drop k) = uL ((bytesU s).drop 1)) ∧ Below w.heap.size w wr) (fun _ i _ => s.size - (intOf i).toNat)
  case atStart => exact ⟨1, [], by omega, by omega, rfl, OwnB.nil _ _ _, rfl, Below.refl _ _⟩
  case round =>
    obtain ⟨k, q, hk1, hk, rfl, hown, HQ, hb⟩ := hrel
    have hsz := hb.size
    have hql : q.length ≤ 400000 := by
      have h1 := congrArg List.length HQ.out
      rw [List.length_append] at h1
      omega
    by_cases hlt : k + 1 < s.size
    · have hlt' : k < s.size := by omega
      have hkl : k + 1 < (bytesU s).length := by rw [bytesU_len]; exact hlt
      have hx : (bytesU s)[k] = (s[k]'hlt').toNat := by simp [bytesU]; rfl
      have hm := uL_step hkl
      rw [hx] at hm
      have HM := Lib.hid hm
      have hc256 := (s[k]'hlt').toNat_lt
      have qc : decide (((k : Int) + 1) < (s.size : Int)) = true := by simp; omega
      clear hx hm hkl hul hlt
      by_cases h39 : (s[k]'hlt').toNat = 39
      · have HM2 : Hid ((q ++ [39]) ++ uL ((bytesU s).drop (k + 2)) = uL ((bytesU s).drop 1)) := by rw [← HQ.out, HM.out, if_pos h39, h39]; simp [Hid]
        have q39 : (((s[k]'hlt').toNat : Int) == 39) = true := by rw [h39]; rfl
        clear HM HQ
        go_wp2_with (at_builtin; refine wpList_app1 rfl _ _ 99 rfl w.heap.size 5 i0 Tryz.underlying99 hi hz0 hz1 hz2 _ _ wr hown rfl 39 (by omega) _ (by omega) rfl (by omega) hsz ?_; intro v1 w1 hown1 hb1' hsz1')
        go_roundw
        case rel => exact ⟨k + 2, _, by omega, by omega, by go_num, hown1, HM2, hb.trans hb1'⟩
        case measure => simp [intOf]; omega
      · have HM2 : Hid ((q ++ [(s[k]'hlt').toNat]) ++ uL ((bytesU s).drop (k + 1)) = uL ((bytesU s).drop 1)) := by rw [← HQ.out, HM.out, if_neg h39]; simp [Hid]
        have q39 : (((s[k]'hlt').toNat : Int) == 39) = false := by
          rw [Bool.eq_false_iff]; intro h; rw [beq_iff_eq] at h; omega
        clear HM HQ
        go_wp2_with (at_builtin; refine wpList_app1 rfl _ _ 99 rfl w.heap.size 5 i0 Tryz.underlying99 hi hz0 hz1 hz2 _ _ wr hown rfl (s[k]'hlt').toNat (by omega) _ rfl rfl (by omega) hsz ?_; intro v1 w1 hown1 hb1' hsz1')
        go_roundw
        case rel => exact ⟨k + 1, _, by omega, by omega, by go_num, hown1, HM2, hb.trans hb1'⟩
        case measure => simp [intOf]; omega
    · have hq : q = uL ((bytesU s).drop 1) := by
        rw [← HQ.out, uL_short (by rw [List.length_drop, HL.out]; omega), List.append_nil]
      clear HQ hul
      have HQr := Lib.hid (fun W => rQuote_any (strN q) W (by
        show (strN q).size ≤ 1000000
        unfold strN ByteArray.size
        simp; omega))
      rw [← hq] at HU
      clear hq
      obtain ⟨a, cap, rfl, hcap, hB, _⟩ := hown.slice
      have HCV : Hid (∀ W, Below wr.heap.size wr W → (convert 99 9 (.slice a q.length cap)).run Tryz.prog W = .ok (.string (strN q)) W) := fun W h => (hB.below h).conv (P := Tryz.prog) 99 5 Tryz.underlying99 Tryz.underlying5 9 Tryz.underlying9 _ cap rfl
      have hcv := HCV.out wr (Below.refl _ _)
      obtain ⟨t, ht⟩ : ∃ t, strN q = t := ⟨_, rfl⟩
      rw [ht] at HU HQr HCV hcv
      obtain ⟨u, hu⟩ : ∃ u, quoteS t = u := ⟨_, rfl⟩
      rw [hu] at HU HQr
      have qc : decide (((k : Int) + 1) < (s.size : Int)) = false := by simp; omega
      clear hB hown ht hu hlt
      go_wp2_with fail
      refine (HQr.out _).mono ?_
      rintro e w1 ⟨rfl, hb1⟩
      have hcv1 := HCV.out w1 hb1
      clear hcv HCV HQr
      by_cases hus : u = s
      · subst hus
        have HU2 : Hid (unquoteS u = (t, 0)) := by rw [HU.out, if_pos rfl]; rfl
        clear HU
        have qu2 : (u.toList == u.toList) = true := by simp
        go_wp2
        go_ret2
        exact ⟨by rw [HU2.out]; rfl, hb.trans (hb1.mono hsz)⟩
      · have HU2 : Hid (unquoteS s = (⟨#[]⟩, 3)) := by rw [HU.out, if_neg hus]; rfl
        clear HU
        have qu : (u.toList == s.toList) = false := by
          rw [Bool.eq_false_iff]
          intro h
          rw [beq_iff_eq] at h
          exact hus (toListU_inj h)
        go_wp2
        go_ret2
        exact ⟨by rw [HU2.out]; rfl, hb.trans (hb1.mono hsz)⟩
end Go.Proofs.YtbnddpicpomakaaGreatDoor

/- Mathematics: the text of a token, with a blank or nothing behind it, is read as this token. -/
set_option linter.unusedSimpArgs false
set_option linter.unusedVariables false
set_option maxRecDepth 100000
namespace Go.Proofs.YtbnddpicpomakaaGreatDoor
open Go.RowKit

/-- Nothing, or a blank and more. -/
def EndOk (t : List Nat) : Prop := t = [] ∨ ∃ r, t = 32 :: r
theorem class32 : classZ ((32 : Nat) : Int) = 1 := class_of _ _ (.inl ⟨rfl, .inl rfl⟩)
theorem skip_end (ks : List Int) (hk : ks.contains 1 = false) {t : List Nat} (ht : EndOk t) : skipR ks t = 0 := by
  rcases ht with rfl | ⟨r, rfl⟩
  · rfl
  · rw [skipR, class32, hk]; rfl
theorem skip_all (ks : List Int) (hk : ks.contains 1 = false) {t : List Nat} (ht : EndOk t) : ∀ l : List Nat, (∀ c ∈ l, ks.contains (classZ (c : Int)) = true) → skipR ks (l ++ t) = l.length
  | [], _ => skip_end ks hk ht
  | c :: l, h => by
    rw [List.cons_append, skipR, if_pos (h c List.mem_cons_self), skip_all ks hk ht l fun x hx => h x (List.mem_cons_of_mem _ hx)]
    rfl
theorem quo_dbl {t : List Nat} (ht : EndOk t) : ∀ (b : List Nat) (z i : Nat), quoR true z i (dblN b ++ 39 :: t) = (false, i + (dblN b).length + 1)
  | [], z, i => by
    show quoR true z i (39 :: t) = _
    rw [quoR, if_pos rfl]
    rcases ht with rfl | ⟨r, rfl⟩
    · rfl
    · rw [quoR, if_neg (by decide)]; rfl
  | c :: b, z, i => by
    rw [dblN]
    split
    · rw [List.cons_append, List.cons_append, quoR, if_pos rfl, quoR, if_pos rfl]
      have := quo_dbl ht b (i + 1 + 1) (i + 1 + 1)
      show quoR true _ _ _ = _
      rw [this]
      simp only [List.length_cons, Prod.mk.injEq, true_and]; omega
    · rename_i h
      rw [List.cons_append, quoR, if_neg h, if_pos rfl, quo_dbl ht b]
      simp only [List.length_cons, Prod.mk.injEq, true_and]; omega
theorem dblN_lt : ∀ {l : List Nat}, (∀ c ∈ l, c < 256) → ∀ c ∈ dblN l, c < 256
  | [], _, c, h => by simp [dblN] at h
  | d :: l, hl, c, h => by
    have ih := dblN_lt (l := l) (fun x hx => hl x (List.mem_cons_of_mem _ hx))
    rw [dblN] at h
    split at h
    · simp only [List.mem_cons] at h
      rcases h with rfl | rfl | h
      · omega
      · omega
      · exact ih c h
    · simp only [List.mem_cons] at h
      rcases h with rfl | h
      · exact hl c List.mem_cons_self
      · exact ih c h
theorem quote_bytes (s : ByteArray) : bytesU (quoteS s) = 39 :: (dblN (bytesU s) ++ [39]) := by
  rw [quoteS_N]
  refine bytes_strN fun c hc => ?_
  simp only [List.mem_cons, List.mem_append, List.not_mem_nil, or_false] at hc
  rcases hc with rfl | hc | rfl
  · omega
  · exact dblN_lt (bytesU_lt s) c hc
  · omega
theorem quot_back (s : ByteArray) {t : List Nat} (ht : EndOk t) : quotR (bytesU (quoteS s) ++ t) = (⟨3, 0, s, 0⟩, (quoteS s).size, 0) := by
  have hq : quotesR (bytesU (quoteS s) ++ t) = (quoteS s).size := by
    rw [← bytesU_len, quote_bytes]
    unfold quotesR
    have : quoR false 0 0 (39 :: (dblN (bytesU s) ++ [39]) ++ t) = (false, (39 :: (dblN (bytesU s) ++ [39])).length) := by
      rw [List.cons_append, quoR, if_pos rfl, List.append_assoc]
      show quoR true 1 1 (dblN (bytesU s) ++ 39 :: t) = _
      rw [quo_dbl ht]
      simp only [List.length_cons, List.length_append, List.length_nil, Prod.mk.injEq, true_and]; omega
    rw [this]; rfl
  unfold quotR
  have h2 : strN ((bytesU (quoteS s) ++ t).take (quoteS s).size) = quoteS s := by
    rw [List.take_left' (bytesU_len _), strN_bytes]
  simp only [hq, h2, unq_quote, if_pos]
theorem quot_front (s : ByteArray) {t : List Nat} (ht : EndOk t) : frontR (bytesU (quoteS s) ++ t) = (⟨3, 0, s, 0⟩, (quoteS s).size, 0) := by
  rw [← quot_back s ht]
  have hb := quote_bytes s
  unfold frontR
  rw [hb, List.cons_append]
  rw [if_neg (by simp [List.isPrefixOf])]
  have hc : classZ ((((39 : Nat) :: (dblN (bytesU s) ++ [39] ++ t)).headD 128 : Nat) : Int) = 4 := class_of _ _ (.inr (.inr (.inr (.inl ⟨rfl, rfl⟩))))
  simp only [hc]
  rw [if_neg (by decide), if_neg (by decide), if_pos trivial]
theorem hex_back {c : Nat} (h : c < 256) : hexV (hexd (c / 16)) = some (c / 16) ∧ hexV (hexd (c % 16)) = some (c % 16) := by
  have key : ∀ n, n < 16 → hexV (hexd n) = some n := by decide
  exact ⟨key _ (by omega), key _ (by omega)⟩
theorem unhex_hex : ∀ {l : List Nat}, (∀ c ∈ l, c < 256) → unhexR (hexN l) = some l
  | [], _ => rfl
  | c :: l, h => by
    have ih := unhex_hex (l := l) fun x hx => h x (List.mem_cons_of_mem _ hx)
    have hc := hex_back (h c List.mem_cons_self)
    have e : hexN (c :: l) = hexd (c / 16) :: hexd (c % 16) :: hexN l := rfl
    rw [e, unhexR, hc.1, hc.2, ih]
    simp only [Option.some.injEq, List.cons.injEq, and_true]
    omega
theorem hexS_bytes (s : ByteArray) : bytesU (hexS s) = hexN (bytesU s) := by
  unfold hexS
  refine bytes_strN fun c hc => ?_
  unfold hexN at hc
  rw [List.mem_flatMap] at hc
  obtain ⟨d, hd, hc⟩ := hc
  have := bytesU_lt s d hd
  simp only [List.mem_cons, List.not_mem_nil, or_false] at hc
  rcases hc with rfl | rfl
  · exact hexd_lt (by omega)
  · exact hexd_lt (by omega)
theorem blob_front (s : ByteArray) {t : List Nat} (ht : EndOk t) : frontR (120 :: bytesU (quoteS (hexS s)) ++ t) = (⟨4, 0, s, 0⟩, 1 + (quoteS (hexS s)).size, 0) := by
  unfold frontR
  rw [if_pos (by rw [quote_bytes]; rfl)]
  unfold blobR
  have h1 : (120 :: bytesU (quoteS (hexS s)) ++ t).drop 1 = bytesU (quoteS (hexS s)) ++ t := rfl
  simp only [h1, quot_back (hexS s) ht, hexS_bytes, unhex_hex (bytesU_lt s), strN_bytes, if_pos]
theorem sign_front (x : List Nat) (hx : x ∈ signsR) {t : List Nat} (ht : EndOk t) : frontR (x ++ t) = (⟨5, 0, strN x, 0⟩, x.length, 0) := by
  rcases ht with rfl | ⟨r, rfl⟩
  · rw [List.append_nil]
    revert x
    decide
  · unfold signsR at hx
    simp only [List.mem_cons, List.not_mem_nil, or_false] at hx
    rcases hx with rfl | rfl | rfl | rfl | rfl | rfl | rfl | rfl | rfl | rfl | rfl | rfl | rfl | rfl | rfl | rfl | rfl <;> rfl
theorem num_front (n : Int) (h0 : 0 ≤ n) (h1 : n ≤ 9223372036854775807) {t : List Nat} (ht : EndOk t) : frontR (bytesU (baL (Lib.itoa n)) ++ t) = (⟨2, 0, ⟨#[]⟩, n⟩, (baL (Lib.itoa n)).size, 0) := by
  have hv := (num_digits n h0 h1).1
  obtain ⟨hpos, hall⟩ : 0 < (bytesU (baL (Lib.itoa n))).length ∧ ∀ c ∈ bytesU (baL (Lib.itoa n)), 48 ≤ c ∧ c ≤ 57 := by
    obtain ⟨u, rfl⟩ := Int.eq_ofNat_of_zero_le h0
    have e : Lib.itoa (u : Int) = Lib.decDigits u := by unfold Lib.itoa; rw [if_neg (by omega)]; simp
    obtain ⟨i1, _, i3, _⟩ := dec_facts u
    rw [e, bytesU_baL]
    refine ⟨by simpa using i3, fun c hc => ?_⟩
    rw [List.mem_map] at hc
    obtain ⟨d, hd, rfl⟩ := hc
    exact i1 d hd
  have hlen := bytesU_len (baL (Lib.itoa n))
  have hst := strN_bytes (baL (Lib.itoa n))
  rw [← hlen]
  generalize baL (Lib.itoa n) = s at *
  generalize bytesU s = l at *
  have hc3 : ∀ c ∈ l, classZ (c : Int) = 3 := fun c hc => class_of _ _ (by have := hall c hc; exact .inr (.inr (.inl ⟨rfl, by omega, by omega⟩)))
  have hs3 : skipR [3] (l ++ t) = l.length := skip_all [3] rfl ht l fun c hc => by rw [hc3 c hc]; rfl
  have hs32 : skipR [3, 2] (l ++ t) = l.length := skip_all [3, 2] rfl ht l fun c hc => by rw [hc3 c hc]; rfl
  have hn : numR (l ++ t) = (⟨2, 0, ⟨#[]⟩, n⟩, l.length, 0) := by
    unfold numR
    simp only [hs3, hs32, List.take_left, hst, hv, if_pos]
    rw [if_neg (by omega)]
  cases l with
  | nil => simp at hpos
  | cons c l =>
    have h48 := hall c List.mem_cons_self
    unfold frontR
    rw [hn, if_neg (by simp [List.isPrefixOf]; omega)]
    have hh : ((c :: l ++ t).headD 128) = c := rfl
    simp only [hh, hc3 c List.mem_cons_self]
    rw [if_neg (by decide), if_pos trivial]
theorem fold_class {c : Nat} : classZ (c : Int) = 2 → classZ (foldC c : Int) = 2 ∧ foldC (foldC c) = foldC c := by
  intro h
  unfold foldC
  split
  · rename_i hc
    refine ⟨class_of _ _ (.inr (.inl ⟨rfl, .inl (by omega)⟩)), ?_⟩
    rw [if_neg (by omega)]
  · rename_i hc
    exact ⟨h, by first | rfl | rw [if_neg hc]⟩
theorem class3_range {c : Nat} (h : classZ (c : Int) = 3) : 48 ≤ c ∧ c ≤ 57 := by
  unfold classZ at h
  repeat' split at h
  all_goals omega
theorem fold_digit {c : Nat} (h : classZ (c : Int) = 3) : foldC c = c := by
  have := class3_range h
  unfold foldC
  rw [if_neg (by omega)]
theorem okN_fold {i c : Nat} (h : okN i c = true) : okN i (foldC c) = true ∧ foldC (foldC c) = foldC c ∧ [2, 3].contains (classZ (foldC c : Int)) = true := by
  unfold okN at h ⊢
  simp only [Bool.or_eq_true, Bool.and_eq_true, beq_iff_eq] at h
  rcases h with h | ⟨h, h2⟩
  · obtain ⟨h1, h2⟩ := fold_class h
    refine ⟨by rw [h1]; rfl, h2, by rw [h1]; rfl⟩
  · rw [fold_digit h]
    exact ⟨by simp only [Bool.or_eq_true, Bool.and_eq_true, beq_iff_eq]; exact .inr ⟨h, h2⟩, fold_digit h, by rw [h]; rfl⟩
/-- A name as Name hands it back is a name that is its own folding. -/
theorem name_fix (s T : ByteArray) (h : nameV s = (T, 0)) : nameV T = (T, 0) ∧ 0 < T.size ∧ (∀ c ∈ bytesU T, [2, 3].contains (classZ (c : Int)) = true) ∧ ∀ c l, bytesU T = c :: l → classZ (c : Int) = 2 := by
  unfold nameV at h
  by_cases h20 : 20 < s.size
  · rw [if_pos h20] at h; injection h with _ h; cases h
  rw [if_neg h20] at h
  by_cases hB : nameB s = false
  · rw [if_pos hB] at h; injection h with _ h; cases h
  rw [if_neg hB] at h
  injection h with h _
  subst h
  have hB := nameB_true.1 (by simpa using hB)
  have hb : bytesU (foldS s) = (bytesU s).map foldC := bytes_strN fun c hc => by
    obtain ⟨d, hd, rfl⟩ := List.mem_map.1 hc
    exact foldC_lt (bytesU_lt s d hd)
  have hz : (foldS s).size = s.size := by rw [← bytesU_len, hb, List.length_map, bytesU_len]
  have hN : ∀ i, i < s.size → byteN (foldS s) i = foldC (byteN s i) := fun i hi => by
    unfold byteN
    rw [hb, List.getD_eq_getElem?_getD, List.getD_eq_getElem?_getD, List.getElem?_map, List.getElem?_eq_getElem (by rw [bytesU_len]; exact hi)]
    rfl
  have hall : ∀ c ∈ bytesU s, ∃ i, i < s.size ∧ byteN s i = c := fun c hc => by
    obtain ⟨i, hi, rfl⟩ := List.getElem_of_mem hc
    refine ⟨i, by rw [bytesU_len] at hi; exact hi, ?_⟩
    unfold byteN
    rw [List.getD_eq_getElem?_getD, List.getElem?_eq_getElem hi]; rfl
  have hB2 : nameB (foldS s) = true := nameB_true.2 ⟨by rw [hz]; exact hB.1, fun i hi => by rw [hz] at hi; rw [hN i hi]; exact (okN_fold (hB.2 i hi)).1⟩
  have hff : foldS (foldS s) = foldS s := by
    have e : (bytesU (foldS s)).map foldC = bytesU (foldS s) := by
      rw [hb, List.map_map]
      refine List.map_congr_left fun c hc => ?_
      obtain ⟨i, hi, rfl⟩ := hall c hc
      exact (okN_fold (hB.2 i hi)).2.1
    show strN ((bytesU (foldS s)).map foldC) = _
    rw [e, strN_bytes]
  refine ⟨?_, by rw [hz]; exact hB.1, ?_, ?_⟩
  · unfold nameV
    rw [if_neg (by rw [hz]; exact h20), if_neg (by rw [hB2]; simp), hff]
  · intro c hc
    rw [hb] at hc
    obtain ⟨d, hd, rfl⟩ := List.mem_map.1 hc
    obtain ⟨i, hi, rfl⟩ := hall d hd
    exact (okN_fold (hB.2 i hi)).2.2
  · intro c l hc
    have h0 := (okN_fold (hB.2 0 hB.1)).1
    rw [← hN 0 hB.1] at h0
    have : byteN (foldS s) 0 = c := by unfold byteN; rw [hc]; rfl
    rw [this] at h0
    unfold okN at h0
    simpa using h0
theorem word_front (s T : ByteArray) (h : nameV s = (T, 0)) {t : List Nat} (ht : EndOk t) : frontR (bytesU T ++ t) = (⟨1, 0, T, 0⟩, T.size, 0) := by
  obtain ⟨hv, hpos, hall, hhd⟩ := name_fix s T h
  have hst := strN_bytes T
  have hlen := bytesU_len T
  rw [← hlen] at hpos ⊢
  generalize bytesU T = l at *
  have hsk : skipR [2, 3] (l ++ t) = l.length := skip_all [2, 3] rfl ht l hall
  have hw : wordR (l ++ t) = (⟨1, 0, T, 0⟩, l.length, 0) := by
    unfold wordR
    simp only [hsk, List.take_left, hst, hv, if_pos]
  cases l with
  | nil => simp at hpos
  | cons c l =>
    have hc2 := hhd c l rfl
    have h39 : ∀ r, l ++ t ≠ 39 :: r := by
      intro r hr
      cases l with
      | nil =>
        rcases ht with rfl | ⟨q, rfl⟩
        · cases hr
        · injection hr with hr _; cases hr
      | cons d l =>
        injection hr with hr _
        subst hr
        have := hall 39 (by simp)
        revert this; decide
    unfold frontR
    rw [hw]
    have hp : ([120, 39].isPrefixOf (c :: l ++ t) || [88, 39].isPrefixOf (c :: l ++ t)) = false := by
      cases hq : l ++ t with
      | nil => rw [List.cons_append, hq]; simp [List.isPrefixOf]
      | cons d q =>
        have hd : (39 : Nat) ≠ d := fun hd => h39 q (by rw [hq, hd])
        have hd2 : ((39 : Nat) == d) = false := by simpa using hd
        rw [List.cons_append, hq]; simp [List.isPrefixOf, hd2]
    rw [hp]
    have hh : ((c :: l ++ t).headD 128) = c := rfl
    simp only [hh, hc2]
    rfl
end Go.Proofs.YtbnddpicpomakaaGreatDoor

/- Mathematics of the reference's reader: its own way of finding ends comes to the model's. -/
set_option linter.unusedSimpArgs false
set_option linter.unusedVariables false
set_option maxRecDepth 100000
namespace Go.Proofs.YtbnddpicpomakaaGreatDoor
open Go.RowKit

theorem unq_err0 : (unquoteS (strN ([] : List Nat))).2 ≠ 0 := by decide +kernel
/-- Where the quote stands that ends the text, from a place behind its first quote on. -/
def clR : Nat → List Nat → Option Nat
  | _, [] => none
  | i, [c] => if c = 39 then some i else none
  | i, c :: d :: r => if c = 39 then (if d = 39 then clR (i + 2) r else some i) else clR (i + 1) (d :: r)
theorem clR_at {l : List Nat} {i : Nat} (h : i < l.length) : clR i (l.drop i) = if l[i] = 39 then (if h2 : i + 1 < l.length then (if l[i + 1] = 39 then clR (i + 2) (l.drop (i + 2)) else some i) else some i) else clR (i + 1) (l.drop (i + 1)) := by
  rw [List.drop_eq_getElem_cons h]
  by_cases h2 : i + 1 < l.length
  · rw [List.drop_eq_getElem_cons h2, clR, dif_pos h2]
  · rw [show l.drop (i + 1) = [] from List.drop_of_length_le (by omega), clR, dif_neg h2]; rfl
theorem clR_up : ∀ (n : Nat) (l : List Nat) (i j : Nat), l.length ≤ n → clR (i + j) l = (clR i l).map (· + j)
  | _, [], i, j, _ => rfl
  | _, [c], i, j, _ => by
    rw [clR, clR]; split <;> rfl
  | 0, _ :: _ :: _, i, j, h => by simp at h
  | n + 1, c :: d :: r, i, j, h => by
    simp only [List.length_cons] at h
    rw [clR, clR]
    split
    · split
      · rw [show i + j + 2 = i + 2 + j by omega, clR_up n r (i + 2) j (by omega)]
      · rfl
    · rw [show i + j + 1 = i + 1 + j by omega, clR_up n (d :: r) (i + 1) j (by simp only [List.length_cons]; omega)]
theorem clR_quo : ∀ (n : Nat) (l : List Nat) (i z : Nat), l.length ≤ n → (clR i l = none → (quoR true z i l).1 = true) ∧ (∀ k, clR i l = some k → quoR true z i l = (false, k + 1))
  | _, [], i, z, _ => ⟨fun _ => rfl, fun k h => (by cases h)⟩
  | _, [c], i, z, _ => by
    rw [clR, quoR]
    split
    · exact ⟨fun h => (by cases h), fun k h => (by cases h; rfl)⟩
    · exact ⟨fun h => rfl, fun k h => (by cases h)⟩
  | 0, _ :: _ :: _, i, z, h => by simp at h
  | n + 1, c :: d :: r, i, z, h => by
    simp only [List.length_cons] at h
    rw [clR, quoR]
    split
    · split
      · rename_i h2
        rw [quoR, if_pos h2]
        exact clR_quo n r (i + 2) _ (by omega)
      · rename_i h2
        rw [quoR, if_neg h2]
        exact ⟨fun h => (by cases h), fun k h => (by cases h; rfl)⟩
    · exact clR_quo n (d :: r) (i + 1) z (by simp only [List.length_cons]; omega)
/-- What stands between the quotes is doubled. -/
theorem clR_dbl : ∀ (n : Nat) (l : List Nat) (i k : Nat), l.length ≤ n → clR i l = some k → ∃ b r, l = dblN b ++ 39 :: r ∧ k = i + (dblN b).length
  | _, [], i, k, _, h => by cases h
  | _, [c], i, k, _, h => by
    rw [clR] at h
    split at h
    · rename_i hc; cases h; subst hc; exact ⟨[], [], rfl, rfl⟩
    · cases h
  | 0, _ :: _ :: _, i, k, hn, h => by simp at hn
  | n + 1, c :: d :: r, i, k, hn, h => by
    simp only [List.length_cons] at hn
    rw [clR] at h
    split at h
    · rename_i hc
      split at h
      · rename_i hd
        obtain ⟨b, r2, rfl, rfl⟩ := clR_dbl n r (i + 2) k (by omega) h
        refine ⟨39 :: b, r2, ?_, ?_⟩
        · rw [dblN, if_pos rfl, hc, hd]; rfl
        · rw [dblN, if_pos rfl]; simp only [List.length_cons]; omega
      · cases h
        exact ⟨[], d :: r, by rw [hc]; rfl, rfl⟩
    · rename_i hc
      obtain ⟨b, r2, hl, rfl⟩ := clR_dbl n (d :: r) (i + 1) k (by simp only [List.length_cons]; omega) h
      refine ⟨c :: b, r2, ?_, ?_⟩
      · rw [dblN, if_neg hc, hl]; rfl
      · rw [dblN, if_neg hc]; simp only [List.length_cons]; omega
theorem dblN_mem : ∀ (b : List Nat), ∀ c ∈ b, c ∈ dblN b
  | [], c, h => by cases h
  | d :: b, c, h => by
    rw [dblN]
    rcases List.mem_cons.1 h with rfl | h
    · split <;> simp_all
    · have := dblN_mem b c h
      split <;> simp [this]
theorem dblN_same : ∀ (b : List Nat), (∀ c ∈ b, c ≠ 39) → dblN b = b
  | [], _ => rfl
  | d :: b, h => by rw [dblN, if_neg (h d List.mem_cons_self), dblN_same b fun c hc => h c (List.mem_cons_of_mem _ hc)]

/-- A quoted string at the front. -/
theorem quot_none {m : List Nat} (h : clR 1 m = none) : quotR (39 :: m) = (zTk, 0, 40) := by
  have hz : quotesR (39 :: m) = 0 := by
    unfold quotesR
    rw [quoR, if_pos rfl]
    have := (clR_quo m.length m 1 (0 + 1) (Nat.le_refl _)).1 h
    rw [if_pos]; exact this
  simp only [quotR, hz, List.take_zero]
  rw [if_neg unq_err0]
theorem quot_some {m : List Nat} (h256 : ∀ c ∈ m, c < 256) {k : Nat} (h : clR 1 m = some k) : ∃ b r, m = dblN b ++ 39 :: r ∧ k = 1 + (dblN b).length ∧ (∀ c ∈ b, c < 256) ∧ unquoteS (strN ((39 :: m).take (k + 1))) = (strN b, 0) ∧ quotR (39 :: m) = (⟨3, 0, strN b, 0⟩, k + 1, 0) := by
  obtain ⟨b, r, hm, hk⟩ := clR_dbl m.length m 1 k (Nat.le_refl _) h
  have hb : ∀ c ∈ b, c < 256 := fun c hc => h256 c (by rw [hm]; exact List.mem_append_left _ (dblN_mem b c hc))
  have hz : quotesR (39 :: m) = k + 1 := by
    unfold quotesR
    rw [quoR, if_pos rfl]
    have := (clR_quo m.length m 1 (0 + 1) (Nat.le_refl _)).2 k h
    show (if (quoR true (0 + 1) (0 + 1) m).1 then 0 else (quoR true (0 + 1) (0 + 1) m).2) = _
    rw [this]; rfl
  have ht : (39 :: m).take (k + 1) = 39 :: (dblN b ++ [39]) := by
    rw [hm, List.take_succ_cons, hk]
    rw [show dblN b ++ 39 :: r = (dblN b ++ [39]) ++ r by simp, List.take_append_of_le_length (by simp; omega), List.take_of_length_le (by simp; omega)]
  have hq : unquoteS (strN ((39 :: m).take (k + 1))) = (strN b, 0) := by
    have e : strN ((39 :: m).take (k + 1)) = quoteS (strN b) := by
      rw [ht]
      have := quote_bytes (strN b)
      rw [bytes_strN hb] at this
      rw [← this, strN_bytes]
    rw [e]
    unfold unquoteS quoteS
    rw [baL_list, unquote_quote]
    simp only [Prod.mk.injEq, and_true]
    unfold baL; simp
  refine ⟨b, r, hm, hk, hb, hq, ?_⟩
  simp only [quotR, hz, hq]
  rfl

theorem unhex_mem : ∀ (n : Nat) (l r : List Nat), l.length ≤ n → unhexR l = some r → (∀ c ∈ l, c ≠ 39) ∧ l.length % 2 = 0
  | _, [], r, _, _ => ⟨fun c h => (by cases h), rfl⟩
  | _, [_], r, _, h => by cases h
  | 0, _ :: _ :: _, r, hn, _ => by simp at hn
  | n + 1, a :: b :: l, r, hn, h => by
    simp only [List.length_cons] at hn
    rw [unhexR] at h
    have hq : hexV 39 = none := rfl
    cases ha : hexV a with
    | none => rw [ha] at h; cases h
    | some x =>
      cases hb : hexV b with
      | none => rw [ha, hb] at h; cases h
      | some y =>
        cases hu : unhexR l with
        | none => rw [ha, hb, hu] at h; cases h
        | some t =>
          have ih := unhex_mem n l t (by omega) hu
          refine ⟨fun c hc => ?_, by have := ih.2; simp only [List.length_cons]; omega⟩
          rcases List.mem_cons.1 hc with rfl | hc
          · rintro rfl; rw [hq] at ha; cases ha
          rcases List.mem_cons.1 hc with rfl | hc
          · rintro rfl; rw [hq] at hb; cases hb
          · exact ih.1 c hc
theorem unhex_dbl (b : List Nat) : unhexR b = unhexR (dblN b) := by
  by_cases h : ∀ c ∈ b, c ≠ 39
  · rw [dblN_same b h]
  · have h1 : unhexR b = none := by
      cases hu : unhexR b with
      | none => rfl
      | some r => exact absurd (unhex_mem _ b r (Nat.le_refl _) hu).1 h
    have h2 : unhexR (dblN b) = none := by
      cases hu : unhexR (dblN b) with
      | none => rfl
      | some r => exact absurd (fun c hc => (unhex_mem _ (dblN b) r (Nat.le_refl _) hu).1 c (dblN_mem b c hc)) h
    rw [h1, h2]
/-- The digits between the quotes. -/
def bytR (m : List Nat) : Option (List Nat × Nat) := match clR 1 m with
  | none => none
  | some k => (unhexR (m.take (k - 1))).map fun b => (b, k + 1)
theorem blob_byt {x : Nat} {m : List Nat} (h256 : ∀ c ∈ m, c < 256) : blobR (x :: 39 :: m) = match bytR m with
    | none => (zTk, 0, 40)
    | some q => (⟨4, 0, strN q.1, 0⟩, 1 + q.2, 0) := by
  unfold bytR blobR
  rw [List.drop_succ_cons, List.drop_zero]
  cases h : clR 1 m with
  | none => rw [quot_none h]; rfl
  | some k =>
    obtain ⟨b, r, hm, hk, hb, _, hq⟩ := quot_some h256 h
    rw [hq]
    have ht : m.take (k - 1) = dblN b := by
      rw [hm, show k - 1 = (dblN b).length by omega, List.take_left]
    simp only [ht, ← unhex_dbl, bytes_strN hb, if_pos]
    cases unhexR b <;> rfl

/-- A number: no letter stands behind it. -/
theorem skip_more {l : List Nat} (h : skipR [3] l < skipR [3, 2] l) : classZ (((l.drop (skipR [3] l)).headD 128 : Nat) : Int) = 2 := by
  induction l with
  | nil => simp [skipR] at h
  | cons c l ih =>
    by_cases h3 : [3].contains (classZ (c : Int)) = true
    · have h32 : [3, 2].contains (classZ (c : Int)) = true := by simp at h3 ⊢; exact .inl h3
      rw [skipR, if_pos h3] at h ⊢
      rw [skipR, if_pos h32] at h
      rw [List.drop_succ_cons]
      exact ih (by omega)
    · rw [skipR, if_neg h3] at h ⊢
      rw [List.drop_zero, List.headD_cons]
      rw [skipR] at h
      split at h
      · rename_i h32
        simp at h3 h32
        rcases h32 with h32 | h32
        · exact absurd h32 h3
        · exact h32
      · omega
theorem skip_less {l : List Nat} (h : ¬ skipR [3] l < skipR [3, 2] l) : classZ (((l.drop (skipR [3] l)).headD 128 : Nat) : Int) ≠ 2 := by
  induction l with
  | nil => simp [skipR]; decide
  | cons c l ih =>
    by_cases h3 : [3].contains (classZ (c : Int)) = true
    · have h32 : [3, 2].contains (classZ (c : Int)) = true := by simp at h3 ⊢; exact .inl h3
      rw [skipR, if_pos h3] at h ⊢
      rw [skipR, if_pos h32] at h
      rw [List.drop_succ_cons]
      exact ih (by omega)
    · rw [skipR, if_neg h3] at h ⊢
      rw [List.drop_zero, List.headD_cons]
      intro h2
      apply h
      rw [skipR, if_pos (by simp; exact .inr h2)]
      omega

/-- Signs. -/
def twoL : List (List Nat) := [[60, 61], [62, 61], [60, 62], [124, 124]]
def oneL : List Nat := [40, 41, 44, 59, 46, 42, 43, 45, 47, 37, 61, 60, 62]
theorem signs_split : signsR = twoL ++ oneL.map (fun c => [c]) := rfl
/-- How many bytes the sign at the front has. -/
def sgnN (l : List Nat) : Nat := if twoL.any (fun x => x.isPrefixOf l) then 2 else if oneL.contains (l.headD 0) then 1 else 0
theorem sign_sgn {l : List Nat} (hl : l ≠ []) (h256 : ∀ c ∈ l, c < 256) : signR l = if sgnN l = 0 then (zTk, 0, 40) else (⟨5, 0, strN (l.take (sgnN l)), 0⟩, sgnN l, 0) := by
  unfold signR sgnN
  rw [signs_split, List.find?_append]
  cases h2 : twoL.find? (fun x => x.isPrefixOf l) with
  | some x =>
    have h3 := List.find?_some h2
    have h4 := List.mem_of_find?_eq_some h2
    have hx : x.length = 2 := by
      have : ∀ y ∈ twoL, y.length = 2 := by decide
      exact this x h4
    have hany : twoL.any (fun x => x.isPrefixOf l) = true := List.any_eq_true.2 ⟨x, h4, h3⟩
    rw [if_pos hany]
    have hp := List.isPrefixOf_iff_prefix.1 h3
    obtain ⟨t, rfl⟩ := hp
    simp only [Option.some_or, hx]
    rw [if_neg (by decide), ← hx, List.take_left]
  | none =>
    have hany : twoL.any (fun x => x.isPrefixOf l) = false := by
      rw [Bool.eq_false_iff]
      intro h
      obtain ⟨x, hx, hp⟩ := List.any_eq_true.1 h
      have := List.find?_eq_none.1 h2 x hx
      exact this hp
    rw [hany]
    simp only [Option.none_or, Bool.false_eq_true, if_false]
    cases l with
    | nil => exact absurd rfl hl
    | cons c r =>
      rw [List.headD_cons]
      cases hf : (oneL.map (fun c => [c])).find? (fun x => x.isPrefixOf (c :: r)) with
      | some x =>
        have h3 := List.find?_some hf
        have h4 := List.mem_of_find?_eq_some hf
        obtain ⟨d, hd, rfl⟩ := List.mem_map.1 h4
        have hdc : d = c := by simpa [List.isPrefixOf] using h3
        subst hdc
        rw [if_pos (show oneL.contains d = true by simpa using hd)]
        rfl
      | none =>
        have : oneL.contains c = false := by
          rw [Bool.eq_false_iff]
          intro h
          have hm : c ∈ oneL := by simpa using h
          have := List.find?_eq_none.1 hf [c] (List.mem_map.2 ⟨c, hm, rfl⟩)
          apply this
          simp [List.isPrefixOf]
        rw [this]
        rfl
end Go.Proofs.YtbnddpicpomakaaGreatDoor

/- The walks of the reference's class, closing, digit and bytes (layer 19). -/
set_option linter.unusedSimpArgs false
set_option linter.unusedVariables false
set_option maxRecDepth 100000
namespace Go.Proofs.YtbnddpicpomakaaGreatDoor
open Go.RowKit

theorem drewN_bel {B : Nat} {a w : World} (h : Below B a w) (n : Nat) : Below B a (w.drewN n) := h.trans ⟨rfl, rfl, rfl, Nat.le_refl _, fun _ _ => rfl⟩
def clsR (l : List Nat) : Int := classZ ((l.headD 128 : Nat) : Int)
theorem bytesU_get (s : ByteArray) (k : Nat) (h : k < s.size) : (bytesU s)[k]'(by rw [bytesU_len]; exact h) = (s[k]'h).toNat := by simp [bytesU]; rfl
theorem cls_lt (s : ByteArray) (p : Nat) (h : p < s.size) : clsR ((bytesU s).drop p) = classZ ((s[p]'h).toNat : Int) := by
  unfold clsR
  rw [List.drop_eq_getElem_cons (by rw [bytesU_len]; exact h), List.headD_cons, bytesU_get s p h]
theorem cls_ge (s : ByteArray) (p : Nat) (h : ¬ p < s.size) : clsR ((bytesU s).drop p) = 0 := by
  unfold clsR
  rw [List.drop_of_length_le (by rw [bytesU_len]; omega)]
  exact class_high (by simp)

set_option maxHeartbeats 1000000 in
theorem rCls_any (s : ByteArray) (p : Nat) (w : World) (hs : s.size ≤ 1000000) (hp : p ≤ 1000000) :
    Calls Tryz.prog 33 #[.string s, .int .i64 (p : Int)] w fun e w' => e = .returned (.int .i64 (clsR ((bytesU s).drop p))) ∧ w = w' := by
  by_cases h : p < s.size
  · have hv := Lib.hid (cls_lt s p h)
    have q1 : decide ((s.size : Int) ≤ (p : Int)) = false := by simp; omega
    have h256 := (s[p]'h).toNat_lt
    have HC := Lib.hid (fun W => rClass_any ((s[p]'h).toNat : Int) W)
    generalize clsR ((bytesU s).drop p) = R at *
    go_enter Tryz.func33, Tryz.ntmps33
    go_wp2_with fail
    refine (HC.out _).mono ?_
    rintro e w1 ⟨rfl, rfl⟩
    go_wp2
    go_ret
    exact ⟨by rw [hv.out]; rfl, rfl⟩
  · have hv := Lib.hid (cls_ge s p h)
    have q1 : decide ((s.size : Int) ≤ (p : Int)) = true := by simp; omega
    generalize clsR ((bytesU s).drop p) = R at *
    go_enter Tryz.func33, Tryz.ntmps33
    go_wp2
    go_ret
    exact ⟨by rw [hv.out]; rfl, rfl⟩

def clZ (l : List Nat) (p : Nat) : Int := match clR (p + 1) (l.drop (p + 1)) with
  | none => -1
  | some k => (k : Int)
set_option maxHeartbeats 2000000 in
theorem rClosing_any (s : ByteArray) (p : Nat) (w : World) (hs : s.size ≤ 1000000) (hp : p < s.size) :
    Calls Tryz.prog 63 #[.string s, .int .i64 (p : Int)] w fun e w' => e = .returned (.int .i64 (clZ (bytesU s) p)) ∧ w = w' := by
  obtain ⟨R, hR⟩ : ∃ R, clZ (bytesU s) p = R := ⟨_, rfl⟩
  have HZ : Hid (R = match clR (p + 1) ((bytesU s).drop (p + 1)) with
    | none => -1
    | some k => (k : Int)) := hR.symm
  rw [hR]
  clear hR
  go_enter Tryz.func63, Tryz.ntmps63
  go_wp2
  go_loopw [5] (fun i wr => ∃ k : Nat, k ≤ s.size ∧ i = .int .i64 (k : Int) ∧ Hid (clR (p + 1) ((bytesU s).drop (p + 1)) = clR k ((bytesU s).drop k)) ∧ w = wr) (fun i _ => s.size - (intOf i).toNat)
  case atStart => exact ⟨p + 1, by omega, by go_num, rfl, rfl⟩
  case round =>
    obtain ⟨k, hk, rfl, HI, rfl⟩ := hrel
    by_cases hlt : k < s.size
    · have hm := clR_at (l := bytesU s) (i := k) (by rw [bytesU_len]; exact hlt)
      rw [bytesU_get s k hlt] at hm
      have hc256 := (s[k]'hlt).toNat_lt
      by_cases h39 : (s[k]'hlt).toNat = 39
      · have q39 : (((s[k]'hlt).toNat : Int) != 39) = false := by rw [h39]; rfl
        rw [if_pos h39] at hm
        by_cases h2 : k + 1 < s.size
        · rw [dif_pos (by rw [bytesU_len]; exact h2), bytesU_get s (k + 1) h2] at hm
          have hd256 := (s[k + 1]'h2).toNat_lt
          have q2 : decide (((k : Int) + 1) < (s.size : Int)) = true := by simp; omega
          by_cases h392 : (s[k + 1]'h2).toNat = 39
          · rw [if_pos h392] at hm
            have q3 : (((s[k + 1]'h2).toNat : Int) == 39) = true := by rw [h392]; rfl
            have HI2 : Hid (clR (p + 1) ((bytesU s).drop (p + 1)) = clR (k + 2) ((bytesU s).drop (k + 2))) := HI.out.trans hm
            clear HI hm
            go_wp2
            go_roundw
            case rel => exact ⟨k + 2, by omega, by go_num, HI2, trivial⟩
            case measure => simp [intOf]; omega
          · rw [if_neg h392] at hm
            have q3 : (((s[k + 1]'h2).toNat : Int) == 39) = false := by simp; omega
            have HV : Hid (R = (k : Int)) := by show _ = _; rw [HZ.out, HI.out, hm]
            clear HI hm HZ
            go_wp2
            go_ret
            exact ⟨by rw [HV.out]; rfl, rfl⟩
        · rw [dif_neg (by rw [bytesU_len]; exact h2)] at hm
          have q2 : decide (((k : Int) + 1) < (s.size : Int)) = false := by simp; omega
          have HV : Hid (R = (k : Int)) := by show _ = _; rw [HZ.out, HI.out, hm]
          clear HI hm HZ
          go_wp2
          go_ret
          exact ⟨by rw [HV.out]; rfl, rfl⟩
      · have q39 : (((s[k]'hlt).toNat : Int) != 39) = true := by simp; omega
        rw [if_neg h39] at hm
        have HI2 : Hid (clR (p + 1) ((bytesU s).drop (p + 1)) = clR (k + 1) ((bytesU s).drop (k + 1))) := HI.out.trans hm
        clear HI hm
        go_wp2
        go_roundw
        case rel => exact ⟨k + 1, by omega, by go_num, HI2, trivial⟩
        case measure => simp [intOf]; omega
    · have HV : Hid (R = -1) := by
        show _ = _
        rw [HZ.out, HI.out, List.drop_of_length_le (by rw [bytesU_len]; omega)]; rfl
      have q0 : decide ((k : Int) < (s.size : Int)) = false := by simp; omega
      clear HI HZ
      go_wp2
      go_ret
      exact ⟨by rw [HV.out]; rfl, rfl⟩

def hexZ (c : Nat) : Int := match hexV c with
  | none => -1
  | some x => (x : Int)
set_option maxHeartbeats 1000000 in
theorem rDigit_any (c : Nat) (w : World) (hc : c < 256) :
    Calls Tryz.prog 99 #[.int .u8 (c : Int)] w fun e w' => e = .returned (.int .i64 (hexZ c)) ∧ w = w' := by
  by_cases h1 : 48 ≤ c ∧ c ≤ 57
  · have HV : Hid (hexZ c = (c : Int) - 48) := by show _ = _; unfold hexZ hexV; rw [if_pos h1]; simp only; omega
    obtain ⟨a1, a2⟩ := h1
    generalize hexZ c = R at *
    go_enter Tryz.func99, Tryz.ntmps99
    go_wp2
    go_ret
    exact ⟨by rw [HV.out]; first | rfl | go_num, rfl⟩
  by_cases h2 : 97 ≤ c ∧ c ≤ 102
  · have HV : Hid (hexZ c = (c : Int) - 87) := by show _ = _; unfold hexZ hexV; rw [if_neg h1, if_pos h2]; simp only; omega
    obtain ⟨a1, a2⟩ := h2
    generalize hexZ c = R at *
    clear h1
    have q1 : decide ((48 : Int) ≤ (c : Int)) = true := by simp; omega
    have q2 : decide ((c : Int) ≤ 57) = false := by simp; omega
    go_enter Tryz.func99, Tryz.ntmps99
    go_wp2
    go_ret
    exact ⟨by rw [HV.out]; first | rfl | go_num, rfl⟩
  by_cases h3 : 65 ≤ c ∧ c ≤ 70
  · have HV : Hid (hexZ c = (c : Int) - 55) := by show _ = _; unfold hexZ hexV; rw [if_neg h1, if_neg h2, if_pos h3]; simp only; omega
    obtain ⟨a1, a2⟩ := h3
    generalize hexZ c = R at *
    clear h1 h2
    have q1 : decide ((48 : Int) ≤ (c : Int)) = true := by simp; omega
    have q2 : decide ((c : Int) ≤ 57) = false := by simp; omega
    have q3 : decide ((97 : Int) ≤ (c : Int)) = false := by simp; omega
    go_enter Tryz.func99, Tryz.ntmps99
    go_wp2
    go_ret
    exact ⟨by rw [HV.out]; first | rfl | go_num, rfl⟩
  · have HV : Hid (hexZ c = -1) := by show _ = _; unfold hexZ hexV; rw [if_neg h1, if_neg h2, if_neg h3]
    generalize hexZ c = R at *
    obtain ⟨b1, hb1⟩ : ∃ b, decide ((48 : Int) ≤ (c : Int)) = b := ⟨_, rfl⟩
    obtain ⟨b2, hb2⟩ : ∃ b, decide ((c : Int) ≤ 57) = b := ⟨_, rfl⟩
    obtain ⟨b3, hb3⟩ : ∃ b, decide ((97 : Int) ≤ (c : Int)) = b := ⟨_, rfl⟩
    obtain ⟨b4, hb4⟩ : ∃ b, decide ((c : Int) ≤ 102) = b := ⟨_, rfl⟩
    obtain ⟨b5, hb5⟩ : ∃ b, decide ((65 : Int) ≤ (c : Int)) = b := ⟨_, rfl⟩
    obtain ⟨b6, hb6⟩ : ∃ b, decide ((c : Int) ≤ 70) = b := ⟨_, rfl⟩
    have g1 : (b1 && b2) = false := by rw [← hb1, ← hb2]; simp; omega
    have g2 : (b3 && b4) = false := by rw [← hb3, ← hb4]; simp; omega
    have g3 : (b5 && b6) = false := by rw [← hb5, ← hb6]; simp; omega
    clear h1 h2 h3
    cases b1 <;> cases b2 <;> first | (cases g1; done) | skip
    all_goals cases b3 <;> cases b4 <;> first | (cases g2; done) | skip
    all_goals cases b5 <;> cases b6 <;> first | (cases g3; done) | skip
    all_goals
      clear g1 g2 g3
      go_enter Tryz.func99, Tryz.ntmps99
      go_wp2
      go_ret
      exact ⟨by rw [HV.out]; rfl, rfl⟩
end Go.Proofs.YtbnddpicpomakaaGreatDoor
