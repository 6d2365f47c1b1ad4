/- Several texts of one proof, one behind the other. -/
import Derived.Test.YtbnddpicpomakaaGreatDoorKPk7
import Derived.OpenShut
import Derived.Lib.SmallJoins
import Derived.Shelf.Strings.OnBuilder
set_option linter.unusedSimpArgs false
set_option linter.unusedVariables false

/- The walk of token.Read. -/
set_option linter.unusedSimpArgs false
set_option linter.unusedVariables false
set_option maxRecDepth 100000
namespace Go.Proofs.YtbnddpicpomakaaGreatDoor
open Go.RowKit

/-- Each token has a byte at least, and no more than there are. -/
theorem skipR_pos {ks : List Int} {l : List Nat} (h : ks.contains (classZ ((l.headD 128 : Nat) : Int)) = true) (h0 : ks.contains 0 = false) : 1 ≤ skipR ks l := by
  cases l with
  | nil =>
    have e : classZ ((128 : Nat) : Int) = 0 := class_high (by omega)
    simp only [List.headD_nil] at h
    rw [e, h0] at h; cases h
  | cons c r =>
    simp only [List.headD_cons] at h
    rw [skipR, if_pos h]; omega
theorem unq_err : (unquoteS (strN [])).2 ≠ 0 := by decide +kernel
theorem quot_pos {l : List Nat} (h : (quotR l).2.2 = 0) : 1 ≤ (quotR l).2.1 := by
  simp only [quotR] at h ⊢
  split at h
  · rename_i h2
    rw [if_pos h2]
    simp only
    by_cases hz : quotesR l = 0
    · rw [hz, List.take_zero] at h2
      exact absurd h2 unq_err
    · omega
  · simp at h
theorem sgn_mem {l x : List Nat} (h : signsR.find? (fun x => x.isPrefixOf l) = some x) : 1 ≤ x.length ∧ x.length ≤ l.length := by
  have h1 := List.find?_some h
  have h2 := List.mem_of_find?_eq_some h
  refine ⟨?_, (List.isPrefixOf_iff_prefix.1 (by simpa using h1)).length_le⟩
  have : ∀ y ∈ signsR, 1 ≤ y.length := by decide
  exact this x h2
theorem pre_len {p l : List Nat} (h : p.isPrefixOf l = true) : p.length ≤ l.length := (List.isPrefixOf_iff_prefix.1 h).length_le
theorem front_size {l : List Nat} (h : (frontR l).2.2 = 0) : 1 ≤ (frontR l).2.1 ∧ (frontR l).2.1 ≤ l.length := by
  unfold frontR at h ⊢
  split at h
  · rename_i hp
    rw [if_pos hp]
    rw [blobR_eq] at h ⊢
    have hl : 2 ≤ l.length := by
      rw [Bool.or_eq_true] at hp
      rcases hp with hp | hp <;> exact pre_len hp
    split at h
    · rename_i hq
      rw [if_pos hq]
      split at h
      · rename_i hu
        rw [if_pos hu]
        have := (quotR_tx (l.drop 1)).2
        rw [List.length_drop] at this
        simp only; omega
      · simp at h
    · rename_i hq
      exact absurd h hq
  · rename_i hp
    rw [if_neg hp]
    simp only at h ⊢
    split at h
    · rename_i hc
      rw [if_pos hc]
      have h1 := skipR_le [2, 3] l
      have h2 : 1 ≤ skipR [2, 3] l := skipR_pos (by rw [hc]; decide) (by decide)
      simp only [wordR] at h ⊢
      split at h
      · rename_i h3; rw [if_pos h3]; exact ⟨h2, h1⟩
      · simp at h
    · rename_i hc2
      rw [if_neg hc2]
      split at h
      · rename_i hc
        rw [if_pos hc]
        have h1 := skipR_le [3] l
        have h2 : 1 ≤ skipR [3] l := skipR_pos (by rw [hc]; decide) (by decide)
        simp only [numR] at h ⊢
        split at h
        · simp at h
        · rename_i h3
          rw [if_neg h3]
          split at h
          · rename_i h4; rw [if_pos h4]; exact ⟨h2, h1⟩
          · rename_i h4; exact absurd h h4
      · rename_i hc3
        rw [if_neg hc3]
        split at h
        · rename_i hc
          rw [if_pos hc]
          exact ⟨quot_pos h, (quotR_tx l).2⟩
        · rename_i hc4
          rw [if_neg hc4]
          unfold signR at h ⊢
          cases hf : signsR.find? (fun x => x.isPrefixOf l) with
          | none => rw [hf] at h; simp at h
          | some x => simp only; exact sgn_mem hf

/-- What Read hands back. -/
def RetRd19 (v : List Tk × Nat × Int) (w : World) (e : Ending) (w' : World) : Prop :=
  ∃ (a : Option Addr) (cap : Nat), e = .returned (.tuple #[.slice a v.1.length cap, .agg #[.int .i64 (v.2.1 : Int), .int .i64 v.2.2]]) ∧ v.1.length ≤ cap ∧ cap ≤ 9223372036854775807 ∧ Arr w'.heap.size w' a (cellsTk v.1) ∧ Below w.heap.size w w'
theorem info_ftS : (Tryz.prog.info? 26).map (·.size) = some 2 := by kernel_rfl
theorem info_tk : (Tryz.prog.info? 36).map (fun i => (i.zero, i.size, i.bytes)) = some (some (.agg #[.int .i64 0, .int .i64 0, .string ⟨#[]⟩, .int .i64 0]), 4, 40) := by kernel_rfl
theorem results_tmp_cell {P : Program} {fn : Func} {p t : Tmp} {ty : TypeId} (h : fn.results = #[.tmp t, .cell p ty]) (tmps : Array Value) (w : World) {ad : Addr} {v u : Value}
    (hp : tmps.getD p undef = .pointer (some ad)) (ht : tmps.getD t undef = u) (hl : (loadVar ty ad).run P w = .ok v w) : (results fn tmps).run P w = .ok (.tuple #[u, v]) w := by
  have hp' : tmps[p]?.getD undef = .pointer (some ad) := by simpa using hp
  have ht' : tmps[t]?.getD undef = u := by simpa using ht
  simp [results, h, hp', ht', asAddr, hl]
/-- The end: a fault is stored in the result's cell. -/
theorem ft_end {w W : World} (p q : Int) (hB : Blk W w.heap.size 26 #[.int .i64 0, .int .i64 0]) (hb : Below w.heap.size w W) :
    (storeVar 26 ⟨w.heap.size, 0, none⟩ (.agg #[.int .i64 p, .int .i64 q])).run Tryz.prog W = .ok () (W.setRow w.heap.size #[.int .i64 p, .int .i64 q]) ∧ (loadVar 26 ⟨w.heap.size, 0, none⟩).run Tryz.prog (W.setRow w.heap.size #[.int .i64 p, .int .i64 q]) = .ok (.agg #[.int .i64 p, .int .i64 q]) (W.setRow w.heap.size #[.int .i64 p, .int .i64 q]) ∧ Below w.heap.size w (W.setRow w.heap.size #[.int .i64 p, .int .i64 q]) ∧ Chg [w.heap.size] W (W.setRow w.heap.size #[.int .i64 p, .int .i64 q]) := by
  have hc : Chg [w.heap.size] W (W.setRow w.heap.size #[.int .i64 p, .int .i64 q]) := (Chg.refl _ _).setRow (.inl (by simp)) _
  exact ⟨run_storeVar_row _ _ _ 26 _ _ hB (by rw [info_ftS]; rfl) rfl (by simp [Value.oneCell']), run_loadVar_row _ _ _ 26 _ (0, 0) _ (Blk.setRow (new := #[.int .i64 p, .int .i64 q]) hB) Tryz.underlying26 rfl (by rw [info_ftS]; rfl), hb.trans (hc.below hb.size (by simp)), hc⟩
theorem readR_end {l : List Nat} {at_ n : Nat} (h : ¬ at_ < l.length) : readR l n at_ = ([], at_, 0) := by
  cases n with
  | zero => rfl
  | succ n => rw [readR, if_neg h]

set_option maxHeartbeats 8000000 in
theorem tkRead_any (s : ByteArray) (w : World) (hT : Pre6 w) (hs : s.size ≤ 140737488351232) : Calls Tryz.prog 7 #[.string s] w (RetRd19 (readV19 s) w) := by
  obtain ⟨w0, hw0⟩ : ∃ w0, w.alloc (.cells #[.int .i64 0, .int .i64 0] 26) = w0 := ⟨_, rfl⟩
  have hZ0 : Blk (w.alloc (.cells #[.int .i64 0, .int .i64 0] 26)) w.heap.size 26 #[.int .i64 0, .int .i64 0] := Blk.new w _ _
  rw [hw0] at hZ0
  have HZ0 := Lib.hid hZ0
  have HB0 : Hid (Below w.heap.size w w0) := by rw [← hw0]; exact (Below.refl _ w).alloc (Nat.le_refl _) _
  have hlt0 : w.heap.size < w0.heap.size := by rw [← hw0]; simp
  have HL0 : Hid (w.heap.size < w0.heap.size) := hlt0
  clear hZ0 hlt0
  by_cases hbig : 4096 < s.size
  · have q1 : decide ((4096 : Int) < (s.size : Int)) = true := by simp; omega
    have HV : Hid (readV19 s = ([], 0, 2)) := by simp only [readV19, if_pos hbig, Hid]
    clear hbig
    go_enter Tryz.func7, Tryz.ntmps7
    obtain ⟨s1, s2, s3, s4⟩ := ft_end (w := w) (W := w0) 0 2 HZ0.out HB0.out
    have S1 := Lib.hid s1
    have S2 := Lib.hid s2
    have S3 := Lib.hid s3
    clear s1 s2 s3 s4
    go_wp2_with (first | (guard_target =~ wpList _ _ _ (Oper.mk _ (Op.store 26 _ _) _ _ _ _ :: _) _ _; refine wpList_skp rfl (exec_store rfl rfl rfl S1.out) ?_))
    refine bodyPost_ret (results_tmp_cell Tryz.results7 _ _ rfl rfl S2.out) rfl ?_
    unfold RetRd19
    rw [HV.out]
    exact ⟨none, 0, rfl, Nat.le_refl _, by decide, .inl rfl, S3.out⟩
  have q1 : decide ((4096 : Int) < (s.size : Int)) = false := by simp; omega
  have HRt := Lib.hid (fun W (hb : Below w.heap.size w W) => Right_any s W (by omega) (hT.below hb).tabs)
  have hV0 : readV19 s = if (decS (bytesU s)).isSome = false then ([], 0, 3) else (if (readR (bytesU s) (s.size + 1) (skipR [1] (bytesU s))).2.2 = 0 then ((readR (bytesU s) (s.size + 1) (skipR [1] (bytesU s))).1 ++ [⟨0, (readR (bytesU s) (s.size + 1) (skipR [1] (bytesU s))).2.1, ⟨#[]⟩, 0⟩], 0, 0) else ([], (readR (bytesU s) (s.size + 1) (skipR [1] (bytesU s))).2.1, (readR (bytesU s) (s.size + 1) (skipR [1] (bytesU s))).2.2)) := by
    simp only [readV19, if_neg hbig]
  generalize (decS (bytesU s)).isSome = rt at *
  cases rt with
  | false =>
    rw [if_pos rfl] at hV0
    have HV := Lib.hid hV0
    clear hV0 hbig hT
    go_enter Tryz.func7, Tryz.ntmps7
    go_wp2_with fail
    refine (HRt.out w0 HB0.out).mono ?_
    rintro e w1 ⟨rfl, hb1⟩
    have HB1 := Lib.hid (HB0.out.trans (hb1.mono HB0.out.size))
    have HZ1 : Hid (Blk w1 w.heap.size 26 #[.int .i64 0, .int .i64 0]) := (hb1.block _ HL0.out).trans HZ0.out
    clear hb1
    obtain ⟨s1, s2, s3, s4⟩ := ft_end (w := w) (W := w1) 0 3 HZ1.out HB1.out
    have S1 := Lib.hid s1
    have S2 := Lib.hid s2
    have S3 := Lib.hid s3
    clear s1 s2 s3 s4
    go_wp2_with (first | (guard_target =~ wpList _ _ _ (Oper.mk _ (Op.store 26 _ _) _ _ _ _ :: _) _ _; refine wpList_skp rfl (exec_store rfl rfl rfl S1.out) ?_))
    refine bodyPost_ret (results_tmp_cell Tryz.results7 _ _ rfl rfl S2.out) rfl ?_
    unfold RetRd19
    rw [HV.out]
    exact ⟨none, 0, rfl, Nat.le_refl _, by decide, .inl rfl, S3.out⟩
  | true =>
    rw [if_neg (by decide)] at hV0
    have hs4 : s.size ≤ 4096 := by omega
    have HF := Lib.hid (fun (p : Nat) (hp : p < s.size) W (hb : Below w.heap.size w W) => tkFront_any (s.extract p s.size) W (hT.below hb) (by have := ext_size s p; omega) (by have := congrArg List.length (bytes_ext s p); rw [bytesU_len, List.length_drop, bytesU_len] at this; omega))
    have HRu0 : Hid (∀ W : World, Calls Tryz.prog 30 #[.string s, .slice (some ⟨W.heap.size, 0, none⟩) 1 1] (W.alloc (.cells #[.int .i64 1] 3)) fun e w' => e = .returned (.int .i64 (skipR [1] (bytesU s) : Int)) ∧ Below W.heap.size W w') := fun W => runNew s [1] (by omega) (by decide) (by decide) W
    have HRu : Hid (∀ (p : Nat) (W : World), Calls Tryz.prog 30 #[.string (s.extract p s.size), .slice (some ⟨W.heap.size, 0, none⟩) 1 1] (W.alloc (.cells #[.int .i64 1] 3)) fun e w' => e = .returned (.int .i64 (skipR [1] ((bytesU s).drop p) : Int)) ∧ Below W.heap.size W w') := fun p W => by
      have := runNew (s.extract p s.size) [1] (by have := ext_size s p; omega) (by decide) (by decide) W
      rw [bytes_ext] at this; exact this
    have hbl := bytesU_len s
    have hsk := skipR_le [1] (bytesU s)
    have HSk := Lib.hid (fun p => skipR_le [1] ((bytesU s).drop p))
    have HFs := Lib.hid (fun p => front_size (l := (bytesU s).drop p))
    have HFx : Hid (∀ (p : Nat), p < s.size → ∀ W, Below w.heap.size w W → Calls Tryz.prog 31 #[.string (s.extract p s.size)] W (RetF (frontR ((bytesU s).drop p)) W)) := fun p hp W hb => by
      have := HF.out p hp W hb
      rw [bytes_ext] at this; exact this
    have HRn : Hid (∀ n p, p < s.size → readR (bytesU s) (n + 1) p = if (frontR ((bytesU s).drop p)).2.2 = 0 then (⟨(frontR ((bytesU s).drop p)).1.kd, p, (frontR ((bytesU s).drop p)).1.tx, (frontR ((bytesU s).drop p)).1.n⟩ :: (readR (bytesU s) n (p + (frontR ((bytesU s).drop p)).2.1 + skipR [1] ((bytesU s).drop (p + (frontR ((bytesU s).drop p)).2.1)))).1, (readR (bytesU s) n (p + (frontR ((bytesU s).drop p)).2.1 + skipR [1] ((bytesU s).drop (p + (frontR ((bytesU s).drop p)).2.1)))).2) else ([], p, (frontR ((bytesU s).drop p)).2.2)) := fun n p hp => by
      rw [readR, if_pos (by rw [hbl]; exact hp)]
    have HRe : Hid (∀ n p, ¬ p < s.size → readR (bytesU s) n p = ([], p, 0)) := fun n p hp => readR_end (by rw [hbl]; exact hp)
    rw [hbl] at hsk
    obtain ⟨full, hfull⟩ : ∃ r, readR (bytesU s) (s.size + 1) (skipR [1] (bytesU s)) = r := ⟨_, rfl⟩
    rw [hfull] at hV0
    have HFu := Lib.hid hfull
    have HV := Lib.hid hV0
    have HSl : Hid (∀ p, ((bytesU s).drop p).length = s.size - p) := fun p => by rw [List.length_drop, hbl]
    obtain ⟨i0, hi, hz0, hz1, hz2⟩ := info_parts info_tk
    generalize bytesU s = l at *
    generalize skipR [1] l = a0 at *
    clear hT hbig hV0 hbl hfull HF
    go_enter Tryz.func7, Tryz.ntmps7
    go_wp2_with fail
    refine (HRt.out w0 HB0.out).mono ?_
    rintro e w1 ⟨rfl, hb1⟩
    have HB1 := Lib.hid (HB0.out.trans (hb1.mono HB0.out.size))
    have HZ1 : Hid (Blk w1 w.heap.size 26 #[.int .i64 0, .int .i64 0]) := (hb1.block _ HL0.out).trans HZ0.out
    have HL1 : Hid (w.heap.size < w1.heap.size) := Nat.lt_of_lt_of_le HL0.out hb1.size
    clear hb1
    go_wp2_with fail
    refine (HRu0.out w1).mono ?_
    rintro e w2 ⟨rfl, hb2⟩
    have HB2 := Lib.hid (HB1.out.trans (hb2.mono HB1.out.size))
    have HZ2 : Hid (Blk w2 w.heap.size 26 #[.int .i64 0, .int .i64 0]) := (hb2.block _ HL1.out).trans HZ1.out
    have HL2 : Hid (w.heap.size < w2.heap.size) := Nat.lt_of_lt_of_le HL1.out hb2.size
    clear hb2
    go_wp2
    go_loopw [4, 5] (fun v i wr => ∃ (n p : Nat) (acc : List Tk) (cv : Value), cv = v ∧ i = .int .i64 (p : Int) ∧ p ≤ s.size ∧ s.size < p + n ∧ acc.length ≤ p ∧ Hid (wr.ownsRow w2.heap.size 36 4 cv acc.length (cellsTk acc)) ∧ Hid (full = (acc ++ (readR l n p).1, (readR l n p).2)) ∧ Hid (Below w2.heap.size w2 wr)) (fun _ i _ => s.size - (intOf i).toNat)
    case atStart => exact ⟨s.size + 1, a0, [], _, rfl, rfl, by omega, by omega, Nat.zero_le _, World.ownsRow_nil _ _ _ _, by show _ = _; rw [HFu.out]; rfl, Below.refl _ _⟩
    case round =>
      obtain ⟨n, p, acc, cv, rfl, rfl, hp, hn, hac, HO, HI, HBr⟩ := hrel
      have HBw := Lib.hid (HB2.out.trans (HBr.out.mono HB2.out.size))
      have HZr : Hid (Blk wr w.heap.size 26 #[.int .i64 0, .int .i64 0]) := (HBr.out.block _ HL2.out).trans HZ2.out
      have HLr : Hid (w.heap.size < wr.heap.size) := Nat.lt_of_lt_of_le HL2.out HBr.out.size
      by_cases hlt : p < s.size
      · have qp : (p : Int) ≤ (s.size : Int) := by omega
        obtain ⟨n, rfl⟩ : ∃ m, n = m + 1 := ⟨n - 1, by omega⟩
        have hI2 := HI.out
        rw [HRn.out n p hlt] at hI2
        have HY := Lib.hid (HFx.out p hlt wr HBw.out)
        have hsz := HFs.out p
        rw [HSl.out] at hsz
        obtain ⟨⟨⟨kd, at_, tx, nn⟩, z, er⟩, hfr⟩ : ∃ r, frontR (l.drop p) = r := ⟨_, rfl⟩
        rw [hfr] at HY hI2 hsz
        simp only at hI2 hsz
        unfold RetF at HY
        simp only [Tk.cs] at HY
        have HI2 := Lib.hid hI2
        clear hI2 hfr HI
        go_wp2_with fail
        refine HY.out.mono ?_
        rintro e w3 ⟨rfl, hb3⟩
        have HB3 := Lib.hid (HBr.out.trans (hb3.mono HBr.out.size))
        have HZ3 : Hid (Blk w3 w.heap.size 26 #[.int .i64 0, .int .i64 0]) := (hb3.block _ HLr.out).trans HZr.out
        have HL3 : Hid (w.heap.size < w3.heap.size) := Nat.lt_of_lt_of_le HLr.out hb3.size
        have HO3 : Hid (w3.ownsRow w2.heap.size 36 4 cv acc.length (cellsTk acc)) := own_below HO.out (Nat.le_refl _) hb3
        clear hb3 HY HO
        have hbA : Below w3.heap.size w3 (w3.alloc (.cells #[.int .i64 kd, .int .i64 at_, .string tx, .int .i64 nn] 36)) := (Below.refl _ w3).alloc (Nat.le_refl _) _
        have hbx : Blk (w3.alloc (.cells #[.int .i64 kd, .int .i64 at_, .string tx, .int .i64 nn] 36)) w3.heap.size 36 #[.int .i64 kd, .int .i64 at_, .string tx, .int .i64 nn] := Blk.new w3 _ _
        obtain ⟨w4, hw4⟩ : ∃ w4, w3.alloc (.cells #[.int .i64 kd, .int .i64 at_, .string tx, .int .i64 nn] 36) = w4 := ⟨_, rfl⟩
        rw [hw4] at hbA hbx
        have HB4 := Lib.hid (HB3.out.trans (hbA.mono HB3.out.size))
        have HZ4 : Hid (Blk w4 w.heap.size 26 #[.int .i64 0, .int .i64 0]) := (hbA.block _ HL3.out).trans HZ3.out
        have HL4 : Hid (w.heap.size < w4.heap.size) := Nat.lt_of_lt_of_le HL3.out hbA.size
        have HO4 : Hid (w4.ownsRow w2.heap.size 36 4 cv acc.length (cellsTk acc)) := own_below HO3.out (Nat.le_refl _) hbA
        by_cases h0 : er = 0
        rotate_left
        · have q0 : (er != 0) = true := by simpa using h0
          rw [if_neg h0] at HI2
          have HV2 : Hid (readV19 s = ([], p, er)) := by
            show _ = _
            rw [HV.out, HI2.out, if_neg h0]
          have HBz := Lib.hid (HB2.out.trans (HB4.out.mono HB2.out.size))
          clear HV HI2 h0 hbA hbx HO3 HO4 hsz
          obtain ⟨s1, s2, s3, s4⟩ := ft_end (w := w) (W := w4) (p : Int) er HZ4.out HBz.out
          have S1 := Lib.hid s1
          have S2 := Lib.hid s2
          have S3 := Lib.hid s3
          clear s1 s2 s3 s4
          go_wp2_with (first | (guard_target =~ wpList _ _ _ (Oper.mk _ (Op.store 26 _ _) _ _ _ _ :: _) _ _; refine wpList_skp rfl (exec_store rfl rfl rfl S1.out) ?_))
          refine bodyPost_ret (results_tmp_cell Tryz.results7 _ _ rfl rfl S2.out) rfl ?_
          unfold RetRd19
          rw [HV2.out]
          exact ⟨none, 0, rfl, Nat.le_refl _, by decide, .inl rfl, S3.out⟩
        subst h0
        rw [if_pos rfl] at HI2
        have hz := hsz rfl
        have hcells : cellsTk acc ++ [.int .i64 kd, .int .i64 (p : Int), .string tx, .int .i64 nn] = cellsTk (acc ++ [(⟨kd, (p : Int), tx, nn⟩ : Tk)]) := by unfold cellsTk; rw [cellsOf_snoc]; rfl
        have HCs := Lib.hid hcells
        have pc := (hbx.cell 1).trans rfl
        have pf := hbx.frozen 1
        have pl := hbx.lt
        have hBx5 : Blk (w4.setCell ⟨w3.heap.size, 1, none⟩ (.int .i64 (p : Int))) w3.heap.size 36 #[.int .i64 kd, .int .i64 (p : Int), .string tx, .int .i64 nn] := hbx.set_ 1 _
        have hc5 : Chg [w3.heap.size] w4 (w4.setCell ⟨w3.heap.size, 1, none⟩ (.int .i64 (p : Int))) := (Chg.refl _ _).setCell (.inl (by simp)) _
        obtain ⟨w5, hw5⟩ : ∃ w5, w4.setCell ⟨w3.heap.size, 1, none⟩ (.int .i64 (p : Int)) = w5 := ⟨_, rfl⟩
        rw [hw5] at hBx5 hc5
        have h34 := hbA.size
        have hl3 := HL3.out
        have h23 := HB3.out.size
        have HZ5 : Hid (Blk w5 w.heap.size 26 #[.int .i64 0, .int .i64 0]) := (hc5.block _ HL4.out (by simp; omega)).trans HZ4.out
        have HL5 : Hid (w.heap.size < w5.heap.size) := Nat.lt_of_lt_of_le HL4.out hc5.size
        have HO5 : Hid (w5.ownsRow w2.heap.size 36 4 cv acc.length (cellsTk acc)) := own_chg HO4.out hc5 (fun g hg hm => by have := own_lt HO3.out hg; rw [List.mem_singleton.1 hm] at this; omega)
        have HB5 : Hid (Below w2.heap.size w2 w5) := HB4.out.trans (hc5.below HB4.out.size (by simpa using h23))
        have HS5 : Hid (w2.heap.size ≤ w5.heap.size) := HB5.out.size
        have z0 := (hBx5.cell 0).trans rfl
        have z1 := (hBx5.cell 1).trans rfl
        have z2 := (hBx5.cell 2).trans rfl
        have z3 := (hBx5.cell 3).trans rfl
        obtain ⟨p2, hp2⟩ : ∃ p2, p + z = p2 := ⟨_, rfl⟩
        have hsk2 := HSk.out p2
        rw [HSl.out] at hsk2
        have wpz : IntKind.i64.wrap ((p : Int) + (z : Int)) = (p2 : Int) := by rw [show (p : Int) + (z : Int) = (p2 : Int) by omega]; exact IntWalk.i64_in _ (by omega)
        have wpz2 : (p : Int) + (z : Int) = (p2 : Int) := by omega
        have hp2s : p2 ≤ s.size := by omega
        have hp2i : (p2 : Int) ≤ (s.size : Int) := by omega
        have HY2 := Lib.hid (HRu.out p2)
        rw [hp2] at HI2
        obtain ⟨y, hy⟩ : ∃ y, skipR [1] (l.drop p2) = y := ⟨_, rfl⟩
        rw [hy] at HY2 HI2 hsk2
        have wpy : IntKind.i64.wrap ((p2 : Int) + (y : Int)) = ((p2 + y : Nat) : Int) := by rw [show (p2 : Int) + (y : Int) = ((p2 + y : Nat) : Int) by omega]; exact IntWalk.i64_in _ (by omega)
        have HI3 : Hid (full = ((acc ++ [(⟨kd, (p : Int), tx, nn⟩ : Tk)]) ++ (readR l n (p2 + y)).1, (readR l n (p2 + y)).2)) := by
          show _ = _
          rw [HI2.out]; simp
        clear hbA hbx hc5 HI2 hy HO3 HO4 hsz hcells hBx5
        go_wp2_with (at_builtin; refine wpList_appM rfl _ _ 23 rfl w2.heap.size 36 i0 (.agg #[.int .i64 0, .int .i64 0, .string ⟨#[]⟩, .int .i64 0]) 4 40 1 Tryz.underlying23 hi hz0 rfl hz1 (by omega) hz2 (by omega) cv acc.length (cellsTk acc) [.int .i64 kd, .int .i64 (p : Int), .string tx, .int .i64 nn] w5 HO5.out rfl _ rfl rfl (by intro u hu; simp at hu; rcases hu with rfl | rfl | rfl | rfl <;> rfl) rfl (by omega) HS5.out ?_; intro v6 w6 hown6 hc6 hsz6; have HO6 := Lib.hid hown6; have HC6 := Lib.hid hc6; clear hown6 hc6 hsz6)
        have HB6 : Hid (Below w2.heap.size w2 w6) := HB5.out.trans (((Below.refl w2.heap.size w5).alloc HS5.out _).trans (HC6.out.below (by have := HS5.out; simp; omega) (fun g hg => (HO5.out.lt g (by simpa using hg)).1)))
        have hO7 : w6.ownsRow w2.heap.size 36 4 v6 (acc ++ [(⟨kd, (p : Int), tx, nn⟩ : Tk)]).length (cellsTk (acc ++ [(⟨kd, (p : Int), tx, nn⟩ : Tk)])) := by
          rw [← HCs.out, List.length_append]; exact HO6.out
        have HO7 := Lib.hid hO7
        clear hO7 HO6 HO5 z0 z1 z2 z3 pc pf pl
        refine (HY2.out w6).mono ?_
        rintro e w7 ⟨rfl, hb7⟩
        have HB7 := Lib.hid (HB6.out.trans (hb7.mono HB6.out.size))
        have HO8 : Hid (w7.ownsRow w2.heap.size 36 4 v6 (acc ++ [(⟨kd, (p : Int), tx, nn⟩ : Tk)]).length (cellsTk (acc ++ [(⟨kd, (p : Int), tx, nn⟩ : Tk)]))) := own_below HO7.out (Nat.le_refl _) hb7
        clear hb7 HY2 HO7
        go_wp2
        go_roundw
        case rel => exact ⟨n, p2 + y, acc ++ [(⟨kd, (p : Int), tx, nn⟩ : Tk)], v6, rfl, by first | rfl | (rw [wpy]) | go_num, by omega, by omega, by rw [List.length_append]; show acc.length + 1 ≤ _; omega, HO8.out, HI3.out, HB7.out⟩
        case measure => simp [intOf]; omega
      · have q0 : decide ((p : Int) < (s.size : Int)) = false := by simp; omega
        have hI2 := HI.out
        rw [HRe.out n p hlt, List.append_nil] at hI2
        have HV2 : Hid (readV19 s = (acc ++ [(⟨0, (p : Int), ⟨#[]⟩, 0⟩ : Tk)], 0, 0)) := by
          show _ = _
          rw [HV.out, hI2]; rfl
        have hcells : cellsTk acc ++ [.int .i64 0, .int .i64 (p : Int), .string ⟨#[]⟩, .int .i64 0] = cellsTk (acc ++ [(⟨0, (p : Int), ⟨#[]⟩, 0⟩ : Tk)]) := by unfold cellsTk; rw [cellsOf_snoc]; rfl
        have HCs := Lib.hid hcells
        have HSr : Hid (w2.heap.size ≤ wr.heap.size) := HBr.out.size
        clear hI2 HI HV hcells
        go_wp2_with (first
          | (guard_target =~ wpList _ _ _ (Oper.mk _ (Op.store 26 _ _) _ _ _ _ :: _) _ _; refine wpList_skp rfl (exec_store rfl rfl rfl S1.out) ?_)
          | (at_builtin; refine wpList_appM rfl _ _ 23 rfl w2.heap.size 36 i0 (.agg #[.int .i64 0, .int .i64 0, .string ⟨#[]⟩, .int .i64 0]) 4 40 1 Tryz.underlying23 hi hz0 rfl hz1 (by omega) hz2 (by omega) cv acc.length (cellsTk acc) [.int .i64 0, .int .i64 (p : Int), .string ⟨#[]⟩, .int .i64 0] wr HO.out rfl _ rfl rfl (by intro u hu; simp at hu; rcases hu with rfl | rfl | rfl | rfl <;> rfl) rfl (by omega) HSr.out ?_; intro v6 w6 hown6 hc6 hsz6; have hB6 : Below w2.heap.size w2 w6 := HBr.out.trans (((Below.refl w2.heap.size wr).alloc HSr.out _).trans (hc6.below (by have := HSr.out; simp; omega) (fun g hg => (HO.out.lt g (by simpa using hg)).1))); have hO7 : w6.ownsRow w2.heap.size 36 4 v6 (acc ++ [(⟨0, (p : Int), ⟨#[]⟩, 0⟩ : Tk)]).length (cellsTk (acc ++ [(⟨0, (p : Int), ⟨#[]⟩, 0⟩ : Tk)])) := (by rw [← HCs.out, List.length_append]; exact hown6); obtain ⟨s1, s2, s3, s4⟩ := ft_end (w := w) (W := w6) 0 0 ((hB6.block _ HL2.out).trans HZ2.out) (HB2.out.trans (hB6.mono HB2.out.size)); have hO8 := own_chg hO7 s4 (fun g hg hm => by have := (hO7.lt g hg).1; have := HL2.out; rw [List.mem_singleton.1 hm] at *; omega); obtain ⟨a8, c8, hv8, hcc8, hcm8, hA8⟩ := own_slice hO8; have HA8 := Lib.hid hA8; have HC8 := Lib.hid hcc8; have HM8 := Lib.hid hcm8; have HV8 := Lib.hid hv8; have S1 := Lib.hid s1; have S2 := Lib.hid s2; have S3 := Lib.hid s3; clear hown6 hc6 hsz6 hB6 hO7 s1 s2 s3 s4 hO8 hv8 hcc8 hcm8 hA8))
        refine bodyPost_ret (results_tmp_cell Tryz.results7 _ _ rfl rfl S2.out) rfl ?_
        unfold RetRd19
        rw [HV2.out]
        exact ⟨a8, c8, by rw [HV8.out]; rfl, HC8.out, HM8.out, HA8.out, S3.out⟩
end Go.Proofs.YtbnddpicpomakaaGreatDoor

/- What alive's readings of law 19 come to. -/
set_option linter.unusedSimpArgs false
set_option linter.unusedVariables false
set_option maxRecDepth 100000
namespace Go.Proofs.YtbnddpicpomakaaGreatDoor
open Go.RowKit

abbrev al1 : ByteArray := ⟨#[32, 65, 98, 60, 61, 49, 50, 32, 39, 105, 116, 39, 39, 115, 39, 32, 120, 39, 48, 65, 39]⟩
abbrev al2 : ByteArray := ⟨#[97, 32, 39, 98]⟩
abbrev al3 : ByteArray := ⟨#[57, 50, 50, 51, 51, 55, 50, 48, 51, 54, 56, 53, 52, 55, 55, 53, 56, 48, 56]⟩
theorem al2_read : readV19 al2 = ([], 2, 40) := by decide +kernel
theorem al3_read : readV19 al3 = ([], 0, 21) := by decide +kernel
theorem al1_read : readV19 al1 = ([⟨1, 1, ⟨#[97, 98]⟩, 0⟩, ⟨5, 3, ⟨#[60, 61]⟩, 0⟩, ⟨2, 5, ⟨#[]⟩, 12⟩, ⟨3, 8, ⟨#[105, 116, 39, 115]⟩, 0⟩, ⟨4, 16, ⟨#[10]⟩, 0⟩, ⟨0, 21, ⟨#[]⟩, 0⟩], 0, 0) := by decide +kernel
end Go.Proofs.YtbnddpicpomakaaGreatDoor

/- The walk of alive of law 19. -/
set_option linter.unusedSimpArgs false
set_option linter.unusedVariables false
set_option maxRecDepth 100000
namespace Go.Proofs.YtbnddpicpomakaaGreatDoor
open Go.RowKit

abbrev al1L : List Tk := [⟨1, 1, ⟨#[97, 98]⟩, 0⟩, ⟨5, 3, ⟨#[60, 61]⟩, 0⟩, ⟨2, 5, ⟨#[]⟩, 12⟩, ⟨3, 8, ⟨#[105, 116, 39, 115]⟩, 0⟩, ⟨4, 16, ⟨#[10]⟩, 0⟩, ⟨0, 21, ⟨#[]⟩, 0⟩]
set_option maxHeartbeats 8000000 in
theorem alive19_any (w : World) (hT : Pre6 w) : Calls Tryz.prog 6 #[] w fun e w' => e = .returned (.bool true) ∧ Below w.heap.size w w' := by
  have HP := Lib.hid (fun W (hb : Below w.heap.size w W) => hT.below hb)
  have H1 : Hid (Calls Tryz.prog 7 #[.string al1] w (RetRd19 (al1L, 0, 0) w)) := by
    have := tkRead_any al1 w hT (by decide)
    rw [al1_read] at this; exact this
  have H2 : Hid (∀ W, Below w.heap.size w W → Calls Tryz.prog 7 #[.string al2] W (RetRd19 ([], 2, 40) W)) := fun W hb => by
    have := tkRead_any al2 W (hT.below hb) (by decide)
    rw [al2_read] at this; exact this
  have H3 : Hid (∀ W, Below w.heap.size w W → Calls Tryz.prog 7 #[.string al3] W (RetRd19 ([], 0, 21) W)) := fun W hb => by
    have := tkRead_any al3 W (hT.below hb) (by decide)
    rw [al3_read] at this; exact this
  clear hT HP
  unfold al1 at H1
  unfold al2 at H2
  unfold al3 at H3
  go_enter Tryz.func6, Tryz.ntmps6
  go_wp2_with fail
  refine H1.out.mono ?_
  rintro e w1 ⟨a1, c1, rfl, hc1, hm1, hA1, hb1⟩
  have HB1 := Lib.hid hb1
  have HA1 := Lib.hid hA1
  simp only [al1L, List.length_cons, List.length_nil] at hc1
  clear hb1 hA1 H1
  have hbA : Below w1.heap.size w1 (w1.alloc (.cells #[.int .i64 0, .int .i64 0] 26)) := (Below.refl _ w1).alloc (Nat.le_refl _) _
  have f1 : (w1.alloc (.cells #[.int .i64 0, .int .i64 0] 26)).cell? ⟨w1.heap.size, 1, none⟩ = some (.int .i64 0) := by rw [World.cell?_alloc_at _ _ _ _ rfl]; rfl
  have hs2 : (w1.alloc (.cells #[.int .i64 0, .int .i64 0] 26)).heap.size = w1.heap.size + 1 := by simp
  obtain ⟨w2, hw2⟩ : ∃ w2, w1.alloc (.cells #[.int .i64 0, .int .i64 0] 26) = w2 := ⟨_, rfl⟩
  rw [hw2] at hbA f1 hs2
  have HB2 := Lib.hid (HB1.out.trans (hbA.mono HB1.out.size))
  have HA2 := Lib.hid ((HA1.out.below hbA).mono hbA.size)
  have HF2 := Lib.hid f1
  have HS2 := Lib.hid hs2
  have HW2 := Lib.hid hw2
  clear hbA f1 hs2 HA1 hw2
  simp only [al1L, List.length_cons, List.length_nil]
  go_wp2_with fail
  rw [HW2.out]
  refine (H2.out _ HB2.out).mono ?_
  rintro e w3 ⟨a3, c3, rfl, hc3, hm3, hA3, hb3⟩
  have HB3 := Lib.hid (HB2.out.trans (hb3.mono HB2.out.size))
  have HA3 := Lib.hid ((HA2.out.below hb3).mono hb3.size)
  have HF3 : Hid (w3.cell? ⟨w1.heap.size, 1, none⟩ = some (.int .i64 0)) := (hb3.cell (p := ⟨w1.heap.size, 1, none⟩) (by show w1.heap.size < w2.heap.size; have := HS2.out; omega)).trans HF2.out
  have HS3 : Hid (w1.heap.size < w3.heap.size) := by show _ < _; have := HS2.out; have := hb3.size; omega
  clear hb3 hA3 HA2 HF2 H2
  have hbA : Below w3.heap.size w3 (w3.alloc (.cells #[.int .i64 2, .int .i64 40] 26)) := (Below.refl _ w3).alloc (Nat.le_refl _) _
  have g0 : (w3.alloc (.cells #[.int .i64 2, .int .i64 40] 26)).cell? ⟨w3.heap.size, 0, none⟩ = some (.int .i64 2) := by rw [World.cell?_alloc_at _ _ _ _ rfl]; rfl
  have g1 : (w3.alloc (.cells #[.int .i64 2, .int .i64 40] 26)).cell? ⟨w3.heap.size, 1, none⟩ = some (.int .i64 40) := by rw [World.cell?_alloc_at _ _ _ _ rfl]; rfl
  have hs4 : (w3.alloc (.cells #[.int .i64 2, .int .i64 40] 26)).heap.size = w3.heap.size + 1 := by simp
  obtain ⟨w4, hw4⟩ : ∃ w4, w3.alloc (.cells #[.int .i64 2, .int .i64 40] 26) = w4 := ⟨_, rfl⟩
  rw [hw4] at hbA g0 g1 hs4
  have HB4 := Lib.hid (HB3.out.trans (hbA.mono HB3.out.size))
  have HA4 := Lib.hid ((HA3.out.below hbA).mono hbA.size)
  have HF4 : Hid (w4.cell? ⟨w1.heap.size, 1, none⟩ = some (.int .i64 0)) := (hbA.cell (p := ⟨w1.heap.size, 1, none⟩) HS3.out).trans HF3.out
  have HG4 : Hid (w4.cell? ⟨w3.heap.size, 0, none⟩ = some (.int .i64 2) ∧ w4.cell? ⟨w3.heap.size, 1, none⟩ = some (.int .i64 40)) := ⟨g0, g1⟩
  have HS4 := Lib.hid hs4
  clear hbA g0 g1 hs4 HA3 HF3
  simp only [List.length_nil]
  go_wp2_with fail
  refine (H3.out _ HB4.out).mono ?_
  rintro e w5 ⟨a5, c5, rfl, hc5, hm5, hA5, hb5⟩
  have HB5 := Lib.hid (HB4.out.trans (hb5.mono HB4.out.size))
  have HA5 := Lib.hid ((HA4.out.below hb5).mono hb5.size)
  have HF5 : Hid (w5.cell? ⟨w1.heap.size, 1, none⟩ = some (.int .i64 0)) := (hb5.cell (p := ⟨w1.heap.size, 1, none⟩) (by show w1.heap.size < w4.heap.size; have := HS4.out; have := HS3.out; omega)).trans HF4.out
  have HG5 : Hid (w5.cell? ⟨w3.heap.size, 0, none⟩ = some (.int .i64 2) ∧ w5.cell? ⟨w3.heap.size, 1, none⟩ = some (.int .i64 40)) := ⟨(hb5.cell (p := ⟨w3.heap.size, 0, none⟩) (by show w3.heap.size < w4.heap.size; have := HS4.out; omega)).trans HG4.out.1, (hb5.cell (p := ⟨w3.heap.size, 1, none⟩) (by show w3.heap.size < w4.heap.size; have := HS4.out; omega)).trans HG4.out.2⟩
  have HT5 : Hid (w1.heap.size < w5.heap.size ∧ w3.heap.size < w5.heap.size) := by show _ ∧ _; have := HS4.out; have := HS3.out; have := hb5.size; omega
  clear hb5 hA5 HA4 HF4 HG4 H3
  have hbA : Below w5.heap.size w5 (w5.alloc (.cells #[.int .i64 0, .int .i64 21] 26)) := (Below.refl _ w5).alloc (Nat.le_refl _) _
  have k1 : (w5.alloc (.cells #[.int .i64 0, .int .i64 21] 26)).cell? ⟨w5.heap.size, 1, none⟩ = some (.int .i64 21) := by rw [World.cell?_alloc_at _ _ _ _ rfl]; rfl
  obtain ⟨w6, hw6⟩ : ∃ w6, w5.alloc (.cells #[.int .i64 0, .int .i64 21] 26) = w6 := ⟨_, rfl⟩
  rw [hw6] at hbA k1
  have HB6 := Lib.hid (HB5.out.trans (hbA.mono HB5.out.size))
  have hA6 := (HA5.out.below hbA).mono hbA.size
  have f1 := (hbA.cell (p := ⟨w1.heap.size, 1, none⟩) HT5.out.1).trans HF5.out
  have g0 := (hbA.cell (p := ⟨w3.heap.size, 0, none⟩) HT5.out.2).trans HG5.out.1
  have g1 := (hbA.cell (p := ⟨w3.heap.size, 1, none⟩) HT5.out.2).trans HG5.out.2
  obtain ⟨b0, o0, hb0', -, t00, t01, t02, t03⟩ := tkAt hA6 (k := 0) (by decide)
  obtain ⟨b1, o1, hb1', -, t10, t11, t12, t13⟩ := tkAt hA6 (k := 1) (by decide)
  rw [hb0'] at hb1'
  injection hb1' with hb1'
  injection hb1' with e1 e2
  subst e1 e2
  obtain ⟨b2, o2, hb2', -, t20, t21, t22, t23⟩ := tkAt hA6 (k := 2) (by decide)
  rw [hb0'] at hb2'
  injection hb2' with hb2'
  injection hb2' with e1 e2
  subst e1 e2
  obtain ⟨b3, o3, hb3', -, t30, t31, t32, t33⟩ := tkAt hA6 (k := 3) (by decide)
  rw [hb0'] at hb3'
  injection hb3' with hb3'
  injection hb3' with e1 e2
  subst e1 e2
  obtain ⟨b4, o4, hb4', -, t40, t41, t42, t43⟩ := tkAt hA6 (k := 4) (by decide)
  rw [hb0'] at hb4'
  injection hb4' with hb4'
  injection hb4' with e1 e2
  subst e1 e2
  obtain ⟨b5, o5, hb5', -, t50, t51, t52, t53⟩ := tkAt hA6 (k := 5) (by decide)
  rw [hb0'] at hb5'
  injection hb5' with hb5'
  injection hb5' with e1 e2
  subst e1 e2
  subst hb0'
  have u00 := t00
  simp only [Nat.zero_mul, Nat.one_mul, Nat.add_zero, Nat.reduceMul, List.getElem_cons_zero, List.getElem_cons_succ] at u00
  have u01 := t01
  simp only [Nat.zero_mul, Nat.one_mul, Nat.add_zero, Nat.reduceMul, List.getElem_cons_zero, List.getElem_cons_succ] at u01
  have u02 := t02
  simp only [Nat.zero_mul, Nat.one_mul, Nat.add_zero, Nat.reduceMul, List.getElem_cons_zero, List.getElem_cons_succ] at u02
  have u03 := t03
  simp only [Nat.zero_mul, Nat.one_mul, Nat.add_zero, Nat.reduceMul, List.getElem_cons_zero, List.getElem_cons_succ] at u03
  have u10 := t10
  simp only [Nat.zero_mul, Nat.one_mul, Nat.add_zero, Nat.reduceMul, List.getElem_cons_zero, List.getElem_cons_succ] at u10
  have u11 := t11
  simp only [Nat.zero_mul, Nat.one_mul, Nat.add_zero, Nat.reduceMul, List.getElem_cons_zero, List.getElem_cons_succ] at u11
  have u12 := t12
  simp only [Nat.zero_mul, Nat.one_mul, Nat.add_zero, Nat.reduceMul, List.getElem_cons_zero, List.getElem_cons_succ] at u12
  have u13 := t13
  simp only [Nat.zero_mul, Nat.one_mul, Nat.add_zero, Nat.reduceMul, List.getElem_cons_zero, List.getElem_cons_succ] at u13
  have u20 := t20
  simp only [Nat.zero_mul, Nat.one_mul, Nat.add_zero, Nat.reduceMul, List.getElem_cons_zero, List.getElem_cons_succ] at u20
  have u21 := t21
  simp only [Nat.zero_mul, Nat.one_mul, Nat.add_zero, Nat.reduceMul, List.getElem_cons_zero, List.getElem_cons_succ] at u21
  have u22 := t22
  simp only [Nat.zero_mul, Nat.one_mul, Nat.add_zero, Nat.reduceMul, List.getElem_cons_zero, List.getElem_cons_succ] at u22
  have u23 := t23
  simp only [Nat.zero_mul, Nat.one_mul, Nat.add_zero, Nat.reduceMul, List.getElem_cons_zero, List.getElem_cons_succ] at u23
  have u30 := t30
  simp only [Nat.zero_mul, Nat.one_mul, Nat.add_zero, Nat.reduceMul, List.getElem_cons_zero, List.getElem_cons_succ] at u30
  have u31 := t31
  simp only [Nat.zero_mul, Nat.one_mul, Nat.add_zero, Nat.reduceMul, List.getElem_cons_zero, List.getElem_cons_succ] at u31
  have u32 := t32
  simp only [Nat.zero_mul, Nat.one_mul, Nat.add_zero, Nat.reduceMul, List.getElem_cons_zero, List.getElem_cons_succ] at u32
  have u33 := t33
  simp only [Nat.zero_mul, Nat.one_mul, Nat.add_zero, Nat.reduceMul, List.getElem_cons_zero, List.getElem_cons_succ] at u33
  have u40 := t40
  simp only [Nat.zero_mul, Nat.one_mul, Nat.add_zero, Nat.reduceMul, List.getElem_cons_zero, List.getElem_cons_succ] at u40
  have u41 := t41
  simp only [Nat.zero_mul, Nat.one_mul, Nat.add_zero, Nat.reduceMul, List.getElem_cons_zero, List.getElem_cons_succ] at u41
  have u42 := t42
  simp only [Nat.zero_mul, Nat.one_mul, Nat.add_zero, Nat.reduceMul, List.getElem_cons_zero, List.getElem_cons_succ] at u42
  have u43 := t43
  simp only [Nat.zero_mul, Nat.one_mul, Nat.add_zero, Nat.reduceMul, List.getElem_cons_zero, List.getElem_cons_succ] at u43
  have u50 := t50
  simp only [Nat.zero_mul, Nat.one_mul, Nat.add_zero, Nat.reduceMul, List.getElem_cons_zero, List.getElem_cons_succ] at u50
  have u51 := t51
  simp only [Nat.zero_mul, Nat.one_mul, Nat.add_zero, Nat.reduceMul, List.getElem_cons_zero, List.getElem_cons_succ] at u51
  have u52 := t52
  simp only [Nat.zero_mul, Nat.one_mul, Nat.add_zero, Nat.reduceMul, List.getElem_cons_zero, List.getElem_cons_succ] at u52
  have u53 := t53
  simp only [Nat.zero_mul, Nat.one_mul, Nat.add_zero, Nat.reduceMul, List.getElem_cons_zero, List.getElem_cons_succ] at u53
  clear t00 t01 t02 t03 t10 t11 t12 t13 t20 t21 t22 t23 t30 t31 t32 t33 t40 t41 t42 t43 t50 t51 t52 t53 hbA hA6 HA5 HF5 HG5
  go_wp2
  go_ret
  exact ⟨ret_b (by first | rfl | simp), HB6.out⟩
end Go.Proofs.YtbnddpicpomakaaGreatDoor

/- The walk of token.Same, of tokens that are alike. -/
set_option linter.unusedSimpArgs false
set_option linter.unusedVariables false
set_option maxRecDepth 100000
namespace Go.Proofs.YtbnddpicpomakaaGreatDoor
open Go.RowKit

theorem eqTk (kd n at_ : Int) (tx : ByteArray) (W : World) : (Op.equalIn 10000 36 (.agg #[.int .i64 kd, .int .i64 at_, .string tx, .int .i64 n]) (.agg #[.int .i64 kd, .int .i64 at_, .string tx, .int .i64 n])).run Tryz.prog W = .ok true W := by
  have hS : Tryz.prog.underlying 36 = some (.struct (Tryz.prog.fieldsOf 36)) := by kernel_rfl
  have hp : Tryz.prog.stoodInHeld 36 = false := by kernel_rfl
  rw [show (10000 : Nat) = 9999 + 1 from rfl, run_equalIn_agg W 9999 36 _ _ hS hp]
  simp only [Program.fieldsOf, Tryz.underlying36]
  go_simp
@[go_sem] theorem eqGuardTk : Tryz.prog.eqGuardType Tryz.prog.depth 36 = false := by kernel_rfl

set_option maxHeartbeats 2000000 in
theorem same1_any (kd n a1 a2 : Int) (tx : ByteArray) (w : World) :
    Calls Tryz.prog 39 #[.agg #[.int .i64 kd, .int .i64 a1, .string tx, .int .i64 n], .agg #[.int .i64 kd, .int .i64 a2, .string tx, .int .i64 n]] w fun e w' => e = .returned (.bool true) ∧ Below w.heap.size w w' := by
  have hE := eqTk kd n a2 tx
  have hB1 : Blk (w.alloc (.cells #[.int .i64 kd, .int .i64 a1, .string tx, .int .i64 n] 36)) w.heap.size 36 #[.int .i64 kd, .int .i64 a1, .string tx, .int .i64 n] := Blk.new w _ _
  have hs1 : (w.alloc (.cells #[.int .i64 kd, .int .i64 a1, .string tx, .int .i64 n] 36)).heap.size = w.heap.size + 1 := by simp
  obtain ⟨w1, hw1⟩ : ∃ w1, w.alloc (.cells #[.int .i64 kd, .int .i64 a1, .string tx, .int .i64 n] 36) = w1 := ⟨_, rfl⟩
  have hb1 : Below w.heap.size w w1 := by rw [← hw1]; exact (Below.refl _ w).alloc (Nat.le_refl _) _
  rw [hw1] at hB1 hs1
  have hB2 : Blk (w1.alloc (.cells #[.int .i64 kd, .int .i64 a2, .string tx, .int .i64 n] 36)) w1.heap.size 36 #[.int .i64 kd, .int .i64 a2, .string tx, .int .i64 n] := Blk.new w1 _ _
  have hB1' := hB1.alloc (.cells #[.int .i64 kd, .int .i64 a2, .string tx, .int .i64 n] 36)
  obtain ⟨w2, hw2⟩ : ∃ w2, w1.alloc (.cells #[.int .i64 kd, .int .i64 a2, .string tx, .int .i64 n] 36) = w2 := ⟨_, rfl⟩
  have hb2 : Below w1.heap.size w1 w2 := by rw [← hw2]; exact (Below.refl _ w1).alloc (Nat.le_refl _) _
  rw [hw2] at hB2 hB1'
  have pc := (hB1'.cell 1).trans rfl
  have pf := hB1'.frozen 1
  have pl := hB1'.lt
  have y1 := (hB2.cell 1).trans rfl
  have hB3 : Blk (w2.setCell ⟨w.heap.size, 1, none⟩ (.int .i64 a2)) w.heap.size 36 #[.int .i64 kd, .int .i64 a2, .string tx, .int .i64 n] := hB1'.set_ 1 _
  have hc3 : Chg [w.heap.size] w2 (w2.setCell ⟨w.heap.size, 1, none⟩ (.int .i64 a2)) := (Chg.refl _ _).setCell (.inl (by simp)) _
  obtain ⟨w3, hw3⟩ : ∃ w3, w2.setCell ⟨w.heap.size, 1, none⟩ (.int .i64 a2) = w3 := ⟨_, rfl⟩
  rw [hw3] at hB3 hc3
  have hB4 : Blk w3 w1.heap.size 36 #[.int .i64 kd, .int .i64 a2, .string tx, .int .i64 n] := (hc3.block _ hB2.lt (by rw [List.mem_singleton]; omega)).trans hB2
  have x0 := (hB3.cell 0).trans rfl
  have x1 := (hB3.cell 1).trans rfl
  have x2 := (hB3.cell 2).trans rfl
  have x3 := (hB3.cell 3).trans rfl
  have z0 := (hB4.cell 0).trans rfl
  have z1 := (hB4.cell 1).trans rfl
  have z2 := (hB4.cell 2).trans rfl
  have z3 := (hB4.cell 3).trans rfl
  have HB3 : Hid (Below w.heap.size w w3) := (hb1.trans (hb2.mono hb1.size)).trans (hc3.below (Nat.le_trans hb1.size hb2.size) (by simp))
  clear hB1 hB2 hB1' hb1 hb2 hB3 hB4 hc3 hs1
  go_enter Tryz.func39, Tryz.ntmps39
  go_wp2
  go_ret
  exact ⟨ret_b (by first | rfl | simp), HB3.out⟩

set_option maxHeartbeats 2000000 in
theorem tkSame_any (L M : List Tk) (a b : Option Addr) (c d : Nat) (w : World) (hL : Arr w.heap.size w a (cellsTk L)) (hM : Arr w.heap.size w b (cellsTk M)) (hlen : L.length = M.length) (hbd : L.length ≤ 1000000)
    (hlike : ∀ k (h1 : k < L.length) (h2 : k < M.length), L[k].kd = M[k].kd ∧ L[k].tx = M[k].tx ∧ L[k].n = M[k].n) :
    Calls Tryz.prog 38 #[.slice a L.length c, .slice b M.length d, .func (.func 39) #[] #[]] w fun e w' => e = .returned (.bool true) ∧ Below w.heap.size w w' := by
  obtain ⟨m, hm⟩ : ∃ m, L.length = m := ⟨_, rfl⟩
  have hm2 : M.length = m := hlen.symm.trans hm
  have HL := Lib.hid hL
  have HM := Lib.hid hM
  have HK := Lib.hid hlike
  have HLm := Lib.hid hm
  have HMm := Lib.hid hm2
  have hmm : ((m : Int) != (m : Int)) = false := by simp
  rw [hm] at hbd
  rw [hm, hm2]
  clear hL hM hlen hlike hm hm2
  go_enter Tryz.func38, Tryz.ntmps38
  go_wp2
  clear hmm
  go_loopw [17] (fun i wr => ∃ k : Nat, k ≤ m ∧ i = .int .i64 k ∧ Hid (Below w.heap.size w wr)) (fun i _ => m - (intOf i).toNat)
  case atStart => exact ⟨0, by omega, rfl, Below.refl _ _⟩
  case round =>
    obtain ⟨k, hk, rfl, HBr⟩ := hrel
    by_cases hlt : k < m
    · have hkl : k < L.length := by rw [HLm.out]; exact hlt
      have hkm : k < M.length := by rw [HMm.out]; exact hlt
      obtain ⟨b1, o1, hab, hbN, t0, t1, t2, t3⟩ := tkAt (HL.out.below HBr.out) hkl
      obtain ⟨e1, e2, e3⟩ := HK.out k hkl hkm
      generalize L[k] = x at *
      subst hab
      have hbx := (Below.refl wr.heap.size wr).alloc (Nat.le_refl _) (.cells #[.int .i64 x.kd, .int .i64 x.at_, .string x.tx, .int .i64 x.n] 36)
      obtain ⟨w1, hw1⟩ : ∃ w1, wr.alloc (.cells #[.int .i64 x.kd, .int .i64 x.at_, .string x.tx, .int .i64 x.n] 36) = w1 := ⟨_, rfl⟩
      have hX := Slot4.new wr 36 (.int .i64 x.kd) (.int .i64 x.at_) (.string x.tx) (.int .i64 x.n)
      have hs1 : wr.heap.size < w1.heap.size := by rw [← hw1]; simp
      rw [hw1] at hbx hX
      have hb1 := HBr.out.trans (hbx.mono HBr.out.size)
      obtain ⟨b2, o2, hab2, hbN2, u0, u1, u2, u3⟩ := tkAt (HM.out.below hb1) hkm
      rw [← e1] at u0
      rw [← e2] at u2
      rw [← e3] at u3
      generalize M[k].at_ = y at *
      subst hab2
      have hby := (Below.refl w1.heap.size w1).alloc (Nat.le_refl _) (.cells #[.int .i64 x.kd, .int .i64 y, .string x.tx, .int .i64 x.n] 36)
      have hY := Slot4.new w1 36 (.int .i64 x.kd) (.int .i64 y) (.string x.tx) (.int .i64 x.n)
      obtain ⟨w2, hw2⟩ : ∃ w2, w1.alloc (.cells #[.int .i64 x.kd, .int .i64 y, .string x.tx, .int .i64 x.n] 36) = w2 := ⟨_, rfl⟩
      rw [hw2] at hby hY
      have hX2 := hX.later hs1 hby
      obtain ⟨x0, x1, x2, x3⟩ := hX2
      obtain ⟨y0, y1, y2, y3⟩ := hY
      have HB2 := Lib.hid (hb1.trans (hby.mono hb1.size))
      have HY := Lib.hid (same1_any x.kd x.n x.at_ y x.tx w2)
      clear hbx hby hX hb1 e1 e2 e3 hkl hkm
      go_wp2_with fail
      refine HY.out.mono ?_
      rintro e w3 ⟨rfl, hb3⟩
      have HB3 := Lib.hid (HB2.out.trans (hb3.mono HB2.out.size))
      clear hb3 HY x0 x1 x2 x3 y0 y1 y2 y3 t0 t1 t2 t3 u0 u1 u2 u3
      go_wp2
      go_roundw
      case rel => exact ⟨k + 1, by omega, by go_num, HB3.out⟩
      case measure => simp [intOf]; omega
    · have q0 : decide ((k : Int) < (m : Int)) = false := by simp; omega
      go_wp2
      go_ret
      exact ⟨rfl, HBr.out⟩
theorem tkSm_any (L M : List Tk) (a b : Option Addr) (c d : Nat) (w : World) (hL : Arr w.heap.size w a (cellsTk L)) (hM : Arr w.heap.size w b (cellsTk M)) (hlen : L.length = M.length) (hbd : L.length ≤ 1000000)
    (hlike : ∀ k (h1 : k < L.length) (h2 : k < M.length), L[k].kd = M[k].kd ∧ L[k].tx = M[k].tx ∧ L[k].n = M[k].n) :
    Calls Tryz.prog 14 #[.slice a L.length c, .slice b M.length d] w fun e w' => e = .returned (.bool true) ∧ Below w.heap.size w w' := by
  have HS := Lib.hid (tkSame_any L M a b c d w hL hM hlen hbd hlike)
  clear hL hM hlen hlike hbd
  generalize L.length = m at *
  generalize M.length = q at *
  go_enter Tryz.func14, Tryz.ntmps14
  go_wp2_with fail
  refine HS.out.mono ?_
  rintro e w1 ⟨rfl, hb⟩
  have HB := Lib.hid hb
  clear hb
  go_wp2
  go_ret
  exact ⟨rfl, HB.out⟩
end Go.Proofs.YtbnddpicpomakaaGreatDoor

/- Rows of values that came in, element by element. -/
set_option linter.unusedSimpArgs false
set_option linter.unusedVariables false
set_option maxRecDepth 100000
namespace Go.Proofs.YtbnddpicpomakaaGreatDoor
open Go.RowKit Go.ChangeShapes Go.WideShapes Go.Deep Go.Joins

theorem cellsOf_at {α : Type} (f : α → List Value) (z : Nat) (hz : 0 < z) (hf : ∀ x, (f x).length = z) : ∀ (l : List α) (i : Nat) (v : Value), (cellsOf f l)[i]? = some v → ∃ y, l[i / z]? = some y ∧ (f y)[i % z]? = some v
  | [], i, v, h => by simp [cellsOf] at h
  | x :: r, i, v, h => by
    have e : cellsOf f (x :: r) = f x ++ cellsOf f r := rfl
    rw [e] at h
    by_cases hi : i < z
    · rw [List.getElem?_append_left (by rw [hf]; exact hi)] at h
      exact ⟨x, by rw [Nat.div_eq_of_lt hi]; rfl, by rw [Nat.mod_eq_of_lt hi]; exact h⟩
    · rw [List.getElem?_append_right (by rw [hf]; omega), hf] at h
      obtain ⟨y, h1, h2⟩ := cellsOf_at f z hz hf r (i - z) v h
      have e1 : i = (i - z) + z := by omega
      refine ⟨y, ?_, ?_⟩
      · rw [e1, Nat.add_div_right _ hz]; exact h1
      · rw [e1, Nat.add_mod_right]; exact h2

/-- A row of values that came in, element by element. -/
theorem row_of {α : Type} (f : α → List Value) (z : Nat) (hz : 0 < z) (hf : ∀ x, (f x).length = z) (Q : α → Prop) (w : World) (x : Addr) (len : Nat)
    (hex : ∀ i : Fin len, ∃ y, Q y ∧ ∀ (j : Nat) (v : Value), (f y)[j]? = some v → w.cell? ((x.add (i.1 * z)).add j) = some v) :
    ∃ L : List α, L.length = len ∧ Arr w.heap.size w (some x) (cellsOf f L) ∧ ∀ y ∈ L, Q y := by
  obtain ⟨g, hg⟩ := Classical.axiomOfChoice hex
  refine ⟨List.ofFn g, by simp, ?_, ?_⟩
  · by_cases h0 : len = 0
    · left; subst h0; simp [cellsOf]
    · right
      obtain ⟨b, o, spot⟩ := x
      have hlen0 : 0 < (f (g ⟨0, by omega⟩)).length := by rw [hf]; exact hz
      have hc0 := (hg ⟨0, by omega⟩).2 0 _ (List.getElem?_eq_getElem hlen0)
      have hspot : spot = none := by
        have := World.cell?_spot hc0
        simpa [Addr.add] using this
      subst hspot
      have hblk := World.block_lt_of_cell? _ _ hc0
      refine ⟨b, o, rfl, by simpa [Addr.add] using hblk, fun i v hv => ?_⟩
      obtain ⟨y, h1, h2⟩ := cellsOf_at f z hz hf _ i v hv
      rw [List.getElem?_ofFn] at h1
      split at h1
      · rename_i hlt
        simp only [Option.some.injEq] at h1
        subst h1
        have hh := (hg ⟨i / z, hlt⟩).2 _ v h2
        have e1 : ((⟨b, o, none⟩ : Addr).add (i / z * z)).add (i % z) = ⟨b, o + i, none⟩ := by
          have : i / z * z + i % z = i := Nat.div_add_mod' i z
          simp only [Addr.add]
          split <;> split <;> simp_all <;> omega
        rw [e1] at hh
        exact hh
      · cases h1
  · intro y hy
    rw [List.mem_ofFn] at hy
    obtain ⟨i, rfl⟩ := hy
    exact (hg i).1

set_option maxRecDepth 100000 in
theorem trod_nums {H : Type} {enc : TypeId × Value → H} {w : World} {fuel : Nat} {cs : List Value} {x : DataW H × List MemPlace}
    (h : DataW.trod enc Tryz.prog w 0 (fun _ => true) true fuel 65 cs = some x) :
    ∃ (a : Option Addr) (len cap : Nat) (L : List Int), cs = [.slice a len cap] ∧ L.length = len ∧ len ≤ cap ∧ cap ≤ 9223372036854775807 ∧ Arr w.heap.size w a (cellsI L) ∧ ∀ p ∈ L, -9223372036854775808 ≤ p ∧ p ≤ 9223372036854775807 := by
  rcases open_slice Tryz.underlying65 h with ⟨hcs, _⟩ | ⟨x, l, c, m, n, D, Pl, hcs, _, hl, hm, hmm, _, hi⟩
  · exact ⟨none, 0, 0, [], hcs, rfl, by omega, by omega, .inl rfl, by simp⟩
  · have hmc : m = c := by simpa using hmm
    have hC : Tryz.prog.cellsOf 3 = 1 := by kernel_rfl
    unfold maxLen at hm
    obtain ⟨L, h1, h2, h3⟩ := row_of (fun n : Int => [Value.int .i64 n]) 1 (by omega) (fun _ => rfl) (fun p => -9223372036854775808 ≤ p ∧ p ≤ 9223372036854775807) w x l (fun i => by
      obtain ⟨cs', hc', ht'⟩ := hi i.1 (by have := i.2; omega)
      rw [hC] at hc'
      obtain ⟨_, hlen, hat⟩ := World.cells?_some hc'
      obtain ⟨s, e0, -, w0⟩ := DataW.trod_int Tryz.underlying3 ht'
      subst e0
      exact ⟨s, bd_i64 w0, fun j v hj => by rw [hat j (by have := (List.getElem?_eq_some_iff.1 hj).1; simpa using this)]; exact hj⟩)
    exact ⟨some x, l, c, L, hcs, h1, hl, by omega, h2, h3⟩
end Go.Proofs.YtbnddpicpomakaaGreatDoor

/- Rows of tokens that come in; the walks of law 19's Great and as. -/
set_option linter.unusedSimpArgs false
set_option linter.unusedVariables false
set_option maxRecDepth 100000
namespace Go.Proofs.YtbnddpicpomakaaGreatDoor
open Go.RowKit Go.ChangeShapes Go.WideShapes Go.Deep Go.Joins

/-- The numbers of a token that came in. -/
structure Tk.nums (t : Tk) : Prop where
  kd : -9223372036854775808 ≤ t.kd ∧ t.kd ≤ 9223372036854775807
  at_ : -9223372036854775808 ≤ t.at_ ∧ t.at_ ≤ 9223372036854775807
  n : -9223372036854775808 ≤ t.n ∧ t.n ≤ 9223372036854775807
/-- What the walk is told of a slice of tokens that came in. -/
structure ToksIn (w : World) (a : Option Addr) (len cap : Nat) (z : List Tk) : Prop where
  hlen : len = z.length
  hcap : len ≤ cap
  hmax : cap ≤ 9223372036854775807
  arr : Arr w.heap.size w a (cellsTk z)
  fair : ∀ t ∈ z, t.nums

set_option maxRecDepth 100000 in
theorem open_toks {H : Type} {enc : TypeId × Value → H} {w : World} {r : Reach} {b0 : Nat} {v : Value} {d : DataW H} {p : List MemPlace} (hv : Value.okWide Tryz.prog w r b0 23 v) (h : DataW.Trod enc Tryz.prog w 0 (fun _ => true) true 23 v d p) :
    ∃ (a : Option Addr) (len cap : Nat) (z : List Tk), v = .slice a len cap ∧ ToksIn w a len cap z := by
  obtain ⟨a, len, cap, rfl⟩ := okWide_slice Tryz.underlying23 hv
  obtain ⟨fuel, hf⟩ := h
  rcases open_slice Tryz.underlying23 hf with ⟨hcs, _⟩ | ⟨x, l, c, m, n, D, Pl, hcs, _, hl, hm, hmm, _, hi⟩
  · simp [Value.cells] at hcs
    obtain ⟨rfl, rfl, rfl⟩ := hcs
    exact ⟨none, 0, 0, [], rfl, rfl, by omega, by omega, .inl rfl, by simp⟩
  · simp [Value.cells] at hcs
    obtain ⟨rfl, rfl, rfl⟩ := hcs
    have hC : Tryz.prog.cellsOf 36 = 4 := by kernel_rfl
    unfold maxLen at hm
    have hmc : m = cap := by simpa using hmm
    obtain ⟨L, h1, h2, h3⟩ := row_of Tk.cells 4 (by decide) (fun _ => rfl) Tk.nums w x len (fun i => by
      obtain ⟨cs', hc', ht'⟩ := hi i.1 (by have := i.2; omega)
      rw [hC] at hc'
      obtain ⟨_, hlen, hat⟩ := World.cells?_some hc'
      obtain ⟨y0, y1, y2, y3, n', _, _, h0, h1, h2, h3⟩ := trod_struct4 Tryz.underlying36 ht'
      match cs', hlen with
      | [v0, v1, v2, v3], _ =>
        have g0 : DataW.trod enc Tryz.prog w 0 (fun _ => true) true n' 3 [v0] = some y0 := h0
        have g1 : DataW.trod enc Tryz.prog w 0 (fun _ => true) true n' 3 [v1] = some y1 := h1
        have g2 : DataW.trod enc Tryz.prog w 0 (fun _ => true) true n' 9 [v2] = some y2 := h2
        have g3 : DataW.trod enc Tryz.prog w 0 (fun _ => true) true n' 2 [v3] = some y3 := h3
        obtain ⟨kd, e0, -, w0⟩ := DataW.trod_int Tryz.underlying3 g0
        obtain ⟨at_, e1, -, w1⟩ := DataW.trod_int Tryz.underlying3 g1
        obtain ⟨s, e2, -, w2⟩ := DataW.trod_string Tryz.underlying9 g2
        obtain ⟨n, e3, -, w3⟩ := DataW.trod_int Tryz.underlying2 g3
        simp only [List.cons.injEq, and_true] at e0 e1 e2 e3
        subst e0 e1 e2 e3
        have hz0 := bd_i64 w0
        have hz1 := bd_i64 w1
        have hz3 := bd_i64 w3
        unfold maxLen at w2
        exact ⟨⟨kd, at_, s, n⟩, ⟨hz0, hz1, hz3⟩, fun j v hj => by rw [hat j (by have := (List.getElem?_eq_some_iff.1 hj).1; simpa [Tk.cells] using this)]; exact hj⟩)
    exact ⟨some x, len, cap, L, rfl, h1.symm, hl, by omega, h2, h3⟩

/-- Not too much for the statement. -/
def SmallTk (l : List Tk) : Prop := l.length ≤ 200 ∧ ∀ t ∈ l, t.tx.size ≤ 300
set_option maxHeartbeats 2000000 in
theorem great19_any (l : List Tk) (a : Option Addr) (cap : Nat) (w : World) (h : Arr w.heap.size w a (cellsTk l)) (hb : l.length ≤ cap) (hcap : cap ≤ 9223372036854775807) :
    Calls Tryz.prog 10 #[.slice a l.length cap] w fun e w' => (∃ b, e = .returned (.bool b) ∧ (b = false → SmallTk l)) ∧ w' = w := by
  have HA := Lib.hid h
  obtain ⟨m, hm⟩ : ∃ m, l.length = m := ⟨_, rfl⟩
  have HM := Lib.hid hm
  rw [hm] at hb ⊢
  clear h hm
  go_enter Tryz.func10, Tryz.ntmps10
  go_wp2
  go_loopw [3] (fun i wr => ∃ k : Nat, k ≤ m ∧ i = .int .i64 k ∧ wr = w ∧ Hid (∀ j (h : j < l.length), j < k → l[j].tx.size ≤ 300) ∧ Hid (0 < k → m ≤ 200)) (fun i _ => m - (intOf i).toNat)
  case atStart => exact ⟨0, by omega, rfl, rfl, (fun j _ hj => by omega), (fun h => by omega)⟩
  case round =>
    obtain ⟨k, hk, rfl, rfl, HI, HZ⟩ := hrel
    by_cases hlt : k < m
    · have hkl : k < l.length := by rw [HM.out]; exact hlt
      obtain ⟨b, o, hab, hbN, t0, t1, t2, t3⟩ := tkAt HA.out hkl
      subst hab
      by_cases h200 : 200 < m
      · have q1 : decide ((200 : Int) < (m : Int)) = true := by simp; omega
        go_wp2
        go_ret
        exact ⟨⟨true, rfl, fun h => by cases h⟩, rfl⟩
      have q1 : decide ((200 : Int) < (m : Int)) = false := by simp; omega
      by_cases h300 : 300 < l[k].tx.size
      · have q2 : decide ((300 : Int) < (l[k].tx.size : Int)) = true := by simp; omega
        generalize l[k] = x at *
        go_wp2
        go_ret
        exact ⟨⟨true, rfl, fun h => by cases h⟩, rfl⟩
      have q2 : decide ((300 : Int) < (l[k].tx.size : Int)) = false := by simp; omega
      have HI2 : Hid (∀ j (h : j < l.length), j < k + 1 → l[j].tx.size ≤ 300) := fun j h hj => by
        by_cases hjk : j = k
        · subst hjk; omega
        · exact HI.out j h (by omega)
      have HZ2 : Hid (0 < k + 1 → m ≤ 200) := fun _ => by omega
      generalize l[k] = x at *
      go_wp2
      go_roundw
      case rel => exact ⟨k + 1, by omega, by go_num, (by first | rfl | trivial), HI2, HZ2⟩
      case measure => (simp [intOf] <;> try omega)
    · have q0 : decide ((k : Int) < (m : Int)) = false := by simp; omega
      have hke : k = m := by omega
      have HS : Hid (SmallTk l) := by
        refine ⟨?_, fun t ht => ?_⟩
        · rw [HM.out]
          by_cases h0 : 0 < k
          · exact HZ.out h0
          · omega
        · obtain ⟨j, hj, rfl⟩ := List.getElem_of_mem ht
          exact HI.out j hj (by rw [HM.out] at hj; omega)
      clear HI HZ hke
      go_wp2
      go_ret
      exact ⟨⟨false, rfl, fun _ => HS.out⟩, rfl⟩

theorem info_rtk : (Tryz.prog.info? 69).map (fun i => (i.zero, i.size, i.bytes)) = some (some (.agg #[.int .i64 0, .int .i64 0, .string ⟨#[]⟩, .int .i64 0]), 4, 40) := by kernel_rfl
def RetTks (l : List Tk) (w : World) (e : Ending) (w' : World) : Prop :=
  ∃ (a : Option Addr) (cap : Nat), e = .returned (.slice a l.length cap) ∧ l.length ≤ cap ∧ cap ≤ 9223372036854775807 ∧ Arr w'.heap.size w' a (cellsTk l) ∧ Below w.heap.size w w'
set_option maxHeartbeats 4000000 in
theorem as19_any (l : List Tk) (a : Option Addr) (cap : Nat) (w : World) (h : Arr w.heap.size w a (cellsTk l)) (hl2 : l.length ≤ 200) (hb : l.length ≤ cap) (hcap : cap ≤ 9223372036854775807) :
    Calls Tryz.prog 13 #[.slice a l.length cap] w (RetTks l w) := by
  obtain ⟨i0, hi, hz0, hz1, hz2⟩ := info_parts info_rtk
  have HA := Lib.hid h
  obtain ⟨m, hm⟩ : ∃ m, l.length = m := ⟨_, rfl⟩
  have HM := Lib.hid hm
  rw [hm] at hb hl2 ⊢
  clear h hm
  go_enter Tryz.func13, Tryz.ntmps13
  go_wp2
  go_loopw [3, 4] (fun v i wr => ∃ (k : Nat) (cv : Value), cv = v ∧ k ≤ m ∧ i = .int .i64 (k : Int) ∧ Hid (wr.ownsRow w.heap.size 69 4 cv k (cellsTk (l.take k))) ∧ Hid (Below w.heap.size w wr)) (fun _ i _ => m - (intOf i).toNat)
  case atStart => exact ⟨0, _, rfl, by omega, rfl, World.ownsRow_nil _ _ _ _, Below.refl _ _⟩
  case round =>
    obtain ⟨k, cv, rfl, hk, rfl, HO, HB⟩ := hrel
    by_cases hlt : k < m
    · have hkl : k < l.length := by rw [HM.out]; exact hlt
      have HTk : Hid (cellsTk (l.take (k + 1)) = cellsTk (l.take k) ++ Tk.cells l[k]) := by
        show _ = _
        unfold cellsTk; rw [List.take_succ_eq_append_getElem hkl, cellsOf_snoc]
      obtain ⟨b, o, hab, hbN, t0, t1, t2, t3⟩ := tkAt HA.out hkl
      generalize l[k] = x at *
      subst hab
      obtain ⟨S, hS⟩ : ∃ S, cv.ownBlock.toList = S := ⟨_, rfl⟩
      have hSg : ∀ g ∈ S, w.heap.size ≤ g := fun g hg => by rw [← hS, Option.mem_toList] at hg; exact (HO.out.lt g hg).1
      have hbS : b ∉ S := fun hm => by have := hSg b hm; omega
      have hbr : b < wr.drew.heap.size := Nat.lt_of_lt_of_le hbN HB.out.size
      have u0 : ∀ V, Chg S wr.drew V → V.cell? ⟨b, o + k * 4, none⟩ = some (.int .i64 x.kd) := fun V hV => (hV.cell (b := b) hbr hbS).trans ((HB.out.cell (p := ⟨b, o + k * 4, none⟩) hbN).trans t0)
      have u1 : ∀ V, Chg S wr.drew V → V.cell? ⟨b, o + k * 4 + 1, none⟩ = some (.int .i64 x.at_) := fun V hV => (hV.cell (b := b) hbr hbS).trans ((HB.out.cell (p := ⟨b, o + k * 4 + 1, none⟩) hbN).trans t1)
      have u2 : ∀ V, Chg S wr.drew V → V.cell? ⟨b, o + k * 4 + 2, none⟩ = some (.string x.tx) := fun V hV => (hV.cell (b := b) hbr hbS).trans ((HB.out.cell (p := ⟨b, o + k * 4 + 2, none⟩) hbN).trans t2)
      have u3 : ∀ V, Chg S wr.drew V → V.cell? ⟨b, o + k * 4 + 3, none⟩ = some (.int .i64 x.n) := fun V hV => (hV.cell (b := b) hbr hbS).trans ((HB.out.cell (p := ⟨b, o + k * 4 + 3, none⟩) hbN).trans t3)
      have HBs := Lib.hid HB.out.size
      have HSS := Lib.hid hS
      clear t0 t1 t2 t3 hSg hbS hbr hkl hbN hS
      go_wp2_with fail
      refine wp_region_ordX S 24 [(0, true), (1, true), (2, true), (3, true), (4, true), (5, true), (6, true), (7, true), (8, true), (9, true), (10, true), (11, true), (12, true), (13, true), (14, true), (15, true), (16, true), (17, true), (18, true), (19, true), (20, true), (21, true), (22, false), (23, false)] (by kernel_rfl) (by kernel_rfl) (by kernel_rfl) (by kernel_rfl) ?_
      repeat (first | (refine wpOX_F (v := ?_) rfl (by rfl) (fun w' hL => ?_) ?_; rotate_left; (solve | (go_simp; with_reducible rfl) | go_simp); try simp only [Act.put, List.setIfInBounds_toArray, List.set_cons_zero, List.set_cons_succ]) | (refine wpOX_G (Chg.refl _) rfl (by rfl) ?_; try simp only [Act.put, List.setIfInBounds_toArray, List.set_cons_zero, List.set_cons_succ]))
      refine wpOX_C rfl (by rfl) ?_
      go_simp
      refine ⟨(Chg.refl _ _).alloc _, ?_⟩
      try simp only [Act.put, List.setIfInBounds_toArray, List.set_cons_zero, List.set_cons_succ]
      have hr2 : wr.drew.ownsRow w.heap.size 69 4 cv k (cellsTk (l.take k)) := HO.out
      refine wpOX_C rfl (by rfl) ?_
      refine wp_appM (.tmp 11) (.tmp 33) 29 rfl w.heap.size 69 i0 (.agg #[.int .i64 0, .int .i64 0, .string ⟨#[]⟩, .int .i64 0]) 4 40 1 Tryz.underlying29 hi hz0 rfl hz1 (by omega) hz2 (by omega) cv k _ [.int .i64 x.kd, .int .i64 x.at_, .string x.tx, .int .i64 x.n] wr.drew hr2 rfl _ rfl rfl (by intro u hu; simp at hu; rcases hu with rfl | rfl | rfl | rfl <;> rfl) rfl (by omega) HBs.out ?_
      intro cv2 x4 hr4 hc4 hsz4
      rw [HSS.out] at hc4
      refine ⟨hc4, ?_⟩
      try simp only [Act.put, List.setIfInBounds_toArray, List.set_cons_zero, List.set_cons_succ]
      have HB4 : Hid (Below w.heap.size w x4) := HB.out.trans (((Below.refl w.heap.size wr).drew.alloc HBs.out _).trans (hc4.below (by have := HBs.out; simp; omega) (fun g hg => (hr2.lt g (by rw [← HSS.out] at hg; simpa using hg)).1)))
      have HO4 : Hid (x4.ownsRow w.heap.size 69 4 cv2 (k + 1) (cellsTk (l.take (k + 1)))) := by show World.ownsRow _ _ _ _ _ _ _; rw [HTk.out]; exact hr4
      clear hr2 hr4 hc4 hsz4 u0 u1 u2 u3
      repeat (first | (refine wpOX_F (v := ?_) rfl (by rfl) (fun w' hL => ?_) ?_; rotate_left; (solve | (go_simp; with_reducible rfl) | go_simp); try simp only [Act.put, List.setIfInBounds_toArray, List.set_cons_zero, List.set_cons_succ]) | (refine wpOX_G (Chg.refl _) rfl (by rfl) ?_; try simp only [Act.put, List.setIfInBounds_toArray, List.set_cons_zero, List.set_cons_succ]))
      refine wpOX_end rfl (by rfl) ?_
      go_simp
      simp only [NoPanic]
      go_wp2
      go_roundw
      case rel => exact ⟨k + 1, cv2, rfl, by omega, by go_num, HO4.out, HB4.out⟩
      case measure => (simp [intOf] <;> try omega)
    · have q0 : decide ((k : Int) < (m : Int)) = false := by simp; omega
      have hke : k = m := by omega
      have hO := HO.out
      rw [hke, List.take_of_length_le (by rw [HM.out]; omega)] at hO
      obtain ⟨a2, c2, hv, hcc, hcm, hA2⟩ := own_slice hO
      have HC := Lib.hid hcc
      have HX := Lib.hid hcm
      have HA2 := Lib.hid hA2
      have HV := Lib.hid hv
      clear hO hv hcc hcm hA2 HO
      go_wp2
      go_ret
      unfold RetTks
      rw [HM.out]
      exact ⟨a2, c2, by rw [← HV.out]; rfl, HC.out, HX.out, HA2.out, HB.out⟩
end Go.Proofs.YtbnddpicpomakaaGreatDoor

/- The walk of token.Write. -/
set_option linter.unusedSimpArgs false
set_option linter.unusedVariables false
set_option maxRecDepth 100000
namespace Go.Proofs.YtbnddpicpomakaaGreatDoor
open Go.RowKit

theorem extraJoin : Builder.Extra Tryz.prog Tryz.laysJoin_ren := {
  sizeBuilder := by kernel_rfl
  liesBuilder := by kernel_rfl
  t5 := Tryz.underlying5
  a5 := Tryz.isAgg5
  z5 := Tryz.sizeOf5
  v5 := Tryz.zeroValue5
  infoByte := by kernel_rfl
  cellsByte := by kernel_rfl
  sizeByte := by kernel_rfl
  neB5 := by decide }

/-- Strings with another one between them. -/
def joinL (xs : List ByteArray) (sep : ByteArray) : List UInt8 := Lib.join (xs.map (·.data.toList)) sep.data.toList
def joinS (xs : List ByteArray) (sep : ByteArray) : ByteArray := baL (joinL xs sep)

theorem Join_any (xs : List ByteArray) (sep : ByteArray) (a : Option Addr) (c : Nat) (w : World) (hA : Arr w.heap.size w a (cellsS xs)) (hc : xs.length ≤ c) (hn : xs.length ≤ 100000000) (hl : (joinL xs sep).length ≤ 140737488355328) :
    Calls Tryz.prog 36 #[.slice a xs.length c, .string sep] w fun e w' => e = .returned (.string (joinS xs sep)) ∧ Below w.heap.size w w' := by
  by_cases h0 : xs = []
  · subst h0
    refine (Any.strings_Join_none { Tryz.laysJoin with } extraJoin a c sep w).mono ?_
    rintro e w' ⟨rfl, rfl⟩
    exact ⟨rfl, Below.refl _ _⟩
  · have hk : 0 < xs.length := by cases xs with | nil => exact absurd rfl h0 | cons x r => simp
    obtain ⟨b, o, rfl, hb, -⟩ := strAt hA hk
    refine (Any.strings_Join { Tryz.laysJoin with } extraJoin b o c xs sep w ?_ hb (by omega) hc hl).mono fun e w' h => h
    intro j x hj
    have hjl : j < xs.length := (List.getElem?_eq_some_iff.1 hj).1
    obtain ⟨b', o', he, -, hcell⟩ := strAt hA hjl
    injection he with he
    injection he with e1 e2
    subst e1 e2
    rw [List.getElem?_eq_getElem hjl] at hj
    injection hj with hj
    subst hj
    exact hcell

/-- The texts of tokens. -/
def textsTk (l : List Tk) : List ByteArray := l.filterMap fun t => if t.text.2 then some t.text.1 else none
theorem textsTk_take {l : List Tk} {k : Nat} (h : k < l.length) : textsTk (l.take (k + 1)) = textsTk (l.take k) ++ (if l[k].text.2 then [l[k].text.1] else []) := by
  unfold textsTk; rw [List.take_succ_eq_append_getElem h, List.filterMap_append]
  congr 1
  simp only [List.filterMap_cons, List.filterMap_nil]
  split <;> split at * <;> simp_all
theorem textsTk_len (l : List Tk) : (textsTk l).length ≤ l.length := List.length_filterMap_le _ _
theorem cellsS_snoc (l : List ByteArray) (s : ByteArray) : cellsS (l ++ [s]) = cellsS l ++ [.string s] := cellsOf_snoc _ _ _
theorem info_strT : (Tryz.prog.info? 9).map (fun i => (i.zero, i.size, i.bytes)) = some (some (.string ⟨#[]⟩), 1, 16) := by kernel_rfl
def spS : ByteArray := ⟨#[32]⟩

set_option maxHeartbeats 2000000 in
theorem tkWrite_any (l : List Tk) (a : Option Addr) (len cap : Nat) (w : World) (hT : Pre4 w) (hA : Arr w.heap.size w a (cellsTk l)) (hlen : len = l.length) (hmax : len ≤ 1000000) (hF : ∀ t ∈ l, t.fair ∧ t.tx.size ≤ 400000) (hj : (joinL (textsTk l) spS).length ≤ 140737488355328) :
    Calls Tryz.prog 11 #[.slice a len cap] w fun e w' => e = .returned (.string (joinS (textsTk l) spS)) ∧ Below w.heap.size w w' := by
  obtain ⟨iS, hiS, hzS, hsS, hbS⟩ := info_parts info_strT
  have HA := Lib.hid hA
  have HL := Lib.hid hlen
  have HF := Lib.hid hF
  have HJ := Lib.hid hj
  obtain ⟨R, hR⟩ : ∃ R, joinS (textsTk l) spS = R := ⟨_, rfl⟩
  rw [hR]
  have HR := Lib.hid hR
  clear hR
  have HP := Lib.hid (fun W (hb : Below w.heap.size w W) => hT.below hb)
  have HV0 : Hid (w.ownsRow w.heap.size 9 1 (.slice none 0 0) 0 (cellsS (textsTk (l.take 0)))) := World.ownsRow_nil _ _ _ _
  clear hA hlen hF hT hj
  go_enter Tryz.func11, Tryz.ntmps11
  go_wp2
  go_loopw [3, 10] (fun v i wr => ∃ (k n : Nat) (cv : Value), cv = v ∧ k ≤ len ∧ n ≤ k ∧ i = .int .i64 (k : Int) ∧ Hid (n = (textsTk (l.take k)).length) ∧ Hid (wr.ownsRow w.heap.size 9 1 cv n (cellsS (textsTk (l.take k)))) ∧ Hid (Below w.heap.size w wr)) (fun _ i _ => len - (intOf i).toNat)
  case atStart => exact ⟨0, 0, _, rfl, by omega, by omega, rfl, rfl, HV0, Below.refl _ _⟩
  case round =>
    clear HV0
    obtain ⟨k, n, cv, rfl, hk, hnk, rfl, HN, HV, HB⟩ := hrel
    by_cases hlt : k < len
    · have hkl : k < l.length := by have := HL.out; omega
      obtain ⟨b, o, rfl, hbN, c0, c1, c2, c3⟩ := tkAt (HA.out.below HB.out) hkl
      have hTk := textsTk_take hkl
      have hft := HF.out l[k] (List.getElem_mem hkl)
      obtain ⟨t, ht⟩ : ∃ t, l[k] = t := ⟨_, rfl⟩
      rw [ht] at c0 c1 c2 c3 hTk hft
      have HTk := Lib.hid hTk
      have HX : Hid (∀ W, Below w.heap.size w W → Calls Tryz.prog 35 #[.agg #[.int .i64 t.kd, .int .i64 t.at_, .string t.tx, .int .i64 t.n]] W fun e w' => e = .returned (.tuple #[.string t.text.1, .bool t.text.2]) ∧ Below W.heap.size W w') := fun W hb => tkText_any t W (HP.out W hb) hft.1 hft.2
      obtain ⟨⟨x, q⟩, hxq⟩ : ∃ X, t.text = X := ⟨_, rfl⟩
      rw [hxq] at HX HTk
      simp only at HX HTk
      have HBs := Lib.hid HB.out.size
      have HY := Lib.hid (HX.out (wr.alloc (.cells #[.int .i64 t.kd, .int .i64 t.at_, .string t.tx, .int .i64 t.n] 36)) (HB.out.trans ((Below.refl w.heap.size wr).alloc HBs.out _)))
      clear ht hft hTk hxq hkl HX hbN
      go_wp2_with fail
      refine HY.out.mono ?_
      rintro e w2 ⟨rfl, hb2⟩
      have HB1 : Hid (Below wr.heap.size wr w2) := ((Below.refl _ wr).alloc (Nat.le_refl _) _).trans (hb2.mono (by simp))
      have HB2 := Lib.hid (HB.out.trans (HB1.out.mono HBs.out))
      have HBs2 := Lib.hid HB2.out.size
      have HV2 := Lib.hid (own_below HV.out (Nat.le_refl _) HB1.out)
      clear hb2 HY c0 c1 c2 c3 HV HB HB1 HBs
      cases q with
      | false =>
        go_wp2
        go_roundw
        case rel => exact ⟨k + 1, n, cv, rfl, by omega, by omega, by go_num, by rw [HTk.out]; simpa [Hid] using HN.out, by rw [HTk.out]; simpa [Hid] using HV2.out, HB2.out⟩
        case measure => simp [intOf]; omega
      | true =>
        have HTk2 : Hid (textsTk (l.take (k + 1)) = textsTk (l.take k) ++ [x]) := by rw [HTk.out]; rfl
        clear HTk
        go_wp2_with (first | (at_builtin; refine wpList_appC rfl _ _ 72 rfl w.heap.size 9 iS (.string ⟨#[]⟩) 1 16 Tryz.underlying72 hiS hzS rfl hsS (by omega) hbS (by omega) cv n _ [.string x] w2 HV2.out rfl _ rfl rfl (by simp [Value.oneCell']) rfl (by omega) HBs2.out ?_; intro v5 w5 hown5 hc5 hsz5; have HO5 := Lib.hid hown5; have HC5 := Lib.hid hc5; clear hown5 hc5 hsz5))
        have HB5 : Hid (Below w.heap.size w w5) := HB2.out.trans (((Below.refl w.heap.size w2).alloc HBs2.out _).trans (HC5.out.below (by have := HBs2.out; simp; omega) (fun g hg => (HV2.out.lt g (by simpa using hg)).1)))
        go_roundw
        case rel => exact ⟨k + 1, n + 1, v5, rfl, by omega, by omega, by go_num, by rw [HTk2.out, List.length_append, ← HN.out]; rfl, by rw [HTk2.out, cellsS_snoc]; exact HO5.out, HB5.out⟩
        case measure => simp [intOf]; omega
    · have hke : k = l.length := by have := HL.out; omega
      have HO := HV.out
      have hN := HN.out
      rw [hke, List.take_length] at HO hN
      obtain ⟨ac, cc, hcv, hcc, hcm, hA2⟩ := own_slice HO
      have htl := textsTk_len l
      have hll := HL.out
      have HY := Lib.hid (Join_any (textsTk l) spS ac cc wr hA2 (by omega) (by omega) HJ.out)
      rw [← hN] at HY
      rw [HR.out] at HY
      unfold spS at HY
      subst hcv
      clear HO hA2 hcc hcm hN htl hll hke HV HN HA HF HJ
      go_wp2_with fail
      refine HY.out.mono ?_
      rintro e w2 ⟨rfl, hb2⟩
      have HB2 := Lib.hid (HB.out.trans (hb2.mono HB.out.size))
      clear hb2 HY
      go_wp2
      go_ret
      exact ⟨rfl, HB2.out⟩
end Go.Proofs.YtbnddpicpomakaaGreatDoor

/- Rose trees as data and in memory: a label, and a slice of such trees. -/
set_option linter.unusedSimpArgs false
set_option linter.unusedVariables false
set_option maxRecDepth 100000
namespace Go.Proofs.YtbnddpicpomakaaGreatDoor
open Go.RowKit

/-- A tree. -/
inductive Rose (α : Type) where
  | mk (lab : α) (args : List (Rose α))

def Rose.lab {α : Type} : Rose α → α
  | .mk l _ => l
def Rose.args {α : Type} : Rose α → List (Rose α)
  | .mk _ r => r
theorem Rose.eta {α : Type} (e : Rose α) : Rose.mk e.lab e.args = e := by cases e; rfl
theorem Rose.size_arg {α : Type} [SizeOf α] {l : α} {r : List (Rose α)} {x : Rose α} (h : x ∈ r) : SizeOf.sizeOf x < SizeOf.sizeOf (Rose.mk l r) := by
  have h1 := List.sizeOf_lt_of_mem h
  simp only [Rose.mk.sizeOf_spec]
  omega

theorem Rose.ind {α : Type} {P : Rose α → Prop} (h : ∀ l args, (∀ x ∈ args, P x) → P (.mk l args)) : ∀ e, P e
  | .mk l args => h l args (fun x _ => Rose.ind h x)
termination_by e => SizeOf.sizeOf e
decreasing_by exact Rose.size_arg ‹_›

/-- A tree with the place of its arguments. -/
structure RM (α : Type) where
  t : Rose α
  a : Option Addr
  cap : Nat

def cellsR {α : Type} (c : α → List Value) (x : RM α) : List Value := c x.t.lab ++ [.slice x.a x.t.args.length x.cap]

/-- The tree lies in blocks below N, at most n levels deep, each label fair; a and cap: the place of its arguments. -/
def RoseAt {α : Type} (F : α → Prop) (c : α → List Value) (N : Nat) (w : World) : Nat → RM α → Prop
  | 0, _ => False
  | n + 1, x => F x.t.lab ∧ x.t.args.length ≤ x.cap ∧ x.cap ≤ 9223372036854775807 ∧
      ∃ L : List (RM α), L.map (·.t) = x.t.args ∧ Arr N w x.a (cellsOf (cellsR c) L) ∧ ∀ y ∈ L, RoseAt F c N w n y

theorem RoseAt.below {α : Type} {F : α → Prop} {c : α → List Value} {N : Nat} {w w' : World} (hb : Below N w w') : ∀ {n : Nat} {x : RM α}, RoseAt F c N w n x → RoseAt F c N w' n x
  | 0, _, h => h.elim
  | n + 1, _, ⟨h1, h2, h3, L, h4, h5, h6⟩ => ⟨h1, h2, h3, L, h4, h5.below hb, fun y hy => RoseAt.below hb (h6 y hy)⟩

theorem RoseAt.mono {α : Type} {F : α → Prop} {c : α → List Value} {N M : Nat} {w : World} (hM : N ≤ M) : ∀ {n : Nat} {x : RM α}, RoseAt F c N w n x → RoseAt F c M w n x
  | 0, _, h => h.elim
  | n + 1, _, ⟨h1, h2, h3, L, h4, h5, h6⟩ => ⟨h1, h2, h3, L, h4, h5.mono hM, fun y hy => RoseAt.mono hM (h6 y hy)⟩

theorem RoseAt.later {α : Type} {F : α → Prop} {c : α → List Value} {w w' : World} {n : Nat} {x : RM α} (h : RoseAt F c w.heap.size w n x) (hb : Below w.heap.size w w') : RoseAt F c w'.heap.size w' n x := (h.below hb).mono hb.size

theorem RoseAt.up {α : Type} {F : α → Prop} {c : α → List Value} {N : Nat} {w : World} : ∀ {n : Nat} {x : RM α}, RoseAt F c N w n x → RoseAt F c N w (n + 1) x
  | 0, _, h => h.elim
  | n + 1, _, ⟨h1, h2, h3, L, h4, h5, h6⟩ => ⟨h1, h2, h3, L, h4, h5, fun y hy => RoseAt.up (h6 y hy)⟩

theorem RoseAt.ups {α : Type} {F : α → Prop} {c : α → List Value} {N : Nat} {w : World} {n m : Nat} {x : RM α} (h : RoseAt F c N w n x) (hm : n ≤ m) : RoseAt F c N w m x := by
  induction hm with
  | refl => exact h
  | step _ ih => exact ih.up

theorem RoseAt.pos {α : Type} {F : α → Prop} {c : α → List Value} {N : Nat} {w : World} {n : Nat} {x : RM α} (h : RoseAt F c N w n x) : 0 < n := by
  cases n with
  | zero => exact h.elim
  | succ n => omega

theorem RoseAt.fair {α : Type} {F : α → Prop} {c : α → List Value} {N : Nat} {w : World} {n : Nat} {x : RM α} (h : RoseAt F c N w n x) : F x.t.lab ∧ x.t.args.length ≤ x.cap ∧ x.cap ≤ 9223372036854775807 := by
  cases n with
  | zero => exact h.elim
  | succ n => exact ⟨h.1, h.2.1, h.2.2.1⟩

/-- The k-th argument: its cells. -/
theorem RoseAt.kid {α : Type} {F : α → Prop} {c : α → List Value} {z : Nat} (hz : ∀ l, (c l).length = z) {N : Nat} {w : World} {n : Nat} {x : RM α} (h : RoseAt F c N w (n + 1) x) {k : Nat} (hk : k < x.t.args.length) :
    ∃ y : RM α, y.t = x.t.args[k] ∧ RoseAt F c N w n y ∧ ∃ b o, x.a = some ⟨b, o, none⟩ ∧ b < N ∧ ∀ (j : Nat) (v : Value), (cellsR c y)[j]? = some v → w.cell? ⟨b, o + k * (z + 1) + j, none⟩ = some v := by
  obtain ⟨_, _, _, L, hL, hA, hR⟩ := h
  have hlen : L.length = x.t.args.length := by rw [← hL]; simp
  have hlz : ∀ y : RM α, (cellsR c y).length = z + 1 := fun y => by simp [cellsR, hz]
  have hkL : k < L.length := by omega
  obtain ⟨b, o, ha, hb, hc⟩ := hA.at_ (by intro h0; have := cellsOf_len (cellsR c) (z + 1) hlz L; rw [h0] at this; have h2 := Nat.mul_pos (show 0 < L.length by omega) (show 0 < z + 1 by omega); rw [List.length_nil] at this; omega)
  refine ⟨L[k], ?_, hR _ (List.getElem_mem _), b, o, ha, hb, fun j v hv => ?_⟩
  · have : (L.map (·.t))[k]? = some (L[k].t) := by simp [List.getElem?_eq_getElem hkL]
    rw [hL, List.getElem?_eq_getElem hk] at this
    exact (Option.some.inj this).symm
  · have := hc _ _ (cellsOf_get (cellsR c) (z + 1) hlz L k j L[k] v (List.getElem?_eq_getElem hkL) hv)
    rw [Nat.add_assoc]; exact this

end Go.Proofs.YtbnddpicpomakaaGreatDoor
