/- Several texts of one proof, one behind the other. -/
import Derived.Test.YtbnddpicpomakaaDoorIPk9
set_option linter.unusedSimpArgs false
set_option linter.unusedVariables false

/- The walk of token.front. -/
set_option linter.unusedSimpArgs false
set_option linter.unusedVariables false
set_option maxRecDepth 100000
namespace Go.Proofs.YtbnddpicpomakaaDoor
open Go.RowKit

theorem class_front (s : ByteArray) (h : 1 ≤ s.size) : classZ ((Lib.decodeGo s).1 : Int) = classZ (((bytesU s).headD 128 : Nat) : Int) := by
  have hp : 0 < s.size := h
  have hB := byteN_at s 0 hp
  have hh : (bytesU s).headD 128 = byteN s 0 := by
    have hl : 0 < (bytesU s).length := by rw [bytesU_len]; exact hp
    unfold byteN
    cases hb : bytesU s with
    | nil => rw [hb] at hl; simp at hl
    | cons c r => rfl
  rw [hh]
  unfold Lib.decodeGo
  rw [if_neg (by omega)]
  by_cases ha : (s[0]'hp).toNat < 128
  · rw [decode_ascii s 0 hp ha, hB]
  · have := decode_high s 0 hp (by omega)
    rw [class_high (by omega), class_high (by omega)]

set_option maxHeartbeats 4000000 in
theorem tkFront_any (s : ByteArray) (w : World) (hT : Pre6 w) (hs : s.size ≤ 400000) (h1 : 1 ≤ s.size) : Calls Tryd.prog 27 #[.string s] w (RetF (frontR (bytesU s)) w) := by
  obtain ⟨w0, hw0⟩ : ∃ w0, w.alloc (.cells #[.int .i64 0, .int .i64 0, .string ⟨#[]⟩, .int .i64 0] 33) = w0 := ⟨_, rfl⟩
  have hZ0 : Blk (w.alloc (.cells #[.int .i64 0, .int .i64 0, .string ⟨#[]⟩, .int .i64 0] 33)) w.heap.size 33 zTk.cs := zTk_blk w
  rw [hw0] at hZ0
  have HZ0 := Lib.hid hZ0
  have HB0 : Hid (Below w.heap.size w w0) := by rw [← hw0]; exact (Below.refl _ w).alloc (Nat.le_refl _) _
  have hlt0 : w.heap.size < w0.heap.size := by rw [← hw0]; simp
  have HL0 : Hid (w.heap.size < w0.heap.size) := hlt0
  clear hZ0 hlt0
  have HPx : Hid (∀ W, Calls Tryd.prog 48 #[.string s, .string ⟨#[120, 39]⟩] W fun e w' => e = .returned (.bool ([120, 39].isPrefixOf (bytesU s))) ∧ w' = W) := fun W => pre_any s ⟨#[120, 39]⟩ W
  have HPX : Hid (∀ W, Calls Tryd.prog 48 #[.string s, .string ⟨#[88, 39]⟩] W fun e w' => e = .returned (.bool ([88, 39].isPrefixOf (bytesU s))) ∧ w' = W) := fun W => pre_any s ⟨#[88, 39]⟩ W
  have HBl := Lib.hid (fun W (hb : Below w.heap.size w W) => tkBlob_any s W (hT.below hb) hs h1)
  have HWd := Lib.hid (fun W => tkWord_any s W hs)
  have HNm := Lib.hid (fun W (hb : Below w.heap.size w W) => tkNum_any s W (hT.below hb) hs)
  have HQu := Lib.hid (fun W (hb : Below w.heap.size w W) => tkQuot_any s W (hT.below hb) hs)
  have HSi := Lib.hid (fun W => tkSign_any s W)
  have HDe : Hid (∀ W, Below w.heap.size w W → Calls Tryd.prog 50 #[.string s] W fun e w' => e = .returned (.tuple #[.int .i32 ((Lib.decodeGo s).1 : Int), .int .i64 ((Lib.decodeGo s).2 : Int)]) ∧ Below W.heap.size W w') := fun W hb => Any.utf8_DecodeRuneInString Tryd.laysDec s W (hT.below hb).tabs
  obtain ⟨dr, hdr⟩ : ∃ r : Nat, (Lib.decodeGo s).1 = r := ⟨_, rfl⟩
  obtain ⟨dk, hdk⟩ : ∃ r : Nat, (Lib.decodeGo s).2 = r := ⟨_, rfl⟩
  have hcf := class_front s h1
  have HV : Hid (frontR (bytesU s) = if ([120, 39].isPrefixOf (bytesU s) || [88, 39].isPrefixOf (bytesU s)) = true then blobR (bytesU s) else if classZ (((bytesU s).headD 128 : Nat) : Int) = 2 then wordR (bytesU s) else if classZ (((bytesU s).headD 128 : Nat) : Int) = 3 then numR (bytesU s) else if classZ (((bytesU s).headD 128 : Nat) : Int) = 4 then quotR (bytesU s) else signR (bytesU s)) := by simp only [frontR, Hid]
  have HCl := Lib.hid (fun W => Class_any (dr : Int) W)
  rw [← hcf, hdr] at HV
  rw [hdr, hdk] at HDe
  generalize classZ (dr : Int) = c at *
  unfold RetF at HBl HWd HNm HQu HSi
  obtain ⟨⟨⟨ka, aa, xa, na⟩, za, ea⟩, hra⟩ : ∃ r, blobR (bytesU s) = r := ⟨_, rfl⟩
  obtain ⟨⟨⟨kb, ab, xb, nb⟩, zb, eb⟩, hrb⟩ : ∃ r, wordR (bytesU s) = r := ⟨_, rfl⟩
  obtain ⟨⟨⟨kc, ac, xc, nc⟩, zc, ec⟩, hrc⟩ : ∃ r, numR (bytesU s) = r := ⟨_, rfl⟩
  obtain ⟨⟨⟨kd, ad, xd, nd⟩, zd, ed⟩, hrd⟩ : ∃ r, quotR (bytesU s) = r := ⟨_, rfl⟩
  obtain ⟨⟨⟨ke, ae, xe, ne⟩, ze, ee⟩, hre⟩ : ∃ r, signR (bytesU s) = r := ⟨_, rfl⟩
  rw [hra] at HBl HV
  rw [hrb] at HWd HV
  rw [hrc] at HNm HV
  rw [hrd] at HQu HV
  rw [hre] at HSi HV
  simp only [Tk.cs] at HBl HWd HNm HQu HSi
  generalize [120, 39].isPrefixOf (bytesU s) = p1 at *
  generalize [88, 39].isPrefixOf (bytesU s) = p2 at *
  clear hT hs h1 hdr hdk hcf hra hrb hrc hrd hre
  go_enter Tryd.func27, Tryd.ntmps27
  cases p1 with
  | true =>
    rw [if_pos (by rfl)] at HV
    go_wp2_with fail
    refine (HPx.out _).mono ?_
    rintro e w9 ⟨rfl, rfl⟩
    go_wp2_with fail
    refine (HBl.out _ HB0.out).mono ?_
    rintro e w2 ⟨rfl, hb2⟩
    have HB2 := Lib.hid (HB0.out.trans (hb2.mono HB0.out.size))
    have HZ2 : Hid (Blk w2 w.heap.size 33 zTk.cs) := (hb2.block _ HL0.out).trans HZ0.out
    have HL2 : Hid (w.heap.size < w2.heap.size) := Nat.lt_of_lt_of_le HL0.out hb2.size
    clear hb2
    obtain ⟨s1, s2, s3⟩ := tok_end (w := w) (⟨ka, aa, xa, na⟩ : Tk) HZ2.out HB2.out
    simp only [Tk.cs, zTk] at s1 s2 s3
    have S1 := Lib.hid s1
    have S2 := Lib.hid s2
    have S3 := Lib.hid s3
    clear s1 s2 s3
    go_wp2_with (first | (guard_target =~ wpList _ _ _ (Oper.mk _ (Op.store 33 _ _) _ _ _ _ :: _) _ _; refine wpList_skp rfl (exec_store rfl rfl rfl S1.out) ?_))
    refine bodyPost_ret (results_cell_tmp2 Tryd.results27 _ _ rfl rfl rfl S2.out) rfl ?_
    unfold RetF
    exact ⟨by rw [HV.out]; rfl, S3.out⟩
  | false =>
    go_wp2_with fail
    refine (HPx.out _).mono ?_
    rintro e w9 ⟨rfl, rfl⟩
    cases p2 with
    | true =>
      rw [if_pos (by rfl)] at HV
      go_wp2_with fail
      refine (HPX.out _).mono ?_
      rintro e w9 ⟨rfl, rfl⟩
      go_wp2_with fail
      refine (HBl.out _ HB0.out).mono ?_
      rintro e w2 ⟨rfl, hb2⟩
      have HB2 := Lib.hid (HB0.out.trans (hb2.mono HB0.out.size))
      have HZ2 : Hid (Blk w2 w.heap.size 33 zTk.cs) := (hb2.block _ HL0.out).trans HZ0.out
      have HL2 : Hid (w.heap.size < w2.heap.size) := Nat.lt_of_lt_of_le HL0.out hb2.size
      clear hb2
      obtain ⟨s1, s2, s3⟩ := tok_end (w := w) (⟨ka, aa, xa, na⟩ : Tk) HZ2.out HB2.out
      simp only [Tk.cs, zTk] at s1 s2 s3
      have S1 := Lib.hid s1
      have S2 := Lib.hid s2
      have S3 := Lib.hid s3
      clear s1 s2 s3
      go_wp2_with (first | (guard_target =~ wpList _ _ _ (Oper.mk _ (Op.store 33 _ _) _ _ _ _ :: _) _ _; refine wpList_skp rfl (exec_store rfl rfl rfl S1.out) ?_))
      refine bodyPost_ret (results_cell_tmp2 Tryd.results27 _ _ rfl rfl rfl S2.out) rfl ?_
      unfold RetF
      exact ⟨by rw [HV.out]; rfl, S3.out⟩
    | false =>
      rw [if_neg (by decide)] at HV
      go_wp2_with fail
      refine (HPX.out _).mono ?_
      rintro e w9 ⟨rfl, rfl⟩
      go_wp2_with fail
      refine (HDe.out _ HB0.out).mono ?_
      rintro e w1 ⟨rfl, hb1⟩
      have HB1 := Lib.hid (HB0.out.trans (hb1.mono HB0.out.size))
      have HZ1 : Hid (Blk w1 w.heap.size 33 zTk.cs) := (hb1.block _ HL0.out).trans HZ0.out
      have HL1 : Hid (w.heap.size < w1.heap.size) := Nat.lt_of_lt_of_le HL0.out hb1.size
      clear hb1
      go_wp2_with fail
      refine (HCl.out _).mono ?_
      rintro e w9 ⟨rfl, rfl⟩
      by_cases k2 : c = 2
      · subst k2
        rw [if_pos rfl] at HV
        go_wp2_with fail
        refine (HWd.out _).mono ?_
        rintro e w2 ⟨rfl, hb2⟩
        have HB2 := Lib.hid (HB1.out.trans (hb2.mono HB1.out.size))
        have HZ2 : Hid (Blk w2 w.heap.size 33 zTk.cs) := (hb2.block _ HL1.out).trans HZ1.out
        have HL2 : Hid (w.heap.size < w2.heap.size) := Nat.lt_of_lt_of_le HL1.out hb2.size
        clear hb2
        obtain ⟨s1, s2, s3⟩ := tok_end (w := w) (⟨kb, ab, xb, nb⟩ : Tk) HZ2.out HB2.out
        simp only [Tk.cs, zTk] at s1 s2 s3
        have S1 := Lib.hid s1
        have S2 := Lib.hid s2
        have S3 := Lib.hid s3
        clear s1 s2 s3
        go_wp2_with (first | (guard_target =~ wpList _ _ _ (Oper.mk _ (Op.store 33 _ _) _ _ _ _ :: _) _ _; refine wpList_skp rfl (exec_store rfl rfl rfl S1.out) ?_))
        refine bodyPost_ret (results_cell_tmp2 Tryd.results27 _ _ rfl rfl rfl S2.out) rfl ?_
        unfold RetF
        exact ⟨by rw [HV.out]; rfl, S3.out⟩
      have q2 : (c == 2) = false := by simpa using k2
      rw [if_neg k2] at HV
      by_cases k3 : c = 3
      · subst k3
        rw [if_pos rfl] at HV
        go_wp2_with fail
        refine (HNm.out _ HB1.out).mono ?_
        rintro e w2 ⟨rfl, hb2⟩
        have HB2 := Lib.hid (HB1.out.trans (hb2.mono HB1.out.size))
        have HZ2 : Hid (Blk w2 w.heap.size 33 zTk.cs) := (hb2.block _ HL1.out).trans HZ1.out
        have HL2 : Hid (w.heap.size < w2.heap.size) := Nat.lt_of_lt_of_le HL1.out hb2.size
        clear hb2
        obtain ⟨s1, s2, s3⟩ := tok_end (w := w) (⟨kc, ac, xc, nc⟩ : Tk) HZ2.out HB2.out
        simp only [Tk.cs, zTk] at s1 s2 s3
        have S1 := Lib.hid s1
        have S2 := Lib.hid s2
        have S3 := Lib.hid s3
        clear s1 s2 s3
        go_wp2_with (first | (guard_target =~ wpList _ _ _ (Oper.mk _ (Op.store 33 _ _) _ _ _ _ :: _) _ _; refine wpList_skp rfl (exec_store rfl rfl rfl S1.out) ?_))
        refine bodyPost_ret (results_cell_tmp2 Tryd.results27 _ _ rfl rfl rfl S2.out) rfl ?_
        unfold RetF
        exact ⟨by rw [HV.out]; rfl, S3.out⟩
      have q3 : (c == 3) = false := by simpa using k3
      rw [if_neg k3] at HV
      by_cases k4 : c = 4
      · subst k4
        rw [if_pos rfl] at HV
        go_wp2_with fail
        refine (HQu.out _ HB1.out).mono ?_
        rintro e w2 ⟨rfl, hb2⟩
        have HB2 := Lib.hid (HB1.out.trans (hb2.mono HB1.out.size))
        have HZ2 : Hid (Blk w2 w.heap.size 33 zTk.cs) := (hb2.block _ HL1.out).trans HZ1.out
        have HL2 : Hid (w.heap.size < w2.heap.size) := Nat.lt_of_lt_of_le HL1.out hb2.size
        clear hb2
        obtain ⟨s1, s2, s3⟩ := tok_end (w := w) (⟨kd, ad, xd, nd⟩ : Tk) HZ2.out HB2.out
        simp only [Tk.cs, zTk] at s1 s2 s3
        have S1 := Lib.hid s1
        have S2 := Lib.hid s2
        have S3 := Lib.hid s3
        clear s1 s2 s3
        go_wp2_with (first | (guard_target =~ wpList _ _ _ (Oper.mk _ (Op.store 33 _ _) _ _ _ _ :: _) _ _; refine wpList_skp rfl (exec_store rfl rfl rfl S1.out) ?_))
        refine bodyPost_ret (results_cell_tmp2 Tryd.results27 _ _ rfl rfl rfl S2.out) rfl ?_
        unfold RetF
        exact ⟨by rw [HV.out]; rfl, S3.out⟩
      have q4 : (c == 4) = false := by simpa using k4
      rw [if_neg k4] at HV
      go_wp2_with fail
      refine (HSi.out _).mono ?_
      rintro e w2 ⟨rfl, hb2⟩
      have HB2 := Lib.hid (HB1.out.trans (hb2.mono HB1.out.size))
      have HZ2 : Hid (Blk w2 w.heap.size 33 zTk.cs) := (hb2.block _ HL1.out).trans HZ1.out
      have HL2 : Hid (w.heap.size < w2.heap.size) := Nat.lt_of_lt_of_le HL1.out hb2.size
      clear hb2
      obtain ⟨s1, s2, s3⟩ := tok_end (w := w) (⟨ke, ae, xe, ne⟩ : Tk) HZ2.out HB2.out
      simp only [Tk.cs, zTk] at s1 s2 s3
      have S1 := Lib.hid s1
      have S2 := Lib.hid s2
      have S3 := Lib.hid s3
      clear s1 s2 s3
      go_wp2_with (first | (guard_target =~ wpList _ _ _ (Oper.mk _ (Op.store 33 _ _) _ _ _ _ :: _) _ _; refine wpList_skp rfl (exec_store rfl rfl rfl S1.out) ?_))
      refine bodyPost_ret (results_cell_tmp2 Tryd.results27 _ _ rfl rfl rfl S2.out) rfl ?_
      unfold RetF
      exact ⟨by rw [HV.out]; rfl, S3.out⟩
end Go.Proofs.YtbnddpicpomakaaDoor

/- Rows of the call's own: where they lie, what leaves them as they are. -/
set_option linter.unusedSimpArgs false
set_option linter.unusedVariables false
set_option maxRecDepth 100000
namespace Go.Proofs.YtbnddpicpomakaaDoor
open Go.RowKit

theorem own_lt {w : World} {base : Nat} {e : TypeId} {size n : Nat} {v : Value} {xs : List Value} (h : w.ownsRow base e size v n xs) {g : Nat} (hg : v.ownBlock = some g) : g < w.heap.size := by
  rcases h.2 with ⟨rfl, _⟩ | ⟨g', cap, cur, rfl, _, hh, _⟩
  · simp [Value.ownBlock] at hg
  · have : g' = g := by simpa [Value.ownBlock] using hg
    subst this
    exact Blk.lt (t := e) hh
theorem own_keep {w w' : World} {base : Nat} {e : TypeId} {size n : Nat} {v : Value} {xs : List Value} (h : w.ownsRow base e size v n xs) (hk : ∀ g, v.ownBlock = some g → w'.heap[g]? = w.heap[g]?) : w'.ownsRow base e size v n xs := by
  refine ⟨h.1, ?_⟩
  rcases h.2 with h2 | ⟨g, cap, cur, hv, hg, hh, r⟩
  · exact .inl h2
  · exact .inr ⟨g, cap, cur, hv, hg, by rw [hk g (by rw [hv]; rfl)]; exact hh, r⟩
theorem own_chg {w w' : World} {base : Nat} {e : TypeId} {size n : Nat} {v : Value} {xs : List Value} {S : List Nat} (h : w.ownsRow base e size v n xs) (hc : Chg S w w') (hn : ∀ g, v.ownBlock = some g → g ∉ S) : w'.ownsRow base e size v n xs :=
  own_keep h fun g hg => hc.block g (own_lt h hg) (hn g hg)
theorem own_ne {w : World} {base : Nat} {e : TypeId} {size n : Nat} {v : Value} {xs : List Value} (h : w.ownsRow base e size v n xs) {g : Nat} {t : TypeId} {cs : Array Value} (hb : Blk w g t cs) (hne : e ≠ t) : v.ownBlock ≠ some g := by
  rcases h.2 with ⟨rfl, _⟩ | ⟨g', cap, cur, rfl, _, hh, _⟩
  · simp [Value.ownBlock]
  · intro he
    have : g' = g := by simpa [Value.ownBlock] using he
    subst this
    exact Blk.ne_ (t := e) hh hb hne rfl
end Go.Proofs.YtbnddpicpomakaaDoor

/- The walk of token.Read. -/
set_option linter.unusedSimpArgs false
set_option linter.unusedVariables false
set_option maxRecDepth 100000
namespace Go.Proofs.YtbnddpicpomakaaDoor
open Go.RowKit

/-- Each token has a byte at least, and no more than there are. -/
theorem skipR_pos {ks : List Int} {l : List Nat} (h : ks.contains (classZ ((l.headD 128 : Nat) : Int)) = true) (h0 : ks.contains 0 = false) : 1 ≤ skipR ks l := by
  cases l with
  | nil =>
    have e : classZ ((128 : Nat) : Int) = 0 := class_high (by omega)
    simp only [List.headD_nil] at h
    rw [e, h0] at h; cases h
  | cons c r =>
    simp only [List.headD_cons] at h
    rw [skipR, if_pos h]; omega
theorem unq_err : (unquoteS (strN [])).2 ≠ 0 := by decide +kernel
theorem quot_pos {l : List Nat} (h : (quotR l).2.2 = 0) : 1 ≤ (quotR l).2.1 := by
  simp only [quotR] at h ⊢
  split at h
  · rename_i h2
    rw [if_pos h2]
    simp only
    by_cases hz : quotesR l = 0
    · rw [hz, List.take_zero] at h2
      exact absurd h2 unq_err
    · omega
  · simp at h
theorem sgn_mem {l x : List Nat} (h : signsR.find? (fun x => x.isPrefixOf l) = some x) : 1 ≤ x.length ∧ x.length ≤ l.length := by
  have h1 := List.find?_some h
  have h2 := List.mem_of_find?_eq_some h
  refine ⟨?_, (List.isPrefixOf_iff_prefix.1 (by simpa using h1)).length_le⟩
  have : ∀ y ∈ signsR, 1 ≤ y.length := by decide
  exact this x h2
theorem pre_len {p l : List Nat} (h : p.isPrefixOf l = true) : p.length ≤ l.length := (List.isPrefixOf_iff_prefix.1 h).length_le
theorem front_size {l : List Nat} (h : (frontR l).2.2 = 0) : 1 ≤ (frontR l).2.1 ∧ (frontR l).2.1 ≤ l.length := by
  unfold frontR at h ⊢
  split at h
  · rename_i hp
    rw [if_pos hp]
    rw [blobR_eq] at h ⊢
    have hl : 2 ≤ l.length := by
      rw [Bool.or_eq_true] at hp
      rcases hp with hp | hp <;> exact pre_len hp
    split at h
    · rename_i hq
      rw [if_pos hq]
      split at h
      · rename_i hu
        rw [if_pos hu]
        have := (quotR_tx (l.drop 1)).2
        rw [List.length_drop] at this
        simp only; omega
      · simp at h
    · rename_i hq
      exact absurd h hq
  · rename_i hp
    rw [if_neg hp]
    simp only at h ⊢
    split at h
    · rename_i hc
      rw [if_pos hc]
      have h1 := skipR_le [2, 3] l
      have h2 : 1 ≤ skipR [2, 3] l := skipR_pos (by rw [hc]; decide) (by decide)
      simp only [wordR] at h ⊢
      split at h
      · rename_i h3; rw [if_pos h3]; exact ⟨h2, h1⟩
      · simp at h
    · rename_i hc2
      rw [if_neg hc2]
      split at h
      · rename_i hc
        rw [if_pos hc]
        have h1 := skipR_le [3] l
        have h2 : 1 ≤ skipR [3] l := skipR_pos (by rw [hc]; decide) (by decide)
        simp only [numR] at h ⊢
        split at h
        · simp at h
        · rename_i h3
          rw [if_neg h3]
          split at h
          · rename_i h4; rw [if_pos h4]; exact ⟨h2, h1⟩
          · rename_i h4; exact absurd h h4
      · rename_i hc3
        rw [if_neg hc3]
        split at h
        · rename_i hc
          rw [if_pos hc]
          exact ⟨quot_pos h, (quotR_tx l).2⟩
        · rename_i hc4
          rw [if_neg hc4]
          unfold signR at h ⊢
          cases hf : signsR.find? (fun x => x.isPrefixOf l) with
          | none => rw [hf] at h; simp at h
          | some x => simp only; exact sgn_mem hf

/-- What Read hands back. -/
def RetRd19 (v : List Tk × Nat × Int) (w : World) (e : Ending) (w' : World) : Prop :=
  ∃ (a : Option Addr) (cap : Nat), e = .returned (.tuple #[.slice a v.1.length cap, .agg #[.int .i64 (v.2.1 : Int), .int .i64 v.2.2]]) ∧ v.1.length ≤ cap ∧ cap ≤ 9223372036854775807 ∧ Arr w'.heap.size w' a (cellsTk v.1) ∧ Below w.heap.size w w'
theorem info_ftS : (Tryd.prog.info? 26).map (·.size) = some 2 := by kernel_rfl
theorem info_tk : (Tryd.prog.info? 33).map (fun i => (i.zero, i.size, i.bytes)) = some (some (.agg #[.int .i64 0, .int .i64 0, .string ⟨#[]⟩, .int .i64 0]), 4, 40) := by kernel_rfl
theorem results_tmp_cell {P : Program} {fn : Func} {p t : Tmp} {ty : TypeId} (h : fn.results = #[.tmp t, .cell p ty]) (tmps : Array Value) (w : World) {ad : Addr} {v u : Value}
    (hp : tmps.getD p undef = .pointer (some ad)) (ht : tmps.getD t undef = u) (hl : (loadVar ty ad).run P w = .ok v w) : (results fn tmps).run P w = .ok (.tuple #[u, v]) w := by
  have hp' : tmps[p]?.getD undef = .pointer (some ad) := by simpa using hp
  have ht' : tmps[t]?.getD undef = u := by simpa using ht
  simp [results, h, hp', ht', asAddr, hl]
/-- The end: a fault is stored in the result's cell. -/
theorem ft_end {w W : World} (p q : Int) (hB : Blk W w.heap.size 26 #[.int .i64 0, .int .i64 0]) (hb : Below w.heap.size w W) :
    (storeVar 26 ⟨w.heap.size, 0, none⟩ (.agg #[.int .i64 p, .int .i64 q])).run Tryd.prog W = .ok () (W.setRow w.heap.size #[.int .i64 p, .int .i64 q]) ∧ (loadVar 26 ⟨w.heap.size, 0, none⟩).run Tryd.prog (W.setRow w.heap.size #[.int .i64 p, .int .i64 q]) = .ok (.agg #[.int .i64 p, .int .i64 q]) (W.setRow w.heap.size #[.int .i64 p, .int .i64 q]) ∧ Below w.heap.size w (W.setRow w.heap.size #[.int .i64 p, .int .i64 q]) ∧ Chg [w.heap.size] W (W.setRow w.heap.size #[.int .i64 p, .int .i64 q]) := by
  have hc : Chg [w.heap.size] W (W.setRow w.heap.size #[.int .i64 p, .int .i64 q]) := (Chg.refl _ _).setRow (.inl (by simp)) _
  exact ⟨run_storeVar_row _ _ _ 26 _ _ hB (by rw [info_ftS]; rfl) rfl (by simp [Value.oneCell']), run_loadVar_row _ _ _ 26 _ (0, 0) _ (Blk.setRow (new := #[.int .i64 p, .int .i64 q]) hB) Tryd.underlying26 rfl (by rw [info_ftS]; rfl), hb.trans (hc.below hb.size (by simp)), hc⟩
theorem readR_end {l : List Nat} {at_ n : Nat} (h : ¬ at_ < l.length) : readR l n at_ = ([], at_, 0) := by
  cases n with
  | zero => rfl
  | succ n => rw [readR, if_neg h]

set_option maxHeartbeats 8000000 in
theorem tkRead_any (s : ByteArray) (w : World) (hT : Pre6 w) (hs : s.size ≤ 140737488351232) : Calls Tryd.prog 9 #[.string s] w (RetRd19 (readV19 s) w) := by
  obtain ⟨w0, hw0⟩ : ∃ w0, w.alloc (.cells #[.int .i64 0, .int .i64 0] 26) = w0 := ⟨_, rfl⟩
  have hZ0 : Blk (w.alloc (.cells #[.int .i64 0, .int .i64 0] 26)) w.heap.size 26 #[.int .i64 0, .int .i64 0] := Blk.new w _ _
  rw [hw0] at hZ0
  have HZ0 := Lib.hid hZ0
  have HB0 : Hid (Below w.heap.size w w0) := by rw [← hw0]; exact (Below.refl _ w).alloc (Nat.le_refl _) _
  have hlt0 : w.heap.size < w0.heap.size := by rw [← hw0]; simp
  have HL0 : Hid (w.heap.size < w0.heap.size) := hlt0
  clear hZ0 hlt0
  by_cases hbig : 4096 < s.size
  · have q1 : decide ((4096 : Int) < (s.size : Int)) = true := by simp; omega
    have HV : Hid (readV19 s = ([], 0, 2)) := by simp only [readV19, if_pos hbig, Hid]
    clear hbig
    go_enter Tryd.func9, Tryd.ntmps9
    obtain ⟨s1, s2, s3, s4⟩ := ft_end (w := w) (W := w0) 0 2 HZ0.out HB0.out
    have S1 := Lib.hid s1
    have S2 := Lib.hid s2
    have S3 := Lib.hid s3
    clear s1 s2 s3 s4
    go_wp2_with (first | (guard_target =~ wpList _ _ _ (Oper.mk _ (Op.store 26 _ _) _ _ _ _ :: _) _ _; refine wpList_skp rfl (exec_store rfl rfl rfl S1.out) ?_))
    refine bodyPost_ret (results_tmp_cell Tryd.results9 _ _ rfl rfl S2.out) rfl ?_
    unfold RetRd19
    rw [HV.out]
    exact ⟨none, 0, rfl, Nat.le_refl _, by decide, .inl rfl, S3.out⟩
  have q1 : decide ((4096 : Int) < (s.size : Int)) = false := by simp; omega
  have HRt := Lib.hid (fun W (hb : Below w.heap.size w W) => Right_any s W (by omega) (hT.below hb).tabs)
  have hV0 : readV19 s = if (decS (bytesU s)).isSome = false then ([], 0, 3) else (if (readR (bytesU s) (s.size + 1) (skipR [1] (bytesU s))).2.2 = 0 then ((readR (bytesU s) (s.size + 1) (skipR [1] (bytesU s))).1 ++ [⟨0, (readR (bytesU s) (s.size + 1) (skipR [1] (bytesU s))).2.1, ⟨#[]⟩, 0⟩], 0, 0) else ([], (readR (bytesU s) (s.size + 1) (skipR [1] (bytesU s))).2.1, (readR (bytesU s) (s.size + 1) (skipR [1] (bytesU s))).2.2)) := by
    simp only [readV19, if_neg hbig]
  generalize (decS (bytesU s)).isSome = rt at *
  cases rt with
  | false =>
    rw [if_pos rfl] at hV0
    have HV := Lib.hid hV0
    clear hV0 hbig hT
    go_enter Tryd.func9, Tryd.ntmps9
    go_wp2_with fail
    refine (HRt.out w0 HB0.out).mono ?_
    rintro e w1 ⟨rfl, hb1⟩
    have HB1 := Lib.hid (HB0.out.trans (hb1.mono HB0.out.size))
    have HZ1 : Hid (Blk w1 w.heap.size 26 #[.int .i64 0, .int .i64 0]) := (hb1.block _ HL0.out).trans HZ0.out
    clear hb1
    obtain ⟨s1, s2, s3, s4⟩ := ft_end (w := w) (W := w1) 0 3 HZ1.out HB1.out
    have S1 := Lib.hid s1
    have S2 := Lib.hid s2
    have S3 := Lib.hid s3
    clear s1 s2 s3 s4
    go_wp2_with (first | (guard_target =~ wpList _ _ _ (Oper.mk _ (Op.store 26 _ _) _ _ _ _ :: _) _ _; refine wpList_skp rfl (exec_store rfl rfl rfl S1.out) ?_))
    refine bodyPost_ret (results_tmp_cell Tryd.results9 _ _ rfl rfl S2.out) rfl ?_
    unfold RetRd19
    rw [HV.out]
    exact ⟨none, 0, rfl, Nat.le_refl _, by decide, .inl rfl, S3.out⟩
  | true =>
    rw [if_neg (by decide)] at hV0
    have hs4 : s.size ≤ 4096 := by omega
    have HF := Lib.hid (fun (p : Nat) (hp : p < s.size) W (hb : Below w.heap.size w W) => tkFront_any (s.extract p s.size) W (hT.below hb) (by have := ext_size s p; omega) (by have := congrArg List.length (bytes_ext s p); rw [bytesU_len, List.length_drop, bytesU_len] at this; omega))
    have HRu0 : Hid (∀ W : World, Calls Tryd.prog 26 #[.string s, .slice (some ⟨W.heap.size, 0, none⟩) 1 1] (W.alloc (.cells #[.int .i64 1] 3)) fun e w' => e = .returned (.int .i64 (skipR [1] (bytesU s) : Int)) ∧ Below W.heap.size W w') := fun W => runNew s [1] (by omega) (by decide) (by decide) W
    have HRu : Hid (∀ (p : Nat) (W : World), Calls Tryd.prog 26 #[.string (s.extract p s.size), .slice (some ⟨W.heap.size, 0, none⟩) 1 1] (W.alloc (.cells #[.int .i64 1] 3)) fun e w' => e = .returned (.int .i64 (skipR [1] ((bytesU s).drop p) : Int)) ∧ Below W.heap.size W w') := fun p W => by
      have := runNew (s.extract p s.size) [1] (by have := ext_size s p; omega) (by decide) (by decide) W
      rw [bytes_ext] at this; exact this
    have hbl := bytesU_len s
    have hsk := skipR_le [1] (bytesU s)
    have HSk := Lib.hid (fun p => skipR_le [1] ((bytesU s).drop p))
    have HFs := Lib.hid (fun p => front_size (l := (bytesU s).drop p))
    have HFx : Hid (∀ (p : Nat), p < s.size → ∀ W, Below w.heap.size w W → Calls Tryd.prog 27 #[.string (s.extract p s.size)] W (RetF (frontR ((bytesU s).drop p)) W)) := fun p hp W hb => by
      have := HF.out p hp W hb
      rw [bytes_ext] at this; exact this
    have HRn : Hid (∀ n p, p < s.size → readR (bytesU s) (n + 1) p = if (frontR ((bytesU s).drop p)).2.2 = 0 then (⟨(frontR ((bytesU s).drop p)).1.kd, p, (frontR ((bytesU s).drop p)).1.tx, (frontR ((bytesU s).drop p)).1.n⟩ :: (readR (bytesU s) n (p + (frontR ((bytesU s).drop p)).2.1 + skipR [1] ((bytesU s).drop (p + (frontR ((bytesU s).drop p)).2.1)))).1, (readR (bytesU s) n (p + (frontR ((bytesU s).drop p)).2.1 + skipR [1] ((bytesU s).drop (p + (frontR ((bytesU s).drop p)).2.1)))).2) else ([], p, (frontR ((bytesU s).drop p)).2.2)) := fun n p hp => by
      rw [readR, if_pos (by rw [hbl]; exact hp)]
    have HRe : Hid (∀ n p, ¬ p < s.size → readR (bytesU s) n p = ([], p, 0)) := fun n p hp => readR_end (by rw [hbl]; exact hp)
    rw [hbl] at hsk
    obtain ⟨full, hfull⟩ : ∃ r, readR (bytesU s) (s.size + 1) (skipR [1] (bytesU s)) = r := ⟨_, rfl⟩
    rw [hfull] at hV0
    have HFu := Lib.hid hfull
    have HV := Lib.hid hV0
    have HSl : Hid (∀ p, ((bytesU s).drop p).length = s.size - p) := fun p => by rw [List.length_drop, hbl]
    obtain ⟨i0, hi, hz0, hz1, hz2⟩ := info_parts info_tk
    generalize bytesU s = l at *
    generalize skipR [1] l = a0 at *
    clear hT hbig hV0 hbl hfull HF
    go_enter Tryd.func9, Tryd.ntmps9
    go_wp2_with fail
    refine (HRt.out w0 HB0.out).mono ?_
    rintro e w1 ⟨rfl, hb1⟩
    have HB1 := Lib.hid (HB0.out.trans (hb1.mono HB0.out.size))
    have HZ1 : Hid (Blk w1 w.heap.size 26 #[.int .i64 0, .int .i64 0]) := (hb1.block _ HL0.out).trans HZ0.out
    have HL1 : Hid (w.heap.size < w1.heap.size) := Nat.lt_of_lt_of_le HL0.out hb1.size
    clear hb1
    go_wp2_with fail
    refine (HRu0.out w1).mono ?_
    rintro e w2 ⟨rfl, hb2⟩
    have HB2 := Lib.hid (HB1.out.trans (hb2.mono HB1.out.size))
    have HZ2 : Hid (Blk w2 w.heap.size 26 #[.int .i64 0, .int .i64 0]) := (hb2.block _ HL1.out).trans HZ1.out
    have HL2 : Hid (w.heap.size < w2.heap.size) := Nat.lt_of_lt_of_le HL1.out hb2.size
    clear hb2
    go_wp2
    go_loopw [4, 5] (fun v i wr => ∃ (n p : Nat) (acc : List Tk) (cv : Value), cv = v ∧ i = .int .i64 (p : Int) ∧ p ≤ s.size ∧ s.size < p + n ∧ acc.length ≤ p ∧ Hid (wr.ownsRow w2.heap.size 33 4 cv acc.length (cellsTk acc)) ∧ Hid (full = (acc ++ (readR l n p).1, (readR l n p).2)) ∧ Hid (Below w2.heap.size w2 wr)) (fun _ i _ => s.size - (intOf i).toNat)
    case atStart => exact ⟨s.size + 1, a0, [], _, rfl, rfl, by omega, by omega, Nat.zero_le _, World.ownsRow_nil _ _ _ _, by show _ = _; rw [HFu.out]; rfl, Below.refl _ _⟩
    case round =>
      obtain ⟨n, p, acc, cv, rfl, rfl, hp, hn, hac, HO, HI, HBr⟩ := hrel
      have HBw := Lib.hid (HB2.out.trans (HBr.out.mono HB2.out.size))
      have HZr : Hid (Blk wr w.heap.size 26 #[.int .i64 0, .int .i64 0]) := (HBr.out.block _ HL2.out).trans HZ2.out
      have HLr : Hid (w.heap.size < wr.heap.size) := Nat.lt_of_lt_of_le HL2.out HBr.out.size
      by_cases hlt : p < s.size
      · have qp : (p : Int) ≤ (s.size : Int) := by omega
        obtain ⟨n, rfl⟩ : ∃ m, n = m + 1 := ⟨n - 1, by omega⟩
        have hI2 := HI.out
        rw [HRn.out n p hlt] at hI2
        have HY := Lib.hid (HFx.out p hlt wr HBw.out)
        have hsz := HFs.out p
        rw [HSl.out] at hsz
        obtain ⟨⟨⟨kd, at_, tx, nn⟩, z, er⟩, hfr⟩ : ∃ r, frontR (l.drop p) = r := ⟨_, rfl⟩
        rw [hfr] at HY hI2 hsz
        simp only at hI2 hsz
        unfold RetF at HY
        simp only [Tk.cs] at HY
        have HI2 := Lib.hid hI2
        clear hI2 hfr HI
        go_wp2_with fail
        refine HY.out.mono ?_
        rintro e w3 ⟨rfl, hb3⟩
        have HB3 := Lib.hid (HBr.out.trans (hb3.mono HBr.out.size))
        have HZ3 : Hid (Blk w3 w.heap.size 26 #[.int .i64 0, .int .i64 0]) := (hb3.block _ HLr.out).trans HZr.out
        have HL3 : Hid (w.heap.size < w3.heap.size) := Nat.lt_of_lt_of_le HLr.out hb3.size
        have HO3 : Hid (w3.ownsRow w2.heap.size 33 4 cv acc.length (cellsTk acc)) := own_below HO.out (Nat.le_refl _) hb3
        clear hb3 HY HO
        have hbA : Below w3.heap.size w3 (w3.alloc (.cells #[.int .i64 kd, .int .i64 at_, .string tx, .int .i64 nn] 33)) := (Below.refl _ w3).alloc (Nat.le_refl _) _
        have hbx : Blk (w3.alloc (.cells #[.int .i64 kd, .int .i64 at_, .string tx, .int .i64 nn] 33)) w3.heap.size 33 #[.int .i64 kd, .int .i64 at_, .string tx, .int .i64 nn] := Blk.new w3 _ _
        obtain ⟨w4, hw4⟩ : ∃ w4, w3.alloc (.cells #[.int .i64 kd, .int .i64 at_, .string tx, .int .i64 nn] 33) = w4 := ⟨_, rfl⟩
        rw [hw4] at hbA hbx
        have HB4 := Lib.hid (HB3.out.trans (hbA.mono HB3.out.size))
        have HZ4 : Hid (Blk w4 w.heap.size 26 #[.int .i64 0, .int .i64 0]) := (hbA.block _ HL3.out).trans HZ3.out
        have HL4 : Hid (w.heap.size < w4.heap.size) := Nat.lt_of_lt_of_le HL3.out hbA.size
        have HO4 : Hid (w4.ownsRow w2.heap.size 33 4 cv acc.length (cellsTk acc)) := own_below HO3.out (Nat.le_refl _) hbA
        by_cases h0 : er = 0
        rotate_left
        · have q0 : (er != 0) = true := by simpa using h0
          rw [if_neg h0] at HI2
          have HV2 : Hid (readV19 s = ([], p, er)) := by
            show _ = _
            rw [HV.out, HI2.out, if_neg h0]
          have HBz := Lib.hid (HB2.out.trans (HB4.out.mono HB2.out.size))
          clear HV HI2 h0 hbA hbx HO3 HO4 hsz
          obtain ⟨s1, s2, s3, s4⟩ := ft_end (w := w) (W := w4) (p : Int) er HZ4.out HBz.out
          have S1 := Lib.hid s1
          have S2 := Lib.hid s2
          have S3 := Lib.hid s3
          clear s1 s2 s3 s4
          go_wp2_with (first | (guard_target =~ wpList _ _ _ (Oper.mk _ (Op.store 26 _ _) _ _ _ _ :: _) _ _; refine wpList_skp rfl (exec_store rfl rfl rfl S1.out) ?_))
          refine bodyPost_ret (results_tmp_cell Tryd.results9 _ _ rfl rfl S2.out) rfl ?_
          unfold RetRd19
          rw [HV2.out]
          exact ⟨none, 0, rfl, Nat.le_refl _, by decide, .inl rfl, S3.out⟩
        subst h0
        rw [if_pos rfl] at HI2
        have hz := hsz rfl
        have hcells : cellsTk acc ++ [.int .i64 kd, .int .i64 (p : Int), .string tx, .int .i64 nn] = cellsTk (acc ++ [(⟨kd, (p : Int), tx, nn⟩ : Tk)]) := by unfold cellsTk; rw [cellsOf_snoc]; rfl
        have HCs := Lib.hid hcells
        have pc := (hbx.cell 1).trans rfl
        have pf := hbx.frozen 1
        have pl := hbx.lt
        have hBx5 : Blk (w4.setCell ⟨w3.heap.size, 1, none⟩ (.int .i64 (p : Int))) w3.heap.size 33 #[.int .i64 kd, .int .i64 (p : Int), .string tx, .int .i64 nn] := hbx.set_ 1 _
        have hc5 : Chg [w3.heap.size] w4 (w4.setCell ⟨w3.heap.size, 1, none⟩ (.int .i64 (p : Int))) := (Chg.refl _ _).setCell (.inl (by simp)) _
        obtain ⟨w5, hw5⟩ : ∃ w5, w4.setCell ⟨w3.heap.size, 1, none⟩ (.int .i64 (p : Int)) = w5 := ⟨_, rfl⟩
        rw [hw5] at hBx5 hc5
        have h34 := hbA.size
        have hl3 := HL3.out
        have h23 := HB3.out.size
        have HZ5 : Hid (Blk w5 w.heap.size 26 #[.int .i64 0, .int .i64 0]) := (hc5.block _ HL4.out (by simp; omega)).trans HZ4.out
        have HL5 : Hid (w.heap.size < w5.heap.size) := Nat.lt_of_lt_of_le HL4.out hc5.size
        have HO5 : Hid (w5.ownsRow w2.heap.size 33 4 cv acc.length (cellsTk acc)) := own_chg HO4.out hc5 (fun g hg hm => by have := own_lt HO3.out hg; rw [List.mem_singleton.1 hm] at this; omega)
        have HB5 : Hid (Below w2.heap.size w2 w5) := HB4.out.trans (hc5.below HB4.out.size (by simpa using h23))
        have HS5 : Hid (w2.heap.size ≤ w5.heap.size) := HB5.out.size
        have z0 := (hBx5.cell 0).trans rfl
        have z1 := (hBx5.cell 1).trans rfl
        have z2 := (hBx5.cell 2).trans rfl
        have z3 := (hBx5.cell 3).trans rfl
        obtain ⟨p2, hp2⟩ : ∃ p2, p + z = p2 := ⟨_, rfl⟩
        have hsk2 := HSk.out p2
        rw [HSl.out] at hsk2
        have wpz : IntKind.i64.wrap ((p : Int) + (z : Int)) = (p2 : Int) := by rw [show (p : Int) + (z : Int) = (p2 : Int) by omega]; exact IntWalk.i64_in _ (by omega)
        have wpz2 : (p : Int) + (z : Int) = (p2 : Int) := by omega
        have hp2s : p2 ≤ s.size := by omega
        have hp2i : (p2 : Int) ≤ (s.size : Int) := by omega
        have HY2 := Lib.hid (HRu.out p2)
        rw [hp2] at HI2
        obtain ⟨y, hy⟩ : ∃ y, skipR [1] (l.drop p2) = y := ⟨_, rfl⟩
        rw [hy] at HY2 HI2 hsk2
        have wpy : IntKind.i64.wrap ((p2 : Int) + (y : Int)) = ((p2 + y : Nat) : Int) := by rw [show (p2 : Int) + (y : Int) = ((p2 + y : Nat) : Int) by omega]; exact IntWalk.i64_in _ (by omega)
        have HI3 : Hid (full = ((acc ++ [(⟨kd, (p : Int), tx, nn⟩ : Tk)]) ++ (readR l n (p2 + y)).1, (readR l n (p2 + y)).2)) := by
          show _ = _
          rw [HI2.out]; simp
        clear hbA hbx hc5 HI2 hy HO3 HO4 hsz hcells hBx5
        go_wp2_with (at_builtin; refine wpList_appM rfl _ _ 23 rfl w2.heap.size 33 i0 (.agg #[.int .i64 0, .int .i64 0, .string ⟨#[]⟩, .int .i64 0]) 4 40 1 Tryd.underlying23 hi hz0 rfl hz1 (by omega) hz2 (by omega) cv acc.length (cellsTk acc) [.int .i64 kd, .int .i64 (p : Int), .string tx, .int .i64 nn] w5 HO5.out rfl _ rfl rfl (by intro u hu; simp at hu; rcases hu with rfl | rfl | rfl | rfl <;> rfl) rfl (by omega) HS5.out ?_; intro v6 w6 hown6 hc6 hsz6; have HO6 := Lib.hid hown6; have HC6 := Lib.hid hc6; clear hown6 hc6 hsz6)
        have HB6 : Hid (Below w2.heap.size w2 w6) := HB5.out.trans (((Below.refl w2.heap.size w5).alloc HS5.out _).trans (HC6.out.below (by have := HS5.out; simp; omega) (fun g hg => (HO5.out.lt g (by simpa using hg)).1)))
        have hO7 : w6.ownsRow w2.heap.size 33 4 v6 (acc ++ [(⟨kd, (p : Int), tx, nn⟩ : Tk)]).length (cellsTk (acc ++ [(⟨kd, (p : Int), tx, nn⟩ : Tk)])) := by
          rw [← HCs.out, List.length_append]; exact HO6.out
        have HO7 := Lib.hid hO7
        clear hO7 HO6 HO5 z0 z1 z2 z3 pc pf pl
        refine (HY2.out w6).mono ?_
        rintro e w7 ⟨rfl, hb7⟩
        have HB7 := Lib.hid (HB6.out.trans (hb7.mono HB6.out.size))
        have HO8 : Hid (w7.ownsRow w2.heap.size 33 4 v6 (acc ++ [(⟨kd, (p : Int), tx, nn⟩ : Tk)]).length (cellsTk (acc ++ [(⟨kd, (p : Int), tx, nn⟩ : Tk)]))) := own_below HO7.out (Nat.le_refl _) hb7
        clear hb7 HY2 HO7
        go_wp2
        go_roundw
        case rel => exact ⟨n, p2 + y, acc ++ [(⟨kd, (p : Int), tx, nn⟩ : Tk)], v6, rfl, by first | rfl | (rw [wpy]) | go_num, by omega, by omega, by rw [List.length_append]; show acc.length + 1 ≤ _; omega, HO8.out, HI3.out, HB7.out⟩
        case measure => simp [intOf]; omega
      · have q0 : decide ((p : Int) < (s.size : Int)) = false := by simp; omega
        have hI2 := HI.out
        rw [HRe.out n p hlt, List.append_nil] at hI2
        have HV2 : Hid (readV19 s = (acc ++ [(⟨0, (p : Int), ⟨#[]⟩, 0⟩ : Tk)], 0, 0)) := by
          show _ = _
          rw [HV.out, hI2]; rfl
        have hcells : cellsTk acc ++ [.int .i64 0, .int .i64 (p : Int), .string ⟨#[]⟩, .int .i64 0] = cellsTk (acc ++ [(⟨0, (p : Int), ⟨#[]⟩, 0⟩ : Tk)]) := by unfold cellsTk; rw [cellsOf_snoc]; rfl
        have HCs := Lib.hid hcells
        have HSr : Hid (w2.heap.size ≤ wr.heap.size) := HBr.out.size
        clear hI2 HI HV hcells
        go_wp2_with (first
          | (guard_target =~ wpList _ _ _ (Oper.mk _ (Op.store 26 _ _) _ _ _ _ :: _) _ _; refine wpList_skp rfl (exec_store rfl rfl rfl S1.out) ?_)
          | (at_builtin; refine wpList_appM rfl _ _ 23 rfl w2.heap.size 33 i0 (.agg #[.int .i64 0, .int .i64 0, .string ⟨#[]⟩, .int .i64 0]) 4 40 1 Tryd.underlying23 hi hz0 rfl hz1 (by omega) hz2 (by omega) cv acc.length (cellsTk acc) [.int .i64 0, .int .i64 (p : Int), .string ⟨#[]⟩, .int .i64 0] wr HO.out rfl _ rfl rfl (by intro u hu; simp at hu; rcases hu with rfl | rfl | rfl | rfl <;> rfl) rfl (by omega) HSr.out ?_; intro v6 w6 hown6 hc6 hsz6; have hB6 : Below w2.heap.size w2 w6 := HBr.out.trans (((Below.refl w2.heap.size wr).alloc HSr.out _).trans (hc6.below (by have := HSr.out; simp; omega) (fun g hg => (HO.out.lt g (by simpa using hg)).1))); have hO7 : w6.ownsRow w2.heap.size 33 4 v6 (acc ++ [(⟨0, (p : Int), ⟨#[]⟩, 0⟩ : Tk)]).length (cellsTk (acc ++ [(⟨0, (p : Int), ⟨#[]⟩, 0⟩ : Tk)])) := (by rw [← HCs.out, List.length_append]; exact hown6); obtain ⟨s1, s2, s3, s4⟩ := ft_end (w := w) (W := w6) 0 0 ((hB6.block _ HL2.out).trans HZ2.out) (HB2.out.trans (hB6.mono HB2.out.size)); have hO8 := own_chg hO7 s4 (fun g hg hm => by have := (hO7.lt g hg).1; have := HL2.out; rw [List.mem_singleton.1 hm] at *; omega); obtain ⟨a8, c8, hv8, hcc8, hcm8, hA8⟩ := own_slice hO8; have HA8 := Lib.hid hA8; have HC8 := Lib.hid hcc8; have HM8 := Lib.hid hcm8; have HV8 := Lib.hid hv8; have S1 := Lib.hid s1; have S2 := Lib.hid s2; have S3 := Lib.hid s3; clear hown6 hc6 hsz6 hB6 hO7 s1 s2 s3 s4 hO8 hv8 hcc8 hcm8 hA8))
        refine bodyPost_ret (results_tmp_cell Tryd.results9 _ _ rfl rfl S2.out) rfl ?_
        unfold RetRd19
        rw [HV2.out]
        exact ⟨a8, c8, by rw [HV8.out]; rfl, HC8.out, HM8.out, HA8.out, S3.out⟩
end Go.Proofs.YtbnddpicpomakaaDoor

/- What alive's readings of law 19 come to. -/
set_option linter.unusedSimpArgs false
set_option linter.unusedVariables false
set_option maxRecDepth 100000
namespace Go.Proofs.YtbnddpicpomakaaDoor
open Go.RowKit

abbrev al1 : ByteArray := ⟨#[32, 65, 98, 60, 61, 49, 50, 32, 39, 105, 116, 39, 39, 115, 39, 32, 120, 39, 48, 65, 39]⟩
abbrev al2 : ByteArray := ⟨#[97, 32, 39, 98]⟩
abbrev al3 : ByteArray := ⟨#[57, 50, 50, 51, 51, 55, 50, 48, 51, 54, 56, 53, 52, 55, 55, 53, 56, 48, 56]⟩
theorem al2_read : readV19 al2 = ([], 2, 40) := by decide +kernel
theorem al3_read : readV19 al3 = ([], 0, 21) := by decide +kernel
theorem al1_read : readV19 al1 = ([⟨1, 1, ⟨#[97, 98]⟩, 0⟩, ⟨5, 3, ⟨#[60, 61]⟩, 0⟩, ⟨2, 5, ⟨#[]⟩, 12⟩, ⟨3, 8, ⟨#[105, 116, 39, 115]⟩, 0⟩, ⟨4, 16, ⟨#[10]⟩, 0⟩, ⟨0, 21, ⟨#[]⟩, 0⟩], 0, 0) := by decide +kernel
end Go.Proofs.YtbnddpicpomakaaDoor

/- The walk of alive of law 19. -/
set_option linter.unusedSimpArgs false
set_option linter.unusedVariables false
set_option maxRecDepth 100000
namespace Go.Proofs.YtbnddpicpomakaaDoor
open Go.RowKit

abbrev al1L : List Tk := [⟨1, 1, ⟨#[97, 98]⟩, 0⟩, ⟨5, 3, ⟨#[60, 61]⟩, 0⟩, ⟨2, 5, ⟨#[]⟩, 12⟩, ⟨3, 8, ⟨#[105, 116, 39, 115]⟩, 0⟩, ⟨4, 16, ⟨#[10]⟩, 0⟩, ⟨0, 21, ⟨#[]⟩, 0⟩]
set_option maxHeartbeats 8000000 in
theorem alive19_any (w : World) (hT : Pre6 w) : Calls Tryd.prog 8 #[] w fun e w' => e = .returned (.bool true) ∧ Below w.heap.size w w' := by
  have HP := Lib.hid (fun W (hb : Below w.heap.size w W) => hT.below hb)
  have H1 : Hid (Calls Tryd.prog 9 #[.string al1] w (RetRd19 (al1L, 0, 0) w)) := by
    have := tkRead_any al1 w hT (by decide)
    rw [al1_read] at this; exact this
  have H2 : Hid (∀ W, Below w.heap.size w W → Calls Tryd.prog 9 #[.string al2] W (RetRd19 ([], 2, 40) W)) := fun W hb => by
    have := tkRead_any al2 W (hT.below hb) (by decide)
    rw [al2_read] at this; exact this
  have H3 : Hid (∀ W, Below w.heap.size w W → Calls Tryd.prog 9 #[.string al3] W (RetRd19 ([], 0, 21) W)) := fun W hb => by
    have := tkRead_any al3 W (hT.below hb) (by decide)
    rw [al3_read] at this; exact this
  clear hT HP
  unfold al1 at H1
  unfold al2 at H2
  unfold al3 at H3
  go_enter Tryd.func8, Tryd.ntmps8
  go_wp2_with fail
  refine H1.out.mono ?_
  rintro e w1 ⟨a1, c1, rfl, hc1, hm1, hA1, hb1⟩
  have HB1 := Lib.hid hb1
  have HA1 := Lib.hid hA1
  simp only [al1L, List.length_cons, List.length_nil] at hc1
  clear hb1 hA1 H1
  have hbA : Below w1.heap.size w1 (w1.alloc (.cells #[.int .i64 0, .int .i64 0] 26)) := (Below.refl _ w1).alloc (Nat.le_refl _) _
  have f1 : (w1.alloc (.cells #[.int .i64 0, .int .i64 0] 26)).cell? ⟨w1.heap.size, 1, none⟩ = some (.int .i64 0) := by rw [World.cell?_alloc_at _ _ _ _ rfl]; rfl
  have hs2 : (w1.alloc (.cells #[.int .i64 0, .int .i64 0] 26)).heap.size = w1.heap.size + 1 := by simp
  obtain ⟨w2, hw2⟩ : ∃ w2, w1.alloc (.cells #[.int .i64 0, .int .i64 0] 26) = w2 := ⟨_, rfl⟩
  rw [hw2] at hbA f1 hs2
  have HB2 := Lib.hid (HB1.out.trans (hbA.mono HB1.out.size))
  have HA2 := Lib.hid ((HA1.out.below hbA).mono hbA.size)
  have HF2 := Lib.hid f1
  have HS2 := Lib.hid hs2
  have HW2 := Lib.hid hw2
  clear hbA f1 hs2 HA1 hw2
  simp only [al1L, List.length_cons, List.length_nil]
  go_wp2_with fail
  rw [HW2.out]
  refine (H2.out _ HB2.out).mono ?_
  rintro e w3 ⟨a3, c3, rfl, hc3, hm3, hA3, hb3⟩
  have HB3 := Lib.hid (HB2.out.trans (hb3.mono HB2.out.size))
  have HA3 := Lib.hid ((HA2.out.below hb3).mono hb3.size)
  have HF3 : Hid (w3.cell? ⟨w1.heap.size, 1, none⟩ = some (.int .i64 0)) := (hb3.cell (p := ⟨w1.heap.size, 1, none⟩) (by show w1.heap.size < w2.heap.size; have := HS2.out; omega)).trans HF2.out
  have HS3 : Hid (w1.heap.size < w3.heap.size) := by show _ < _; have := HS2.out; have := hb3.size; omega
  clear hb3 hA3 HA2 HF2 H2
  have hbA : Below w3.heap.size w3 (w3.alloc (.cells #[.int .i64 2, .int .i64 40] 26)) := (Below.refl _ w3).alloc (Nat.le_refl _) _
  have g0 : (w3.alloc (.cells #[.int .i64 2, .int .i64 40] 26)).cell? ⟨w3.heap.size, 0, none⟩ = some (.int .i64 2) := by rw [World.cell?_alloc_at _ _ _ _ rfl]; rfl
  have g1 : (w3.alloc (.cells #[.int .i64 2, .int .i64 40] 26)).cell? ⟨w3.heap.size, 1, none⟩ = some (.int .i64 40) := by rw [World.cell?_alloc_at _ _ _ _ rfl]; rfl
  have hs4 : (w3.alloc (.cells #[.int .i64 2, .int .i64 40] 26)).heap.size = w3.heap.size + 1 := by simp
  obtain ⟨w4, hw4⟩ : ∃ w4, w3.alloc (.cells #[.int .i64 2, .int .i64 40] 26) = w4 := ⟨_, rfl⟩
  rw [hw4] at hbA g0 g1 hs4
  have HB4 := Lib.hid (HB3.out.trans (hbA.mono HB3.out.size))
  have HA4 := Lib.hid ((HA3.out.below hbA).mono hbA.size)
  have HF4 : Hid (w4.cell? ⟨w1.heap.size, 1, none⟩ = some (.int .i64 0)) := (hbA.cell (p := ⟨w1.heap.size, 1, none⟩) HS3.out).trans HF3.out
  have HG4 : Hid (w4.cell? ⟨w3.heap.size, 0, none⟩ = some (.int .i64 2) ∧ w4.cell? ⟨w3.heap.size, 1, none⟩ = some (.int .i64 40)) := ⟨g0, g1⟩
  have HS4 := Lib.hid hs4
  clear hbA g0 g1 hs4 HA3 HF3
  simp only [List.length_nil]
  go_wp2_with fail
  refine (H3.out _ HB4.out).mono ?_
  rintro e w5 ⟨a5, c5, rfl, hc5, hm5, hA5, hb5⟩
  have HB5 := Lib.hid (HB4.out.trans (hb5.mono HB4.out.size))
  have HA5 := Lib.hid ((HA4.out.below hb5).mono hb5.size)
  have HF5 : Hid (w5.cell? ⟨w1.heap.size, 1, none⟩ = some (.int .i64 0)) := (hb5.cell (p := ⟨w1.heap.size, 1, none⟩) (by show w1.heap.size < w4.heap.size; have := HS4.out; have := HS3.out; omega)).trans HF4.out
  have HG5 : Hid (w5.cell? ⟨w3.heap.size, 0, none⟩ = some (.int .i64 2) ∧ w5.cell? ⟨w3.heap.size, 1, none⟩ = some (.int .i64 40)) := ⟨(hb5.cell (p := ⟨w3.heap.size, 0, none⟩) (by show w3.heap.size < w4.heap.size; have := HS4.out; omega)).trans HG4.out.1, (hb5.cell (p := ⟨w3.heap.size, 1, none⟩) (by show w3.heap.size < w4.heap.size; have := HS4.out; omega)).trans HG4.out.2⟩
  have HT5 : Hid (w1.heap.size < w5.heap.size ∧ w3.heap.size < w5.heap.size) := by show _ ∧ _; have := HS4.out; have := HS3.out; have := hb5.size; omega
  clear hb5 hA5 HA4 HF4 HG4 H3
  have hbA : Below w5.heap.size w5 (w5.alloc (.cells #[.int .i64 0, .int .i64 21] 26)) := (Below.refl _ w5).alloc (Nat.le_refl _) _
  have k1 : (w5.alloc (.cells #[.int .i64 0, .int .i64 21] 26)).cell? ⟨w5.heap.size, 1, none⟩ = some (.int .i64 21) := by rw [World.cell?_alloc_at _ _ _ _ rfl]; rfl
  obtain ⟨w6, hw6⟩ : ∃ w6, w5.alloc (.cells #[.int .i64 0, .int .i64 21] 26) = w6 := ⟨_, rfl⟩
  rw [hw6] at hbA k1
  have HB6 := Lib.hid (HB5.out.trans (hbA.mono HB5.out.size))
  have hA6 := (HA5.out.below hbA).mono hbA.size
  have f1 := (hbA.cell (p := ⟨w1.heap.size, 1, none⟩) HT5.out.1).trans HF5.out
  have g0 := (hbA.cell (p := ⟨w3.heap.size, 0, none⟩) HT5.out.2).trans HG5.out.1
  have g1 := (hbA.cell (p := ⟨w3.heap.size, 1, none⟩) HT5.out.2).trans HG5.out.2
  obtain ⟨b0, o0, hb0', -, t00, t01, t02, t03⟩ := tkAt hA6 (k := 0) (by decide)
  obtain ⟨b1, o1, hb1', -, t10, t11, t12, t13⟩ := tkAt hA6 (k := 1) (by decide)
  rw [hb0'] at hb1'
  injection hb1' with hb1'
  injection hb1' with e1 e2
  subst e1 e2
  obtain ⟨b2, o2, hb2', -, t20, t21, t22, t23⟩ := tkAt hA6 (k := 2) (by decide)
  rw [hb0'] at hb2'
  injection hb2' with hb2'
  injection hb2' with e1 e2
  subst e1 e2
  obtain ⟨b3, o3, hb3', -, t30, t31, t32, t33⟩ := tkAt hA6 (k := 3) (by decide)
  rw [hb0'] at hb3'
  injection hb3' with hb3'
  injection hb3' with e1 e2
  subst e1 e2
  obtain ⟨b4, o4, hb4', -, t40, t41, t42, t43⟩ := tkAt hA6 (k := 4) (by decide)
  rw [hb0'] at hb4'
  injection hb4' with hb4'
  injection hb4' with e1 e2
  subst e1 e2
  obtain ⟨b5, o5, hb5', -, t50, t51, t52, t53⟩ := tkAt hA6 (k := 5) (by decide)
  rw [hb0'] at hb5'
  injection hb5' with hb5'
  injection hb5' with e1 e2
  subst e1 e2
  subst hb0'
  have u00 := t00
  simp only [Nat.zero_mul, Nat.one_mul, Nat.add_zero, Nat.reduceMul, List.getElem_cons_zero, List.getElem_cons_succ] at u00
  have u01 := t01
  simp only [Nat.zero_mul, Nat.one_mul, Nat.add_zero, Nat.reduceMul, List.getElem_cons_zero, List.getElem_cons_succ] at u01
  have u02 := t02
  simp only [Nat.zero_mul, Nat.one_mul, Nat.add_zero, Nat.reduceMul, List.getElem_cons_zero, List.getElem_cons_succ] at u02
  have u03 := t03
  simp only [Nat.zero_mul, Nat.one_mul, Nat.add_zero, Nat.reduceMul, List.getElem_cons_zero, List.getElem_cons_succ] at u03
  have u10 := t10
  simp only [Nat.zero_mul, Nat.one_mul, Nat.add_zero, Nat.reduceMul, List.getElem_cons_zero, List.getElem_cons_succ] at u10
  have u11 := t11
  simp only [Nat.zero_mul, Nat.one_mul, Nat.add_zero, Nat.reduceMul, List.getElem_cons_zero, List.getElem_cons_succ] at u11
  have u12 := t12
  simp only [Nat.zero_mul, Nat.one_mul, Nat.add_zero, Nat.reduceMul, List.getElem_cons_zero, List.getElem_cons_succ] at u12
  have u13 := t13
  simp only [Nat.zero_mul, Nat.one_mul, Nat.add_zero, Nat.reduceMul, List.getElem_cons_zero, List.getElem_cons_succ] at u13
  have u20 := t20
  simp only [Nat.zero_mul, Nat.one_mul, Nat.add_zero, Nat.reduceMul, List.getElem_cons_zero, List.getElem_cons_succ] at u20
  have u21 := t21
  simp only [Nat.zero_mul, Nat.one_mul, Nat.add_zero, Nat.reduceMul, List.getElem_cons_zero, List.getElem_cons_succ] at u21
  have u22 := t22
  simp only [Nat.zero_mul, Nat.one_mul, Nat.add_zero, Nat.reduceMul, List.getElem_cons_zero, List.getElem_cons_succ] at u22
  have u23 := t23
  simp only [Nat.zero_mul, Nat.one_mul, Nat.add_zero, Nat.reduceMul, List.getElem_cons_zero, List.getElem_cons_succ] at u23
  have u30 := t30
  simp only [Nat.zero_mul, Nat.one_mul, Nat.add_zero, Nat.reduceMul, List.getElem_cons_zero, List.getElem_cons_succ] at u30
  have u31 := t31
  simp only [Nat.zero_mul, Nat.one_mul, Nat.add_zero, Nat.reduceMul, List.getElem_cons_zero, List.getElem_cons_succ] at u31
  have u32 := t32
  simp only [Nat.zero_mul, Nat.one_mul, Nat.add_zero, Nat.reduceMul, List.getElem_cons_zero, List.getElem_cons_succ] at u32
  have u33 := t33
  simp only [Nat.zero_mul, Nat.one_mul, Nat.add_zero, Nat.reduceMul, List.getElem_cons_zero, List.getElem_cons_succ] at u33
  have u40 := t40
  simp only [Nat.zero_mul, Nat.one_mul, Nat.add_zero, Nat.reduceMul, List.getElem_cons_zero, List.getElem_cons_succ] at u40
  have u41 := t41
  simp only [Nat.zero_mul, Nat.one_mul, Nat.add_zero, Nat.reduceMul, List.getElem_cons_zero, List.getElem_cons_succ] at u41
  have u42 := t42
  simp only [Nat.zero_mul, Nat.one_mul, Nat.add_zero, Nat.reduceMul, List.getElem_cons_zero, List.getElem_cons_succ] at u42
  have u43 := t43
  simp only [Nat.zero_mul, Nat.one_mul, Nat.add_zero, Nat.reduceMul, List.getElem_cons_zero, List.getElem_cons_succ] at u43
  have u50 := t50
  simp only [Nat.zero_mul, Nat.one_mul, Nat.add_zero, Nat.reduceMul, List.getElem_cons_zero, List.getElem_cons_succ] at u50
  have u51 := t51
  simp only [Nat.zero_mul, Nat.one_mul, Nat.add_zero, Nat.reduceMul, List.getElem_cons_zero, List.getElem_cons_succ] at u51
  have u52 := t52
  simp only [Nat.zero_mul, Nat.one_mul, Nat.add_zero, Nat.reduceMul, List.getElem_cons_zero, List.getElem_cons_succ] at u52
  have u53 := t53
  simp only [Nat.zero_mul, Nat.one_mul, Nat.add_zero, Nat.reduceMul, List.getElem_cons_zero, List.getElem_cons_succ] at u53
  clear t00 t01 t02 t03 t10 t11 t12 t13 t20 t21 t22 t23 t30 t31 t32 t33 t40 t41 t42 t43 t50 t51 t52 t53 hbA hA6 HA5 HF5 HG5
  go_wp2
  go_ret
  exact ⟨ret_b (by first | rfl | simp), HB6.out⟩
end Go.Proofs.YtbnddpicpomakaaDoor

/- Places: what reading tells of blanks ahead of a text, and how places rise. -/
set_option linter.unusedSimpArgs false
set_option linter.unusedVariables false
set_option maxRecDepth 100000
namespace Go.Proofs.YtbnddpicpomakaaDoor
open Go.RowKit

/-- A token, so many places later. -/
def Tk.up (n : Nat) (t : Tk) : Tk := ⟨t.kd, t.at_ + (n : Int), t.tx, t.n⟩
theorem readR_up (b l : List Nat) (n : Nat) (hn : b.length = n) : ∀ (f p : Nat), readR (b ++ l) f (n + p) = ((readR l f p).1.map (Tk.up n), n + (readR l f p).2.1, (readR l f p).2.2)
  | 0, p => by simp [readR]
  | f + 1, p => by
    have hd : ∀ q, (b ++ l).drop (n + q) = l.drop q := fun q => by rw [← hn]; simp [List.drop_append]
    rw [readR, readR]
    by_cases hp : p < l.length
    · rw [if_pos (by rw [List.length_append]; omega), if_pos hp]
      simp only
      rw [hd p]
      by_cases h0 : (frontR (l.drop p)).2.2 = 0
      · rw [if_pos h0, if_pos h0]
        rw [show n + p + (frontR (l.drop p)).2.1 = n + (p + (frontR (l.drop p)).2.1) by omega, hd, show n + (p + (frontR (l.drop p)).2.1) + skipR [1] (l.drop (p + (frontR (l.drop p)).2.1)) = n + (p + (frontR (l.drop p)).2.1 + skipR [1] (l.drop (p + (frontR (l.drop p)).2.1))) by omega, readR_up b l n hn f]
        simp only [List.map_cons, Tk.up]
        congr 2
        · congr 1; omega
      · rw [if_neg h0, if_neg h0]; simp
    · rw [if_neg (by rw [List.length_append]; omega), if_neg hp]; simp
/-- More rounds tell the same. -/
theorem readR_more (l : List Nat) : ∀ (f p g : Nat), l.length < p + f → f ≤ g → readR l g p = readR l f p
  | 0, p, g, h, _ => by rw [readR_end (by omega), readR_end (by omega)]
  | f + 1, p, 0, _, hg => by omega
  | f + 1, p, g + 1, h, hg => by
    rw [readR, readR]
    by_cases hp : p < l.length
    · rw [if_pos hp, if_pos hp]
      simp only
      by_cases h0 : (frontR (l.drop p)).2.2 = 0
      · have hz := front_size h0
        rw [if_pos h0, if_pos h0, readR_more l f _ g (by omega) (by omega)]
      · rw [if_neg h0, if_neg h0]
    · rw [if_neg hp, if_neg hp]
/-- Where tokens lie: rising from p on, below the place behind them; that lies in the text. -/
theorem readR_at (l : List Nat) : ∀ (f p : Nat), p ≤ l.length → l.length < p + f →
    ((readR l f p).2.2 = 0 → (readR l f p).2.1 = l.length) ∧ p ≤ (readR l f p).2.1 ∧ (readR l f p).2.1 ≤ l.length ∧
    (∀ t ∈ (readR l f p).1, (p : Int) ≤ t.at_ ∧ t.at_ < (l.length : Int)) ∧ (readR l f p).1.Pairwise (fun a b => a.at_ < b.at_)
  | 0, p, h, h2 => by omega
  | f + 1, p, h, h2 => by
    rw [readR]
    by_cases hp : p < l.length
    · rw [if_pos hp]
      simp only
      by_cases h0 : (frontR (l.drop p)).2.2 = 0
      · have hz := front_size h0
        have hk := skipR_le [1] (l.drop (p + (frontR (l.drop p)).2.1))
        rw [List.length_drop] at hz hk
        rw [if_pos h0]
        obtain ⟨i1, i2, i3, i4, i5⟩ := readR_at l f (p + (frontR (l.drop p)).2.1 + skipR [1] (l.drop (p + (frontR (l.drop p)).2.1))) (by omega) (by omega)
        refine ⟨i1, (by simp only; omega), i3, fun t ht => ?_, List.Pairwise.cons (fun t ht => ?_) i5⟩
        · rcases List.mem_cons.1 ht with rfl | ht
          · exact ⟨by simp, by simp; omega⟩
          · have := i4 t ht; omega
        · have := i4 t ht
          simp only; omega
      · rw [if_neg h0]
        exact ⟨fun h => absurd h h0, Nat.le_refl _, h, (fun t ht => by cases ht), List.Pairwise.nil⟩
    · rw [if_neg hp]
      exact ⟨fun _ => by simp only; omega, Nat.le_refl _, h, (fun t ht => by cases ht), List.Pairwise.nil⟩
/-- Blanks. -/
def blanksL (n : Nat) : List Nat := List.replicate n 32
def blanksS (n : Nat) : ByteArray := strN (blanksL n)
theorem blanks_len (n : Nat) : (blanksL n).length = n := List.length_replicate
theorem skip_blanks (n : Nat) (l : List Nat) : skipR [1] (blanksL n ++ l) = n + skipR [1] l := by
  induction n with
  | zero => simp [blanksL]
  | succ n ih =>
    have : blanksL (n + 1) ++ l = 32 :: (blanksL n ++ l) := by simp [blanksL, List.replicate_succ]
    rw [this, skipR, if_pos (by decide), ih]; omega
theorem valid_blanks (n : Nat) (l : List Nat) (h256 : ∀ c ∈ l, c < 256) : (decS (blanksL n ++ l)).isSome = (decS l).isSome := by
  induction n with
  | zero => simp [blanksL]
  | succ n ih =>
    have e : blanksL (n + 1) ++ l = 32 :: (blanksL n ++ l) := by simp [blanksL, List.replicate_succ]
    have hB : ∀ c ∈ 32 :: (blanksL n ++ l), c < 256 := by
      intro c hc
      rcases List.mem_cons.1 hc with rfl | hc
      · omega
      · rcases List.mem_append.1 hc with hc | hc
        · rw [List.eq_of_mem_replicate hc]; omega
        · exact h256 c hc
    have hp : pt (32 :: (blanksL n ++ l)) = some (32, 1) := by
      have := pt_enc (v := 32) (by decide) (blanksL n ++ l)
      exact this
    rw [e, decS_go hB hp, Option.isSome_map]
    exact ih
theorem bytes_app (a b : ByteArray) : bytesU (a ++ b) = bytesU a ++ bytesU b := by
  unfold bytesU; simp
theorem bytes_blanks (n : Nat) : bytesU (blanksS n) = blanksL n := bytes_strN fun c hc => by rw [List.eq_of_mem_replicate hc]; omega
/-- What Read tells with blanks ahead. -/
theorem read_up (s : ByteArray) (n : Nat) (h : s.size + n ≤ 4096) : readV19 (blanksS n ++ s) =
    if (readV19 s).2.2 = 0 then ((readV19 s).1.map (Tk.up n), 0, 0) else if (decS (bytesU s)).isSome = false then ([], 0, 3) else ([], n + (readV19 s).2.1, (readV19 s).2.2) := by
  have hb := bytesU_len s
  have hsk := skipR_le [1] (bytesU s)
  have hz : (blanksS n ++ s).size = n + s.size := by rw [ByteArray.size_append]; unfold blanksS; rw [strN_size, blanks_len]
  have e : bytesU (blanksS n ++ s) = blanksL n ++ bytesU s := by rw [bytes_app, bytes_blanks]
  have n1 : ¬ 4096 < n + s.size := by omega
  have n2 : ¬ 4096 < s.size := by omega
  simp only [readV19]
  rw [hz, e, valid_blanks n _ (bytesU_lt s), skip_blanks]
  simp only [if_neg n1, if_neg n2]
  by_cases hv : (decS (bytesU s)).isSome = false
  · rw [if_pos hv, if_pos hv]; simp [hv]
  · rw [if_neg hv, if_neg hv, if_neg hv, readR_up _ _ n (blanks_len n), readR_more (bytesU s) (s.size + 1) _ (n + s.size + 1) (by omega) (by omega)]
    simp only
    by_cases h0 : (readR (bytesU s) (s.size + 1) (skipR [1] (bytesU s))).2.2 = 0
    · rw [if_pos h0, if_pos h0, if_pos rfl]
      simp [Tk.up, Int.add_comm]
    · rw [if_neg h0, if_neg h0, if_neg h0]
/-- What Read tells of places. -/
theorem read_at (s : ByteArray) (h : s.size ≤ 4096) :
    ((readV19 s).2.2 = 0 → ∃ L, (readV19 s).1 = L ++ [⟨0, (s.size : Int), ⟨#[]⟩, 0⟩] ∧ (∀ t ∈ (readV19 s).1, 0 ≤ t.at_) ∧ (readV19 s).1.Pairwise (fun a b => a.at_ < b.at_)) ∧
    ((readV19 s).2.2 ≠ 0 → (readV19 s).1 = []) ∧ (readV19 s).2.1 ≤ s.size := by
  have hb := bytesU_len s
  have hsk := skipR_le [1] (bytesU s)
  obtain ⟨i1, i2, i3, i4, i5⟩ := readR_at (bytesU s) (s.size + 1) (skipR [1] (bytesU s)) (by omega) (by omega)
  rw [hb] at i1 i3 i4
  simp only [readV19]
  rw [if_neg (by omega)]
  by_cases hv : (decS (bytesU s)).isSome = false
  · rw [if_pos hv]; exact ⟨fun h => by simp at h, fun _ => rfl, Nat.zero_le _⟩
  · rw [if_neg hv]
    by_cases h0 : (readR (bytesU s) (s.size + 1) (skipR [1] (bytesU s))).2.2 = 0
    · rw [if_pos h0]
      refine ⟨fun _ => ⟨_, by rw [i1 h0], fun t ht => ?_, ?_⟩, fun h => absurd rfl h, Nat.zero_le _⟩
      · rcases List.mem_append.1 ht with ht | ht
        · have := (i4 t ht).1; omega
        · rw [List.mem_singleton.1 ht]; simp
      · rw [i1 h0]
        refine List.pairwise_append.2 ⟨i5, List.pairwise_singleton _ _, fun a ha b hb2 => ?_⟩
        rw [List.mem_singleton.1 hb2]
        exact (i4 a ha).2
    · rw [if_neg h0]
      exact ⟨fun h => absurd h h0, fun _ => rfl, i3⟩
end Go.Proofs.YtbnddpicpomakaaDoor
