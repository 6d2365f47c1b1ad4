/- The disk's methods that look, and those that set a number. -/
import Derived.Test.YtaggghfnbllbgaaDk
namespace Go.Proofs.Ytaggghfnbllbgaa
open Go.RowKit

def DS.lenI (d : DS) (f : Int) : Int := if f = 0 then (d.vis.len 0 : Int) else if f = 1 then (d.vis.len 1 : Int) else 0

theorem fileWays (f : Int) : f = 0 ∨ f = 1 ∨ isFileB f = false := by
  unfold isFileB
  by_cases h : f = 0
  · exact .inl h
  · by_cases h1 : f = 1
    · exact .inr (.inl h1)
    · right; right
      simp only [Bool.and_eq_false_iff, decide_eq_false_iff_not]
      omega

set_option maxHeartbeats 1000000 in
theorem Len_any {w : World} {B Mv Md : Nat} {pv : Value} {d : DS} (h : DiskAt w B d Mv Md pv) (f : Int) :
    Calls Try.prog 19 #[.pointer (some ⟨B, 0, none⟩), .int .i64 f] w fun e w' => e = .returned (.int .i64 (d.lenI f)) ∧ w' = w := by
  obtain ⟨c0, c1, c2, c3, c4, c5, c6, c7, c8, c9, c10, c11⟩ := h.cells
  have HM := Lib.hid (made_yes w B c0)
  have HF := Lib.hid (isFile_any f w)
  clear h
  rcases fileWays f with rfl | rfl | hf
  · have e1 : d.lenI 0 = (d.vis.len 0 : Int) := rfl
    have e2 : isFileB 0 = true := rfl
    rw [e1]; rw [e2] at HF
    generalize d.vis.len 0 = l0 at *
    go_enter Try.func19, Try.ntmps19
    go_wp2_with (first | (refine HM.out.mono ?_; rintro e w' ⟨rfl, rfl⟩) | (refine HF.out.mono ?_; rintro e w' ⟨rfl, rfl⟩))
    go_ret
    exact ⟨rfl, rfl⟩
  · have e1 : d.lenI 1 = (d.vis.len 1 : Int) := rfl
    have e2 : isFileB 1 = true := rfl
    rw [e1]; rw [e2] at HF
    generalize d.vis.len 1 = l1 at *
    go_enter Try.func19, Try.ntmps19
    go_wp2_with (first | (refine HM.out.mono ?_; rintro e w' ⟨rfl, rfl⟩) | (refine HF.out.mono ?_; rintro e w' ⟨rfl, rfl⟩))
    go_ret
    exact ⟨rfl, rfl⟩
  · have e1 : d.lenI f = 0 := by
      unfold DS.lenI
      rw [if_neg, if_neg]
      · rintro rfl; exact absurd hf (by decide)
      · rintro rfl; exact absurd hf (by decide)
    rw [e1]; rw [hf] at HF
    clear hf e1
    go_enter Try.func19, Try.ntmps19
    go_wp2_with (first | (refine HM.out.mono ?_; rintro e w' ⟨rfl, rfl⟩) | (refine HF.out.mono ?_; rintro e w' ⟨rfl, rfl⟩))
    go_ret
    exact ⟨rfl, rfl⟩

theorem Waits_any {w : World} {B Mv Md : Nat} {pv : Value} {d : DS} (h : DiskAt w B d Mv Md pv) :
    Calls Try.prog 15 #[.pointer (some ⟨B, 0, none⟩)] w fun e w' => e = .returned (.int .i64 (d.pend.length : Int)) ∧ w' = w := by
  obtain ⟨c0, c1, c2, c3, c4, c5, c6, c7, c8, c9, c10, c11⟩ := h.cells
  have HM := Lib.hid (made_yes w B c0)
  have hpv : ∃ a cap, pv = .slice a d.pend.length cap := by
    rcases h.pend.2 with ⟨rfl, hn⟩ | ⟨g, cap, cur, rfl, _⟩
    · exact ⟨none, 0, by rw [hn]⟩
    · exact ⟨_, _, rfl⟩
  obtain ⟨a, cap, rfl⟩ := hpv
  generalize d.pend.length = n at *
  clear h
  go_enter Try.func15, Try.ntmps15
  go_wp2_with (refine HM.out.mono ?_; rintro e w' ⟨rfl, rfl⟩)
  go_ret
  exact ⟨rfl, rfl⟩

theorem Calls_any {w : World} {B Mv Md : Nat} {pv : Value} {d : DS} (h : DiskAt w B d Mv Md pv) :
    Calls Try.prog 17 #[.pointer (some ⟨B, 0, none⟩)] w fun e w' => e = .returned (.int .i64 (d.calls : Int)) ∧ w' = w := by
  obtain ⟨c0, c1, c2, c3, c4, c5, c6, c7, c8, c9, c10, c11⟩ := h.cells
  have HM := Lib.hid (made_yes w B c0)
  generalize d.calls = n at *
  clear h
  go_enter Try.func17, Try.ntmps17
  go_wp2_with (refine HM.out.mono ?_; rintro e w' ⟨rfl, rfl⟩)
  go_ret
  exact ⟨rfl, rfl⟩

theorem Down_any {w : World} {B Mv Md : Nat} {pv : Value} {d : DS} (h : DiskAt w B d Mv Md pv) :
    Calls Try.prog 18 #[.pointer (some ⟨B, 0, none⟩)] w fun e w' => e = .returned (.bool d.down) ∧ w' = w := by
  obtain ⟨c0, c1, c2, c3, c4, c5, c6, c7, c8, c9, c10, c11⟩ := h.cells
  have HM := Lib.hid (made_yes w B c0)
  generalize d.down = n at *
  clear h
  go_enter Try.func18, Try.ntmps18
  go_wp2_with (refine HM.out.mono ?_; rintro e w' ⟨rfl, rfl⟩)
  go_ret
  exact ⟨rfl, rfl⟩

/-- The methods of a disk that is nil, or that no call made. -/
def NoDisk (w : World) (v : Value) : Prop := v = .pointer none ∨ ∃ B, v = .pointer (some ⟨B, 0, none⟩) ∧ w.cell? ⟨B, 0, none⟩ = some (.pointer none)
theorem made_no {w : World} {v : Value} (h : NoDisk w v) : Calls Try.prog 49 #[v] w fun e w' => e = .returned (.bool false) ∧ w' = w := by
  rcases h with rfl | ⟨B, rfl, hc⟩
  · exact made_nil w
  · exact made_zero w B hc

theorem Len_no {w : World} {v : Value} (h : NoDisk w v) (f : Int) : Calls Try.prog 19 #[v, .int .i64 f] w fun e w' => e = .returned (.int .i64 0) ∧ w' = w := by
  have HM := Lib.hid (made_no h)
  clear h
  go_enter Try.func19, Try.ntmps19
  go_wp2_with (refine HM.out.mono ?_; rintro e w' ⟨rfl, rfl⟩)
  go_ret
  exact ⟨rfl, rfl⟩
theorem Waits_no {w : World} {v : Value} (h : NoDisk w v) : Calls Try.prog 15 #[v] w fun e w' => e = .returned (.int .i64 0) ∧ w' = w := by
  have HM := Lib.hid (made_no h)
  clear h
  go_enter Try.func15, Try.ntmps15
  go_wp2_with (refine HM.out.mono ?_; rintro e w' ⟨rfl, rfl⟩)
  go_ret
  exact ⟨rfl, rfl⟩
theorem Calls_no {w : World} {v : Value} (h : NoDisk w v) : Calls Try.prog 17 #[v] w fun e w' => e = .returned (.int .i64 0) ∧ w' = w := by
  have HM := Lib.hid (made_no h)
  clear h
  go_enter Try.func17, Try.ntmps17
  go_wp2_with (refine HM.out.mono ?_; rintro e w' ⟨rfl, rfl⟩)
  go_ret
  exact ⟨rfl, rfl⟩
theorem Down_no {w : World} {v : Value} (h : NoDisk w v) : Calls Try.prog 18 #[v] w fun e w' => e = .returned (.bool false) ∧ w' = w := by
  have HM := Lib.hid (made_no h)
  clear h
  go_enter Try.func18, Try.ntmps18
  go_wp2_with (refine HM.out.mono ?_; rintro e w' ⟨rfl, rfl⟩)
  go_ret
  exact ⟨rfl, rfl⟩
theorem Read_no {w : World} {v : Value} (h : NoDisk w v) (f s : Int) : Calls Try.prog 21 #[v, .int .i64 f, .int .i64 s] w fun e w' => e = .returned (.tuple #[.slice none 0 0, .int .i64 6]) ∧ w' = w := by
  have HM := Lib.hid (made_no h)
  clear h
  go_enter Try.func21, Try.ntmps21
  go_wp2_with (refine HM.out.mono ?_; rintro e w' ⟨rfl, rfl⟩)
  go_ret2
  exact ⟨rfl, rfl⟩
theorem Write_no {w : World} {v : Value} (h : NoDisk w v) (f s : Int) (x : Value) : Calls Try.prog 22 #[v, .int .i64 f, .int .i64 s, x] w fun e w' => e = .returned (.int .i64 6) ∧ w' = w := by
  have HM := Lib.hid (made_no h)
  clear h
  go_enter Try.func22, Try.ntmps22
  go_wp2_with (refine HM.out.mono ?_; rintro e w' ⟨rfl, rfl⟩)
  go_ret
  exact ⟨rfl, rfl⟩
theorem Sync_no {w : World} {v : Value} (h : NoDisk w v) (f : Int) : Calls Try.prog 23 #[v, .int .i64 f] w fun e w' => e = .returned (.int .i64 6) ∧ w' = w := by
  have HM := Lib.hid (made_no h)
  clear h
  go_enter Try.func23, Try.ntmps23
  go_wp2_with (refine HM.out.mono ?_; rintro e w' ⟨rfl, rfl⟩)
  go_ret
  exact ⟨rfl, rfl⟩
theorem Fail_no {w : World} {v : Value} (h : NoDisk w v) (n : Int) : Calls Try.prog 24 #[v, .int .i64 n] w fun e w' => e = .returned (.int .i64 6) ∧ w' = w := by
  have HM := Lib.hid (made_no h)
  clear h
  go_enter Try.func24, Try.ntmps24
  go_wp2_with (refine HM.out.mono ?_; rintro e w' ⟨rfl, rfl⟩)
  go_ret
  exact ⟨rfl, rfl⟩
theorem Crash_no {w : World} {v : Value} (h : NoDisk w v) (x : Value) : Calls Try.prog 25 #[v, x] w fun e w' => e = .returned (.int .i64 6) ∧ w' = w := by
  have HM := Lib.hid (made_no h)
  clear h
  go_enter Try.func25, Try.ntmps25
  go_wp2_with (refine HM.out.mono ?_; rintro e w' ⟨rfl, rfl⟩)
  go_ret
  exact ⟨rfl, rfl⟩
theorem Quota_no {w : World} {v : Value} (h : NoDisk w v) (n : Int) (hq : isQuotaB n = true) : Calls Try.prog 26 #[v, .int .i64 n] w fun e w' => e = .returned (.int .i64 6) ∧ w' = w := by
  have HM := Lib.hid (made_no h)
  have HQ := Lib.hid (isQuota_any n w)
  rw [hq] at HQ
  clear h hq
  go_enter Try.func26, Try.ntmps26
  go_wp2_with (first | (refine HM.out.mono ?_; rintro e w' ⟨rfl, rfl⟩) | (refine HQ.out.mono ?_; rintro e w' ⟨rfl, rfl⟩))
  go_ret
  exact ⟨rfl, rfl⟩

/-! Those that set a number -/
theorem row_set_quota (B : Nat) (d : DS) (Mv Md : Nat) (pv : Value) (q : Nat) : (rowD B d Mv Md pv).setIfInBounds 1 (.int .i64 (q : Int)) = rowD B { d with quota := q } Mv Md pv := rfl
theorem row_set_left (B : Nat) (d : DS) (Mv Md : Nat) (pv : Value) (l : Option Nat) : (rowD B d Mv Md pv).setIfInBounds 10 (.int .i64 (leftI l)) = rowD B { d with left := l } Mv Md pv := rfl
theorem row_set_calls (B : Nat) (d : DS) (Mv Md : Nat) (pv : Value) (l : Nat) : (rowD B d Mv Md pv).setIfInBounds 9 (.int .i64 (l : Int)) = rowD B { d with calls := l } Mv Md pv := rfl
theorem row_set_down (B : Nat) (d : DS) (Mv Md : Nat) (pv : Value) (b : Bool) : (rowD B d Mv Md pv).setIfInBounds 11 (.bool b) = rowD B { d with down := b } Mv Md pv := rfl
theorem row_set_pend (B : Nat) (d : DS) (Mv Md : Nat) (pv pv' : Value) (p : List Wr) : (rowD B d Mv Md pv).setIfInBounds 8 pv' = rowD B { d with pend := p } Mv Md pv' := rfl

/-- One cell of the disk's row has changed, and nothing else. -/
theorem DiskAt.set_ {w : World} {B Mv Md : Nat} {pv pv' : Value} {d d' : DS} (h : DiskAt w B d Mv Md pv) (o : Nat) (u : Value) (hr : (rowD B d Mv Md pv).setIfInBounds o u = rowD B d' Mv Md pv')
    (hv : d'.vis.key = d.vis.key) (hd : d'.dur.key = d.dur.key) (hp : w.ownsRow 0 98 130 pv' d'.pend.length (cellsW d'.pend)) (hok : d'.ok) (hc : d'.calls ≤ 1000000000) (hw : d'.pend.length ≤ 1000000000) :
    DiskAt (w.setCell ⟨B, o, none⟩ u) B d' Mv Md pv' :=
  ⟨by rw [← hr]; exact h.blk.set_ o u, by rw [hv]; exact h.vis.setCell _ _ _, by rw [hd]; exact h.dur.setCell _ _ _,
    own_chg hp ((Chg.refl [B] w).setCell (.inl (by simp)) u) (fun g hg => by
      have := own_ne hp h.blk (by decide)
      rw [hg] at this
      simpa using this), h.apart, hok, hc, hw⟩

theorem Quota_any {w : World} {B Mv Md : Nat} {pv : Value} {d : DS} (h : DiskAt w B d Mv Md pv) (q : Nat) (h1 : 1 ≤ q) (h2 : q ≤ 65536) :
    Calls Try.prog 26 #[.pointer (some ⟨B, 0, none⟩), .int .i64 (q : Int)] w fun e w' => e = .returned (.int .i64 0) ∧ DiskAt w' B { d with quota := q } Mv Md pv ∧ Chg [B] w w' := by
  obtain ⟨c0, c1, c2, c3, c4, c5, c6, c7, c8, c9, c10, c11⟩ := h.cells
  have hf1 := h.blk.frozen 1
  have HM := Lib.hid (made_yes w B c0)
  have HQ := Lib.hid (isQuota_any q w)
  have hq : isQuotaB q = true := by unfold isQuotaB; simp; omega
  rw [hq] at HQ
  have HD := Lib.hid (h.set_ 1 (.int .i64 (q : Int)) (row_set_quota B d Mv Md pv q) rfl rfl h.pend ⟨⟨h1, h2⟩, h.ok.vis, h.ok.dur, h.ok.pend, h.ok.left⟩ h.calls h.waits)
  clear h hq
  go_enter Try.func26, Try.ntmps26
  go_wp2_with (first | (refine HM.out.mono ?_; rintro e w' ⟨rfl, rfl⟩) | (refine HQ.out.mono ?_; rintro e w' ⟨rfl, rfl⟩))
  go_ret
  exact ⟨rfl, HD.out, (Chg.refl _ _).setCell (.inl (by simp)) _⟩
theorem Quota_bad {w : World} {v : Value} (q : Int) (hq : isQuotaB q = false) :
    Calls Try.prog 26 #[v, .int .i64 q] w fun e w' => e = .returned (.int .i64 1) ∧ w' = w := by
  have HQ := Lib.hid (isQuota_any q w)
  rw [hq] at HQ
  clear hq
  go_enter Try.func26, Try.ntmps26
  go_wp2_with (refine HQ.out.mono ?_; rintro e w' ⟨rfl, rfl⟩)
  go_ret
  exact ⟨rfl, rfl⟩

theorem Fail_any {w : World} {B Mv Md : Nat} {pv : Value} {d : DS} (h : DiskAt w B d Mv Md pv) (n : Nat) (hn : n < 9223372036854775808) :
    Calls Try.prog 24 #[.pointer (some ⟨B, 0, none⟩), .int .i64 (n : Int)] w fun e w' => e = .returned (.int .i64 0) ∧ DiskAt w' B { d with left := some n } Mv Md pv ∧ Chg [B] w w' := by
  obtain ⟨c0, c1, c2, c3, c4, c5, c6, c7, c8, c9, c10, c11⟩ := h.cells
  have hf := h.blk.frozen 10
  have HM := Lib.hid (made_yes w B c0)
  have HD := Lib.hid (h.set_ 10 (.int .i64 (n : Int)) (row_set_left B d Mv Md pv (some n)) rfl rfl h.pend ⟨h.ok.quota, h.ok.vis, h.ok.dur, h.ok.pend, fun m hm => by obtain rfl := Option.some.inj hm; exact hn⟩ h.calls h.waits)
  have q0 : decide ((n : Int) < 0) = false := by rw [decide_eq_false_iff_not]; omega
  clear h hn
  go_enter Try.func24, Try.ntmps24
  go_wp2_with (refine HM.out.mono ?_; rintro e w' ⟨rfl, rfl⟩)
  go_ret
  exact ⟨rfl, HD.out, (Chg.refl _ _).setCell (.inl (by simp)) _⟩
theorem Fail_bad {w : World} {B Mv Md : Nat} {pv : Value} {d : DS} (h : DiskAt w B d Mv Md pv) (n : Int) (hn : n < 0) :
    Calls Try.prog 24 #[.pointer (some ⟨B, 0, none⟩), .int .i64 n] w fun e w' => e = .returned (.int .i64 1) ∧ w' = w := by
  obtain ⟨c0, c1, c2, c3, c4, c5, c6, c7, c8, c9, c10, c11⟩ := h.cells
  have HM := Lib.hid (made_yes w B c0)
  have q0 : decide (n < 0) = true := by simpa using hn
  clear h
  go_enter Try.func24, Try.ntmps24
  go_wp2_with (refine HM.out.mono ?_; rintro e w' ⟨rfl, rfl⟩)
  go_ret
  exact ⟨rfl, rfl⟩

set_option maxHeartbeats 1000000 in
theorem change_any {w : World} {B Mv Md : Nat} {pv : Value} {d : DS} (h : DiskAt w B d Mv Md pv) (hcs : d.calls < 1000000000) :
    Calls Try.prog 52 #[.pointer (some ⟨B, 0, none⟩)] w fun e w' => e = .returned (.int .i64 (if d.change.2 then 0 else 51)) ∧ DiskAt w' B d.change.1 Mv Md pv ∧ Chg [B] w w' := by
  obtain ⟨c0, c1, c2, c3, c4, c5, c6, c7, c8, c9, c10, c11⟩ := h.cells
  have hf9 := h.blk.frozen 9
  have hf10 := h.blk.frozen 10
  have hf11 := h.blk.frozen 11
  have hok := DS.change_ok h.ok
  have hl := h.ok.left
  cases hleft : d.left with
  | none =>
    have hch : d.change = ({ d with left := none, calls := d.calls + 1 }, true) := by unfold DS.change; rw [hleft]; rfl
    rw [hch] at hok ⊢
    have hd1 := h.set_ 9 (.int .i64 ((d.calls + 1 : Nat) : Int)) (row_set_calls B d Mv Md pv (d.calls + 1)) rfl rfl h.pend ⟨h.ok.quota, h.ok.vis, h.ok.dur, h.ok.pend, h.ok.left⟩ hcs h.waits
    have e1 : ({ d with calls := d.calls + 1 } : DS) = { d with left := none, calls := d.calls + 1 } := by rw [← hleft]
    rw [e1] at hd1
    have HD := Lib.hid hd1
    rw [hleft] at c10
    have e2 : leftI none = -1 := rfl
    rw [e2] at c10
    obtain ⟨n, hn⟩ : ∃ n, d.calls = n := ⟨_, rfl⟩
    rw [hn] at c9 hcs HD ⊢
    clear h hl hleft hch hd1 e1 e2 hok hn
    go_enter Try.func52, Try.ntmps52
    go_wp2
    go_ret
    exact ⟨rfl, HD.out, (Chg.refl _ _).setCell (.inl (by simp)) _⟩
  | some m =>
    have hm := hl m hleft
    have e2 : leftI (some m) = (m : Int) := rfl
    rw [hleft, e2] at c10
    cases m with
    | zero =>
      have hch : d.change = ({ d with down := true }, false) := by unfold DS.change; rw [hleft]; rfl
      rw [hch] at hok ⊢
      have HD := Lib.hid (h.set_ 11 (.bool true) (row_set_down B d Mv Md pv true) rfl rfl h.pend hok h.calls h.waits)
      clear h hl hleft hch hok hm e2
      go_enter Try.func52, Try.ntmps52
      go_wp2
      go_ret
      exact ⟨rfl, HD.out, (Chg.refl _ _).setCell (.inl (by simp)) _⟩
    | succ m =>
      have hch : d.change = ({ d with left := some m, calls := d.calls + 1 }, true) := by unfold DS.change; rw [hleft]; rfl
      rw [hch] at hok ⊢
      have hd1 := h.set_ 10 (.int .i64 (m : Int)) (row_set_left B d Mv Md pv (some m)) rfl rfl h.pend ⟨h.ok.quota, h.ok.vis, h.ok.dur, h.ok.pend, hok.left⟩ h.calls h.waits
      have hd2 := hd1.set_ 9 (.int .i64 ((d.calls + 1 : Nat) : Int)) (row_set_calls B _ Mv Md pv (d.calls + 1)) rfl rfl hd1.pend hok hcs h.waits
      have HD := Lib.hid hd2
      have q0 : (((m + 1 : Nat) : Int) == 0) = false := by simp; omega
      have q1 : (((m + 1 : Nat) : Int) != -1) = true := by simp; omega
      obtain ⟨n, hn⟩ : ∃ n, d.calls = n := ⟨_, rfl⟩
      rw [hn] at c9 hcs HD ⊢
      obtain ⟨k, hk⟩ : ∃ k : Nat, m + 1 = k := ⟨_, rfl⟩
      rw [hk] at c10 hm q0 q1
      have hk1 : 1 ≤ k := by omega
      have e3 : (m : Int) = (k : Int) - 1 := by omega
      rw [e3] at HD
      clear h hl hleft hch hd1 hd2 e2 hok hn hk e3
      go_enter Try.func52, Try.ntmps52
      go_wp2
      go_ret
      exact ⟨rfl, HD.out, ((Chg.refl _ _).setCell (.inl (by simp)) _).setCell (.inl (by simp)) _⟩
end Go.Proofs.Ytaggghfnbllbgaa
