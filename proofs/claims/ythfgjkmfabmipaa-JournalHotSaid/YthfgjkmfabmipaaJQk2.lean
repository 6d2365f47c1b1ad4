/- Several texts of one proof, one behind the other. -/
import Derived.Test.YthfgjkmfabmipaaJQk1
import Derived.Deep.AppendLies
set_option linter.unusedSimpArgs false
set_option linter.unusedVariables false

/- The disk in memory; its small methods. -/
set_option linter.unusedSimpArgs false
set_option linter.unusedVariables false
set_option maxRecDepth 100000
namespace Go.Proofs.Ythfgjkmfabmipaa
open Go.RowKit

/-- The cells of a write. -/
def Wr.cells (x : Wr) : List Value := .int .i64 (x.f : Int) :: .int .i64 (x.s : Int) :: x.b.map fun (c : Nat) => Value.int .u8 (c : Int)
def cellsW (l : List Wr) : List Value := l.flatMap Wr.cells

/-- What a map of sectors has at a key. -/
def Cont.key (c : Cont) (x : List Nat) : Option (List Nat) := match x with
  | [f, s] => c.get f s
  | _ => none

/-- The row of a disk. -/
def rowD (B : Nat) (d : DS) (Mv Md : Nat) (pv : Value) : Array Value :=
  #[.pointer (some ⟨B, 0, none⟩), .int .i64 (d.quota : Int), .map (some Mv), .int .i64 (d.vis.len 0 : Int), .int .i64 (d.vis.len 1 : Int), .map (some Md), .int .i64 (d.dur.len 0 : Int), .int .i64 (d.dur.len 1 : Int), pv,
    .int .i64 (d.calls : Int), .int .i64 (leftI d.left), .bool d.down]

/-- Block B is a disk that New made, of state d; it uses the blocks S. -/
structure DiskAt (w : World) (B : Nat) (d : DS) (Mv Md : Nat) (pv : Value) : Prop where
  blk : Blk w B 73 (rowD B d Mv Md pv)
  vis : MapA .i64 .u8 2 w Mv d.vis.key
  dur : MapA .i64 .u8 2 w Md d.dur.key
  pend : w.ownsRow 0 109 130 pv d.pend.length (cellsW d.pend)
  apart : Mv ≠ Md
  ok : d.ok
  calls : d.calls ≤ 1000000000
  waits : d.pend.length ≤ 1000000000

def footD (B Mv Md : Nat) (pv : Value) : List Nat := B :: Mv :: Md :: pv.ownBlock.toList

def IsDisk (w : World) (B : Nat) (S : List Nat) (d : DS) : Prop := ∃ Mv Md pv, DiskAt w B d Mv Md pv ∧ S = footD B Mv Md pv

theorem own_ne_map {w : World} {base : Nat} {e : TypeId} {size n : Nat} {v : Value} {xs : List Value} (h : w.ownsRow base e size v n xs) {k kv : IntKind} {m : Nat} {b : Nat} {g : List Nat → Option (List Nat)} (hb : MapA k kv m w b g) : v.ownBlock ≠ some b := by
  rcases h.2 with ⟨rfl, _⟩ | ⟨g', cap, cur, rfl, _, hh, _⟩
  · simp [Value.ownBlock]
  · intro he
    have : g' = b := by simpa [Value.ownBlock] using he
    subst this
    exact hb.ne_blk (t := e) hh rfl

theorem DiskAt.lt {w : World} {B Mv Md : Nat} {pv : Value} {d : DS} (h : DiskAt w B d Mv Md pv) : ∀ k ∈ footD B Mv Md pv, k < w.heap.size := by
  intro k hk
  unfold footD at hk
  simp only [List.mem_cons, Option.mem_toList] at hk
  rcases hk with rfl | rfl | rfl | hk
  · exact h.blk.lt
  · exact h.vis.lt
  · exact h.dur.lt
  · exact own_lt h.pend hk
theorem IsDisk.lt {w : World} {B : Nat} {S : List Nat} {d : DS} (h : IsDisk w B S d) : ∀ k ∈ S, k < w.heap.size := by
  obtain ⟨Mv, Md, pv, h, rfl⟩ := h
  exact h.lt
theorem IsDisk.self {w : World} {B : Nat} {S : List Nat} {d : DS} (h : IsDisk w B S d) : B ∈ S := by
  obtain ⟨Mv, Md, pv, h, rfl⟩ := h
  simp [footD]
theorem IsDisk.ok {w : World} {B : Nat} {S : List Nat} {d : DS} (h : IsDisk w B S d) : d.ok := by
  obtain ⟨Mv, Md, pv, h, rfl⟩ := h
  exact h.ok

/-- A disk stays while only other blocks change. -/
theorem IsDisk.chg {w w' : World} {B : Nat} {S T : List Nat} {d : DS} (h : IsDisk w B S d) (hc : Chg T w w') (hn : ∀ k ∈ S, k ∉ T) : IsDisk w' B S d := by
  obtain ⟨Mv, Md, pv, h, rfl⟩ := h
  refine ⟨Mv, Md, pv, ⟨h.blk.chg hc (hn _ (by simp [footD])), h.vis.chg hc (hn _ (by simp [footD])), h.dur.chg hc (hn _ (by simp [footD])), own_chg h.pend hc (fun g hg => hn _ (by simp [footD, hg])), h.apart, h.ok, h.calls, h.waits⟩, rfl⟩
theorem IsDisk.drew {w : World} {B : Nat} {S : List Nat} {d : DS} (h : IsDisk w B S d) : IsDisk w.drew B S d := h.chg (T := []) (Chg.refl _ _).drew (by simp)

/-- The cells of a disk's row. -/
theorem DiskAt.cells {w : World} {B Mv Md : Nat} {pv : Value} {d : DS} (h : DiskAt w B d Mv Md pv) :
    w.cell? ⟨B, 0, none⟩ = some (.pointer (some ⟨B, 0, none⟩)) ∧ w.cell? ⟨B, 1, none⟩ = some (.int .i64 (d.quota : Int)) ∧ w.cell? ⟨B, 2, none⟩ = some (.map (some Mv)) ∧
    w.cell? ⟨B, 3, none⟩ = some (.int .i64 (d.vis.len 0 : Int)) ∧ w.cell? ⟨B, 4, none⟩ = some (.int .i64 (d.vis.len 1 : Int)) ∧ w.cell? ⟨B, 5, none⟩ = some (.map (some Md)) ∧
    w.cell? ⟨B, 6, none⟩ = some (.int .i64 (d.dur.len 0 : Int)) ∧ w.cell? ⟨B, 7, none⟩ = some (.int .i64 (d.dur.len 1 : Int)) ∧ w.cell? ⟨B, 8, none⟩ = some pv ∧
    w.cell? ⟨B, 9, none⟩ = some (.int .i64 (d.calls : Int)) ∧ w.cell? ⟨B, 10, none⟩ = some (.int .i64 (leftI d.left)) ∧ w.cell? ⟨B, 11, none⟩ = some (.bool d.down) :=
  ⟨h.blk.cell 0, h.blk.cell 1, h.blk.cell 2, h.blk.cell 3, h.blk.cell 4, h.blk.cell 5, h.blk.cell 6, h.blk.cell 7, h.blk.cell 8, h.blk.cell 9, h.blk.cell 10, h.blk.cell 11⟩

/-! Equal pointers -/
theorem run_eql_same {P : Program} {t e : TypeId} {n : Nat} (a : Addr) (ht : P.underlying t = some (.pointer e)) (hi : (P.info? e).map (·.size) = some (n + 1)) (w : World) :
    (binOp .eql t (.pointer (some a)) (.pointer (some a))).run P w = .ok (.bool true) w := by
  cases hq : P.info? e with
  | none => simp [hq] at hi
  | some i =>
    have hs : i.size = n + 1 := by simpa [hq] using hi
    have : ∀ d, (Op.equalIn (d + 1) t (.pointer (some a)) (.pointer (some a))).run P w = .ok true w := by
      intro d
      simp [Op.equalIn, run_underlying ht, sizeOf, typeInfo, hq, hs, sameAddr]
    have h2 : (Op.equal t (.pointer (some a)) (.pointer (some a))).run P w = .ok true w := this 9999
    simp only [binOp]
    simp [h2]
theorem run_eql_none {P : Program} {t e : TypeId} (a : Addr) (ht : P.underlying t = some (.pointer e)) (w : World) :
    (binOp .eql t (.pointer none) (.pointer (some a))).run P w = .ok (.bool false) w := by
  have : ∀ d, (Op.equalIn (d + 1) t (.pointer none) (.pointer (some a))).run P w = .ok false w := by
    intro d
    simp [Op.equalIn, run_underlying ht]
  have h2 : (Op.equal t (.pointer none) (.pointer (some a))).run P w = .ok false w := this 9999
  simp only [binOp]
  simp [h2]

/-! made, isFile, isQuota -/
theorem made_nil (w : World) : Calls Try.prog 40 #[.pointer none] w fun e w' => e = .returned (.bool false) ∧ w' = w := by
  go_enter Try.func40, Try.ntmps40
  go_wp2
  go_ret
  exact ⟨rfl, rfl⟩
theorem made_zero (w : World) (B : Nat) (h : w.cell? ⟨B, 0, none⟩ = some (.pointer none)) : Calls Try.prog 40 #[.pointer (some ⟨B, 0, none⟩)] w fun e w' => e = .returned (.bool false) ∧ w' = w := by
  have hq := fun W => run_eql_none (P := Try.prog) ⟨B, 0, none⟩ Try.underlying23 W
  go_enter Try.func40, Try.ntmps40
  go_wp2
  go_ret
  exact ⟨rfl, rfl⟩
theorem made_yes (w : World) (B : Nat) (h : w.cell? ⟨B, 0, none⟩ = some (.pointer (some ⟨B, 0, none⟩))) : Calls Try.prog 40 #[.pointer (some ⟨B, 0, none⟩)] w fun e w' => e = .returned (.bool true) ∧ w' = w := by
  have hq := fun W => run_eql_same (P := Try.prog) (n := 11) ⟨B, 0, none⟩ Try.underlying23 (by kernel_rfl) W
  go_enter Try.func40, Try.ntmps40
  go_wp2
  go_ret
  exact ⟨rfl, rfl⟩

def isFileB (f : Int) : Bool := decide (0 ≤ f) && decide (f < 2)
theorem isFile_any (f : Int) (w : World) : Calls Try.prog 41 #[.int .i64 f] w fun e w' => e = .returned (.bool (isFileB f)) ∧ w' = w := by
  by_cases h : 0 ≤ f
  · by_cases h2 : f < 2
    · have e : isFileB f = true := by simp [isFileB, h, h2]
      rw [e]
      have q1 : decide (0 ≤ f) = true := by simpa using h
      have q2 : decide (f < 2) = true := by simpa using h2
      go_enter Try.func41, Try.ntmps41
      go_wp2
      go_ret
      exact ⟨rfl, rfl⟩
    · have e : isFileB f = false := by simp [isFileB, h2]
      rw [e]
      have q1 : decide (0 ≤ f) = true := by simpa using h
      have q2 : decide (f < 2) = false := by simpa using h2
      go_enter Try.func41, Try.ntmps41
      go_wp2
      go_ret
      exact ⟨rfl, rfl⟩
  · have e : isFileB f = false := by simp [isFileB, h]
    rw [e]
    have q1 : decide (0 ≤ f) = false := by simpa using h
    go_enter Try.func41, Try.ntmps41
    go_wp2
    go_ret
    exact ⟨rfl, rfl⟩
def isQuotaB (q : Int) : Bool := decide (1 ≤ q) && decide (q ≤ 65536)
theorem isQuota_any (q : Int) (w : World) : Calls Try.prog 31 #[.int .i64 q] w fun e w' => e = .returned (.bool (isQuotaB q)) ∧ w' = w := by
  by_cases h : 1 ≤ q
  · by_cases h2 : q ≤ 65536
    · have e : isQuotaB q = true := by simp [isQuotaB, h, h2]
      rw [e]
      have q1 : decide (1 ≤ q) = true := by simpa using h
      have q2 : decide (q ≤ 65536) = true := by simpa using h2
      go_enter Try.func31, Try.ntmps31
      go_wp2
      go_ret
      exact ⟨rfl, rfl⟩
    · have e : isQuotaB q = false := by simp [isQuotaB, h2]
      rw [e]
      have q1 : decide (1 ≤ q) = true := by simpa using h
      have q2 : decide (q ≤ 65536) = false := by simpa using h2
      go_enter Try.func31, Try.ntmps31
      go_wp2
      go_ret
      exact ⟨rfl, rfl⟩
  · have e : isQuotaB q = false := by simp [isQuotaB, h]
    rw [e]
    have q1 : decide (1 ≤ q) = false := by simpa using h
    go_enter Try.func31, Try.ntmps31
    go_wp2
    go_ret
    exact ⟨rfl, rfl⟩
end Go.Proofs.Ythfgjkmfabmipaa

/- The disk's methods that look, and those that set a number. -/
set_option linter.unusedSimpArgs false
set_option linter.unusedVariables false
set_option maxRecDepth 100000
namespace Go.Proofs.Ythfgjkmfabmipaa
open Go.RowKit

def DS.lenI (d : DS) (f : Int) : Int := if f = 0 then (d.vis.len 0 : Int) else if f = 1 then (d.vis.len 1 : Int) else 0

theorem fileWays (f : Int) : f = 0 ∨ f = 1 ∨ isFileB f = false := by
  unfold isFileB
  by_cases h : f = 0
  · exact .inl h
  · by_cases h1 : f = 1
    · exact .inr (.inl h1)
    · right; right
      simp only [Bool.and_eq_false_iff, decide_eq_false_iff_not]
      omega

set_option maxHeartbeats 1000000 in
theorem Len_any {w : World} {B Mv Md : Nat} {pv : Value} {d : DS} (h : DiskAt w B d Mv Md pv) (f : Int) :
    Calls Try.prog 13 #[.pointer (some ⟨B, 0, none⟩), .int .i64 f] w fun e w' => e = .returned (.int .i64 (d.lenI f)) ∧ w' = w := by
  obtain ⟨c0, c1, c2, c3, c4, c5, c6, c7, c8, c9, c10, c11⟩ := h.cells
  have HM := Lib.hid (made_yes w B c0)
  have HF := Lib.hid (isFile_any f w)
  clear h
  rcases fileWays f with rfl | rfl | hf
  · have e1 : d.lenI 0 = (d.vis.len 0 : Int) := rfl
    have e2 : isFileB 0 = true := rfl
    rw [e1]; rw [e2] at HF
    generalize d.vis.len 0 = l0 at *
    go_enter Try.func13, Try.ntmps13
    go_wp2_with (first | (refine HM.out.mono ?_; rintro e w' ⟨rfl, rfl⟩) | (refine HF.out.mono ?_; rintro e w' ⟨rfl, rfl⟩))
    go_ret
    exact ⟨rfl, rfl⟩
  · have e1 : d.lenI 1 = (d.vis.len 1 : Int) := rfl
    have e2 : isFileB 1 = true := rfl
    rw [e1]; rw [e2] at HF
    generalize d.vis.len 1 = l1 at *
    go_enter Try.func13, Try.ntmps13
    go_wp2_with (first | (refine HM.out.mono ?_; rintro e w' ⟨rfl, rfl⟩) | (refine HF.out.mono ?_; rintro e w' ⟨rfl, rfl⟩))
    go_ret
    exact ⟨rfl, rfl⟩
  · have e1 : d.lenI f = 0 := by
      unfold DS.lenI
      rw [if_neg, if_neg]
      · rintro rfl; exact absurd hf (by decide)
      · rintro rfl; exact absurd hf (by decide)
    rw [e1]; rw [hf] at HF
    clear hf e1
    go_enter Try.func13, Try.ntmps13
    go_wp2_with (first | (refine HM.out.mono ?_; rintro e w' ⟨rfl, rfl⟩) | (refine HF.out.mono ?_; rintro e w' ⟨rfl, rfl⟩))
    go_ret
    exact ⟨rfl, rfl⟩

theorem Waits_any {w : World} {B Mv Md : Nat} {pv : Value} {d : DS} (h : DiskAt w B d Mv Md pv) :
    Calls Try.prog 11 #[.pointer (some ⟨B, 0, none⟩)] w fun e w' => e = .returned (.int .i64 (d.pend.length : Int)) ∧ w' = w := by
  obtain ⟨c0, c1, c2, c3, c4, c5, c6, c7, c8, c9, c10, c11⟩ := h.cells
  have HM := Lib.hid (made_yes w B c0)
  have hpv : ∃ a cap, pv = .slice a d.pend.length cap := by
    rcases h.pend.2 with ⟨rfl, hn⟩ | ⟨g, cap, cur, rfl, _⟩
    · exact ⟨none, 0, by rw [hn]⟩
    · exact ⟨_, _, rfl⟩
  obtain ⟨a, cap, rfl⟩ := hpv
  generalize d.pend.length = n at *
  clear h
  go_enter Try.func11, Try.ntmps11
  go_wp2_with (refine HM.out.mono ?_; rintro e w' ⟨rfl, rfl⟩)
  go_ret
  exact ⟨rfl, rfl⟩

theorem Down_any {w : World} {B Mv Md : Nat} {pv : Value} {d : DS} (h : DiskAt w B d Mv Md pv) :
    Calls Try.prog 59 #[.pointer (some ⟨B, 0, none⟩)] w fun e w' => e = .returned (.bool d.down) ∧ w' = w := by
  obtain ⟨c0, c1, c2, c3, c4, c5, c6, c7, c8, c9, c10, c11⟩ := h.cells
  have HM := Lib.hid (made_yes w B c0)
  generalize d.down = n at *
  clear h
  go_enter Try.func59, Try.ntmps59
  go_wp2_with (refine HM.out.mono ?_; rintro e w' ⟨rfl, rfl⟩)
  go_ret
  exact ⟨rfl, rfl⟩

/-- The methods of a disk that is nil, or that no call made. -/
def NoDisk (w : World) (v : Value) : Prop := v = .pointer none ∨ ∃ B, v = .pointer (some ⟨B, 0, none⟩) ∧ w.cell? ⟨B, 0, none⟩ = some (.pointer none)
theorem made_no {w : World} {v : Value} (h : NoDisk w v) : Calls Try.prog 40 #[v] w fun e w' => e = .returned (.bool false) ∧ w' = w := by
  rcases h with rfl | ⟨B, rfl, hc⟩
  · exact made_nil w
  · exact made_zero w B hc

theorem Len_no {w : World} {v : Value} (h : NoDisk w v) (f : Int) : Calls Try.prog 13 #[v, .int .i64 f] w fun e w' => e = .returned (.int .i64 0) ∧ w' = w := by
  have HM := Lib.hid (made_no h)
  clear h
  go_enter Try.func13, Try.ntmps13
  go_wp2_with (refine HM.out.mono ?_; rintro e w' ⟨rfl, rfl⟩)
  go_ret
  exact ⟨rfl, rfl⟩
theorem Waits_no {w : World} {v : Value} (h : NoDisk w v) : Calls Try.prog 11 #[v] w fun e w' => e = .returned (.int .i64 0) ∧ w' = w := by
  have HM := Lib.hid (made_no h)
  clear h
  go_enter Try.func11, Try.ntmps11
  go_wp2_with (refine HM.out.mono ?_; rintro e w' ⟨rfl, rfl⟩)
  go_ret
  exact ⟨rfl, rfl⟩
theorem Down_no {w : World} {v : Value} (h : NoDisk w v) : Calls Try.prog 59 #[v] w fun e w' => e = .returned (.bool false) ∧ w' = w := by
  have HM := Lib.hid (made_no h)
  clear h
  go_enter Try.func59, Try.ntmps59
  go_wp2_with (refine HM.out.mono ?_; rintro e w' ⟨rfl, rfl⟩)
  go_ret
  exact ⟨rfl, rfl⟩
theorem Read_no {w : World} {v : Value} (h : NoDisk w v) (f s : Int) : Calls Try.prog 52 #[v, .int .i64 f, .int .i64 s] w fun e w' => e = .returned (.tuple #[.slice none 0 0, .int .i64 6]) ∧ w' = w := by
  have HM := Lib.hid (made_no h)
  clear h
  go_enter Try.func52, Try.ntmps52
  go_wp2_with (refine HM.out.mono ?_; rintro e w' ⟨rfl, rfl⟩)
  go_ret2
  exact ⟨rfl, rfl⟩
theorem Write_no {w : World} {v : Value} (h : NoDisk w v) (f s : Int) (x : Value) : Calls Try.prog 72 #[v, .int .i64 f, .int .i64 s, x] w fun e w' => e = .returned (.int .i64 6) ∧ w' = w := by
  have HM := Lib.hid (made_no h)
  clear h
  go_enter Try.func72, Try.ntmps72
  go_wp2_with (refine HM.out.mono ?_; rintro e w' ⟨rfl, rfl⟩)
  go_ret
  exact ⟨rfl, rfl⟩
theorem Sync_no {w : World} {v : Value} (h : NoDisk w v) (f : Int) : Calls Try.prog 27 #[v, .int .i64 f] w fun e w' => e = .returned (.int .i64 6) ∧ w' = w := by
  have HM := Lib.hid (made_no h)
  clear h
  go_enter Try.func27, Try.ntmps27
  go_wp2_with (refine HM.out.mono ?_; rintro e w' ⟨rfl, rfl⟩)
  go_ret
  exact ⟨rfl, rfl⟩
theorem Fail_no {w : World} {v : Value} (h : NoDisk w v) (n : Int) : Calls Try.prog 29 #[v, .int .i64 n] w fun e w' => e = .returned (.int .i64 6) ∧ w' = w := by
  have HM := Lib.hid (made_no h)
  clear h
  go_enter Try.func29, Try.ntmps29
  go_wp2_with (refine HM.out.mono ?_; rintro e w' ⟨rfl, rfl⟩)
  go_ret
  exact ⟨rfl, rfl⟩
theorem Crash_no {w : World} {v : Value} (h : NoDisk w v) (x : Value) : Calls Try.prog 28 #[v, x] w fun e w' => e = .returned (.int .i64 6) ∧ w' = w := by
  have HM := Lib.hid (made_no h)
  clear h
  go_enter Try.func28, Try.ntmps28
  go_wp2_with (refine HM.out.mono ?_; rintro e w' ⟨rfl, rfl⟩)
  go_ret
  exact ⟨rfl, rfl⟩
/-! Those that set a number -/
theorem row_set_quota (B : Nat) (d : DS) (Mv Md : Nat) (pv : Value) (q : Nat) : (rowD B d Mv Md pv).setIfInBounds 1 (.int .i64 (q : Int)) = rowD B { d with quota := q } Mv Md pv := rfl
theorem row_set_left (B : Nat) (d : DS) (Mv Md : Nat) (pv : Value) (l : Option Nat) : (rowD B d Mv Md pv).setIfInBounds 10 (.int .i64 (leftI l)) = rowD B { d with left := l } Mv Md pv := rfl
theorem row_set_calls (B : Nat) (d : DS) (Mv Md : Nat) (pv : Value) (l : Nat) : (rowD B d Mv Md pv).setIfInBounds 9 (.int .i64 (l : Int)) = rowD B { d with calls := l } Mv Md pv := rfl
theorem row_set_down (B : Nat) (d : DS) (Mv Md : Nat) (pv : Value) (b : Bool) : (rowD B d Mv Md pv).setIfInBounds 11 (.bool b) = rowD B { d with down := b } Mv Md pv := rfl
theorem row_set_pend (B : Nat) (d : DS) (Mv Md : Nat) (pv pv' : Value) (p : List Wr) : (rowD B d Mv Md pv).setIfInBounds 8 pv' = rowD B { d with pend := p } Mv Md pv' := rfl

/-- One cell of the disk's row has changed, and nothing else. -/
theorem DiskAt.set_ {w : World} {B Mv Md : Nat} {pv pv' : Value} {d d' : DS} (h : DiskAt w B d Mv Md pv) (o : Nat) (u : Value) (hr : (rowD B d Mv Md pv).setIfInBounds o u = rowD B d' Mv Md pv')
    (hv : d'.vis.key = d.vis.key) (hd : d'.dur.key = d.dur.key) (hp : w.ownsRow 0 109 130 pv' d'.pend.length (cellsW d'.pend)) (hok : d'.ok) (hc : d'.calls ≤ 1000000000) (hw : d'.pend.length ≤ 1000000000) :
    DiskAt (w.setCell ⟨B, o, none⟩ u) B d' Mv Md pv' :=
  ⟨by rw [← hr]; exact h.blk.set_ o u, by rw [hv]; exact h.vis.setCell _ _ _, by rw [hd]; exact h.dur.setCell _ _ _,
    own_chg hp ((Chg.refl [B] w).setCell (.inl (by simp)) u) (fun g hg => by
      have := own_ne hp h.blk (by decide)
      rw [hg] at this
      simpa using this), h.apart, hok, hc, hw⟩

theorem Fail_any {w : World} {B Mv Md : Nat} {pv : Value} {d : DS} (h : DiskAt w B d Mv Md pv) (n : Nat) (hn : n < 9223372036854775808) :
    Calls Try.prog 29 #[.pointer (some ⟨B, 0, none⟩), .int .i64 (n : Int)] w fun e w' => e = .returned (.int .i64 0) ∧ DiskAt w' B { d with left := some n } Mv Md pv ∧ Chg [B] w w' := by
  obtain ⟨c0, c1, c2, c3, c4, c5, c6, c7, c8, c9, c10, c11⟩ := h.cells
  have hf := h.blk.frozen 10
  have HM := Lib.hid (made_yes w B c0)
  have HD := Lib.hid (h.set_ 10 (.int .i64 (n : Int)) (row_set_left B d Mv Md pv (some n)) rfl rfl h.pend ⟨h.ok.quota, h.ok.vis, h.ok.dur, h.ok.pend, fun m hm => by obtain rfl := Option.some.inj hm; exact hn⟩ h.calls h.waits)
  have q0 : decide ((n : Int) < 0) = false := by rw [decide_eq_false_iff_not]; omega
  clear h hn
  go_enter Try.func29, Try.ntmps29
  go_wp2_with (refine HM.out.mono ?_; rintro e w' ⟨rfl, rfl⟩)
  go_ret
  exact ⟨rfl, HD.out, (Chg.refl _ _).setCell (.inl (by simp)) _⟩
theorem Fail_bad {w : World} {B Mv Md : Nat} {pv : Value} {d : DS} (h : DiskAt w B d Mv Md pv) (n : Int) (hn : n < 0) :
    Calls Try.prog 29 #[.pointer (some ⟨B, 0, none⟩), .int .i64 n] w fun e w' => e = .returned (.int .i64 1) ∧ w' = w := by
  obtain ⟨c0, c1, c2, c3, c4, c5, c6, c7, c8, c9, c10, c11⟩ := h.cells
  have HM := Lib.hid (made_yes w B c0)
  have q0 : decide (n < 0) = true := by simpa using hn
  clear h
  go_enter Try.func29, Try.ntmps29
  go_wp2_with (refine HM.out.mono ?_; rintro e w' ⟨rfl, rfl⟩)
  go_ret
  exact ⟨rfl, rfl⟩

set_option maxHeartbeats 1000000 in
theorem change_any {w : World} {B Mv Md : Nat} {pv : Value} {d : DS} (h : DiskAt w B d Mv Md pv) (hcs : d.calls < 1000000000) :
    Calls Try.prog 61 #[.pointer (some ⟨B, 0, none⟩)] w fun e w' => e = .returned (.int .i64 (if d.change.2 then 0 else 51)) ∧ DiskAt w' B d.change.1 Mv Md pv ∧ Chg [B] w w' := by
  obtain ⟨c0, c1, c2, c3, c4, c5, c6, c7, c8, c9, c10, c11⟩ := h.cells
  have hf9 := h.blk.frozen 9
  have hf10 := h.blk.frozen 10
  have hf11 := h.blk.frozen 11
  have hok := DS.change_ok h.ok
  have hl := h.ok.left
  cases hleft : d.left with
  | none =>
    have hch : d.change = ({ d with left := none, calls := d.calls + 1 }, true) := by unfold DS.change; rw [hleft]; rfl
    rw [hch] at hok ⊢
    have hd1 := h.set_ 9 (.int .i64 ((d.calls + 1 : Nat) : Int)) (row_set_calls B d Mv Md pv (d.calls + 1)) rfl rfl h.pend ⟨h.ok.quota, h.ok.vis, h.ok.dur, h.ok.pend, h.ok.left⟩ hcs h.waits
    have e1 : ({ d with calls := d.calls + 1 } : DS) = { d with left := none, calls := d.calls + 1 } := by rw [← hleft]
    rw [e1] at hd1
    have HD := Lib.hid hd1
    rw [hleft] at c10
    have e2 : leftI none = -1 := rfl
    rw [e2] at c10
    obtain ⟨n, hn⟩ : ∃ n, d.calls = n := ⟨_, rfl⟩
    rw [hn] at c9 hcs HD ⊢
    clear h hl hleft hch hd1 e1 e2 hok hn
    go_enter Try.func61, Try.ntmps61
    go_wp2
    go_ret
    exact ⟨rfl, HD.out, (Chg.refl _ _).setCell (.inl (by simp)) _⟩
  | some m =>
    have hm := hl m hleft
    have e2 : leftI (some m) = (m : Int) := rfl
    rw [hleft, e2] at c10
    cases m with
    | zero =>
      have hch : d.change = ({ d with down := true }, false) := by unfold DS.change; rw [hleft]; rfl
      rw [hch] at hok ⊢
      have HD := Lib.hid (h.set_ 11 (.bool true) (row_set_down B d Mv Md pv true) rfl rfl h.pend hok h.calls h.waits)
      clear h hl hleft hch hok hm e2
      go_enter Try.func61, Try.ntmps61
      go_wp2
      go_ret
      exact ⟨rfl, HD.out, (Chg.refl _ _).setCell (.inl (by simp)) _⟩
    | succ m =>
      have hch : d.change = ({ d with left := some m, calls := d.calls + 1 }, true) := by unfold DS.change; rw [hleft]; rfl
      rw [hch] at hok ⊢
      have hd1 := h.set_ 10 (.int .i64 (m : Int)) (row_set_left B d Mv Md pv (some m)) rfl rfl h.pend ⟨h.ok.quota, h.ok.vis, h.ok.dur, h.ok.pend, hok.left⟩ h.calls h.waits
      have hd2 := hd1.set_ 9 (.int .i64 ((d.calls + 1 : Nat) : Int)) (row_set_calls B _ Mv Md pv (d.calls + 1)) rfl rfl hd1.pend hok hcs h.waits
      have HD := Lib.hid hd2
      have q0 : (((m + 1 : Nat) : Int) == 0) = false := by simp; omega
      have q1 : (((m + 1 : Nat) : Int) != -1) = true := by simp; omega
      obtain ⟨n, hn⟩ : ∃ n, d.calls = n := ⟨_, rfl⟩
      rw [hn] at c9 hcs HD ⊢
      obtain ⟨k, hk⟩ : ∃ k : Nat, m + 1 = k := ⟨_, rfl⟩
      rw [hk] at c10 hm q0 q1
      have hk1 : 1 ≤ k := by omega
      have e3 : (m : Int) = (k : Int) - 1 := by omega
      rw [e3] at HD
      clear h hl hleft hch hd1 hd2 e2 hok hn hk e3
      go_enter Try.func61, Try.ntmps61
      go_wp2
      go_ret
      exact ⟨rfl, HD.out, ((Chg.refl _ _).setCell (.inl (by simp)) _).setCell (.inl (by simp)) _⟩
end Go.Proofs.Ythfgjkmfabmipaa

/- fits, keeps, put, clone. -/
set_option linter.unusedSimpArgs false
set_option linter.unusedVariables false
set_option maxRecDepth 100000
namespace Go.Proofs.Ythfgjkmfabmipaa
set_option linter.unusedSimpArgs false
open Go.RowKit

set_option maxRecDepth 100000 in
set_option maxHeartbeats 4000000 in
theorem fits_cells (w : World) (B : Nat) (f : Nat) (hf : f < 2) (s lf lo q : Nat) (hs : s ≤ 65535) (hlo : lo ≤ 65536) (hq : q ≤ 65536) (hlt : B < w.heap.size)
    (c1 : w.cell? ⟨B, 1, none⟩ = some (.int .i64 (q : Int))) (cf : w.cell? ⟨B, 3 + f, none⟩ = some (.int .i64 (lf : Int))) (co : w.cell? ⟨B, 4 - f, none⟩ = some (.int .i64 (lo : Int))) :
    Calls Try.prog 82 #[.pointer (some ⟨B, 0, none⟩), .int .i64 (f : Int), .int .i64 (s : Int)] w fun e w' => e = .returned (.bool (decide (s < lf) || decide (s + 1 + lo ≤ q))) ∧ Below w.heap.size w w' := by
  have e1 : ∀ W, Later w.drew W → W.cell? ⟨B, 1, none⟩ = some (.int .i64 (q : Int)) := fun W h => (Below.cell (p := ⟨B, 1, none⟩) h hlt).trans c1
  have hw0 : IntKind.i64.wrap 1 = 1 := by decide
  have hw00 : IntKind.i64.wrap 0 = 0 := by decide
  have hw1 : IntKind.i64.wrap ((s : Int) + 1) = (s : Int) + 1 := IntWalk.i64_in _ ⟨by omega, by omega⟩
  have hw2 : IntKind.i64.wrap ((s : Int) + 1 + (lo : Int)) = (s : Int) + 1 + (lo : Int) := IntWalk.i64_in _ ⟨by omega, by omega⟩
  have hcases : f = 0 ∨ f = 1 := by omega
  rcases hcases with rfl | rfl
  · have e3 : ∀ W, Later w.drew W → W.cell? ⟨B, 3, none⟩ = some (.int .i64 (lf : Int)) := fun W h => (Below.cell (p := ⟨B, 3, none⟩) h hlt).trans cf
    have e4 : ∀ W, Later w.drew W → W.cell? ⟨B, 4, none⟩ = some (.int .i64 (lo : Int)) := fun W h => (Below.cell (p := ⟨B, 4, none⟩) h hlt).trans co
    clear c1 cf co hf
    by_cases h1 : s < lf
    · have q1 : decide (s < lf) = true := by simpa using h1
      rw [q1, Bool.true_or]
      go_enter Try.func82, Try.ntmps82
      go_wp2_with fail
      refine wp_region_ord [(0, true), (1, true), (2, true), (3, true), (4, true), (5, true), (6, true), (7, true), (8, true), (9, true), (10, true), (11, true), (12, true), (13, true), (14, true), (15, true), (16, true), (17, true), (18, true), (19, true), (20, true), (21, true), (22, true), (23, true), (24, true), (25, true), (26, true), (27, true)] (by kernel_rfl) (by kernel_rfl) (by kernel_rfl) (by kernel_rfl) ?_
      repeat (first | (refine wpO_F (v := ?_) rfl (by rfl) (fun w' hL => ?_) ?_; rotate_left; (solve | (go_simp; with_reducible rfl) | go_simp); try simp only [Act.put, List.setIfInBounds_toArray, List.set_cons_zero, List.set_cons_succ]) | (refine wpO_G rfl (by rfl) ?_; try simp only [Act.put, List.setIfInBounds_toArray, List.set_cons_zero, List.set_cons_succ]))
      refine wpO_nil ?_
      go_wp2
      go_ret
      exact ⟨rfl, (Below.refl _ _).drew⟩
    · have q1 : decide (s < lf) = false := by simpa using h1
      by_cases h2 : s + 1 + lo ≤ q
      · have q2 : decide ((s : Int) + 1 + (lo : Int) ≤ (q : Int)) = true := by rw [decide_eq_true_iff]; omega
        have q3 : decide (s + 1 + lo ≤ q) = true := by simpa using h2
        rw [q1, q3, Bool.false_or]
        clear h2 hw1 hw2
        have hw1 : IntKind.i64.wrap ((s : Int) + 1) = (s : Int) + 1 := IntWalk.i64_in _ ⟨by omega, by omega⟩
        have hw2 : IntKind.i64.wrap ((s : Int) + 1 + (lo : Int)) = (s : Int) + 1 + (lo : Int) := IntWalk.i64_in _ ⟨by omega, by omega⟩
        go_enter Try.func82, Try.ntmps82
        go_wp2_with fail
        refine wp_region_ord [(0, true), (1, true), (2, true), (3, true), (4, true), (5, true), (6, true), (7, true), (8, true), (9, true), (10, true), (11, true), (12, true), (13, true), (14, true), (15, true), (16, true), (17, true), (18, true), (19, true), (20, true), (21, true), (22, true), (23, true), (24, true), (25, true), (26, true), (27, true)] (by kernel_rfl) (by kernel_rfl) (by kernel_rfl) (by kernel_rfl) ?_
        repeat (first | (refine wpO_F (v := ?_) rfl (by rfl) (fun w' hL => ?_) ?_; rotate_left; (solve | (go_simp; with_reducible rfl) | go_simp); try simp only [Act.put, List.setIfInBounds_toArray, List.set_cons_zero, List.set_cons_succ]) | (refine wpO_G rfl (by rfl) ?_; try simp only [Act.put, List.setIfInBounds_toArray, List.set_cons_zero, List.set_cons_succ]))
        refine wpO_nil ?_
        go_wp2
        go_ret
        exact ⟨rfl, (Below.refl _ _).drew⟩
      · have q2 : decide ((s : Int) + 1 + (lo : Int) ≤ (q : Int)) = false := by rw [decide_eq_false_iff_not]; omega
        have q3 : decide (s + 1 + lo ≤ q) = false := by simpa using h2
        rw [q1, q3, Bool.false_or]
        clear h2
        go_enter Try.func82, Try.ntmps82
        go_wp2_with fail
        refine wp_region_ord [(0, true), (1, true), (2, true), (3, true), (4, true), (5, true), (6, true), (7, true), (8, true), (9, true), (10, true), (11, true), (12, true), (13, true), (14, true), (15, true), (16, true), (17, true), (18, true), (19, true), (20, true), (21, true), (22, true), (23, true), (24, true), (25, true), (26, true), (27, true)] (by kernel_rfl) (by kernel_rfl) (by kernel_rfl) (by kernel_rfl) ?_
        repeat (first | (refine wpO_F (v := ?_) rfl (by rfl) (fun w' hL => ?_) ?_; rotate_left; (solve | (go_simp; with_reducible rfl) | go_simp); try simp only [Act.put, List.setIfInBounds_toArray, List.set_cons_zero, List.set_cons_succ]) | (refine wpO_G rfl (by rfl) ?_; try simp only [Act.put, List.setIfInBounds_toArray, List.set_cons_zero, List.set_cons_succ]))
        refine wpO_nil ?_
        go_wp2
        go_ret
        exact ⟨rfl, (Below.refl _ _).drew⟩
  · have e3 : ∀ W, Later w.drew W → W.cell? ⟨B, 4, none⟩ = some (.int .i64 (lf : Int)) := fun W h => (Below.cell (p := ⟨B, 4, none⟩) h hlt).trans cf
    have e4 : ∀ W, Later w.drew W → W.cell? ⟨B, 3, none⟩ = some (.int .i64 (lo : Int)) := fun W h => (Below.cell (p := ⟨B, 3, none⟩) h hlt).trans co
    clear c1 cf co hf
    by_cases h1 : s < lf
    · have q1 : decide (s < lf) = true := by simpa using h1
      rw [q1, Bool.true_or]
      go_enter Try.func82, Try.ntmps82
      go_wp2_with fail
      refine wp_region_ord [(0, true), (1, true), (2, true), (3, true), (4, true), (5, true), (6, true), (7, true), (8, true), (9, true), (10, true), (11, true), (12, true), (13, true), (14, true), (15, true), (16, true), (17, true), (18, true), (19, true), (20, true), (21, true), (22, true), (23, true), (24, true), (25, true), (26, true), (27, true)] (by kernel_rfl) (by kernel_rfl) (by kernel_rfl) (by kernel_rfl) ?_
      repeat (first | (refine wpO_F (v := ?_) rfl (by rfl) (fun w' hL => ?_) ?_; rotate_left; (solve | (go_simp; with_reducible rfl) | go_simp); try simp only [Act.put, List.setIfInBounds_toArray, List.set_cons_zero, List.set_cons_succ]) | (refine wpO_G rfl (by rfl) ?_; try simp only [Act.put, List.setIfInBounds_toArray, List.set_cons_zero, List.set_cons_succ]))
      refine wpO_nil ?_
      go_wp2
      go_ret
      exact ⟨rfl, (Below.refl _ _).drew⟩
    · have q1 : decide (s < lf) = false := by simpa using h1
      by_cases h2 : s + 1 + lo ≤ q
      · have q2 : decide ((s : Int) + 1 + (lo : Int) ≤ (q : Int)) = true := by rw [decide_eq_true_iff]; omega
        have q3 : decide (s + 1 + lo ≤ q) = true := by simpa using h2
        rw [q1, q3, Bool.false_or]
        clear h2
        go_enter Try.func82, Try.ntmps82
        go_wp2_with fail
        refine wp_region_ord [(0, true), (1, true), (2, true), (3, true), (4, true), (5, true), (6, true), (7, true), (8, true), (9, true), (10, true), (11, true), (12, true), (13, true), (14, true), (15, true), (16, true), (17, true), (18, true), (19, true), (20, true), (21, true), (22, true), (23, true), (24, true), (25, true), (26, true), (27, true)] (by kernel_rfl) (by kernel_rfl) (by kernel_rfl) (by kernel_rfl) ?_
        repeat (first | (refine wpO_F (v := ?_) rfl (by rfl) (fun w' hL => ?_) ?_; rotate_left; (solve | (go_simp; with_reducible rfl) | go_simp); try simp only [Act.put, List.setIfInBounds_toArray, List.set_cons_zero, List.set_cons_succ]) | (refine wpO_G rfl (by rfl) ?_; try simp only [Act.put, List.setIfInBounds_toArray, List.set_cons_zero, List.set_cons_succ]))
        refine wpO_nil ?_
        go_wp2
        go_ret
        exact ⟨rfl, (Below.refl _ _).drew⟩
      · have q2 : decide ((s : Int) + 1 + (lo : Int) ≤ (q : Int)) = false := by rw [decide_eq_false_iff_not]; omega
        have q3 : decide (s + 1 + lo ≤ q) = false := by simpa using h2
        rw [q1, q3, Bool.false_or]
        clear h2
        go_enter Try.func82, Try.ntmps82
        go_wp2_with fail
        refine wp_region_ord [(0, true), (1, true), (2, true), (3, true), (4, true), (5, true), (6, true), (7, true), (8, true), (9, true), (10, true), (11, true), (12, true), (13, true), (14, true), (15, true), (16, true), (17, true), (18, true), (19, true), (20, true), (21, true), (22, true), (23, true), (24, true), (25, true), (26, true), (27, true)] (by kernel_rfl) (by kernel_rfl) (by kernel_rfl) (by kernel_rfl) ?_
        repeat (first | (refine wpO_F (v := ?_) rfl (by rfl) (fun w' hL => ?_) ?_; rotate_left; (solve | (go_simp; with_reducible rfl) | go_simp); try simp only [Act.put, List.setIfInBounds_toArray, List.set_cons_zero, List.set_cons_succ]) | (refine wpO_G rfl (by rfl) ?_; try simp only [Act.put, List.setIfInBounds_toArray, List.set_cons_zero, List.set_cons_succ]))
        refine wpO_nil ?_
        go_wp2
        go_ret
        exact ⟨rfl, (Below.refl _ _).drew⟩

theorem fits_any {w : World} {B Mv Md : Nat} {pv : Value} {d : DS} (h : DiskAt w B d Mv Md pv) (f s : Nat) (hf : f < 2) (hs : s ≤ 65535) :
    Calls Try.prog 82 #[.pointer (some ⟨B, 0, none⟩), .int .i64 (f : Int), .int .i64 (s : Int)] w fun e w' => e = .returned (.bool (d.fits f s)) ∧ Below w.heap.size w w' := by
  have h0 := h.ok.vis.len 0
  have h1 := h.ok.vis.len 1
  have hcases : f = 0 ∨ f = 1 := by omega
  rcases hcases with rfl | rfl
  · exact fits_cells w B 0 hf s (d.vis.len 0) (d.vis.len 1) d.quota hs h1 h.ok.quota.2 h.blk.lt h.cells.2.1 h.cells.2.2.2.1 h.cells.2.2.2.2.1
  · exact fits_cells w B 1 hf s (d.vis.len 1) (d.vis.len 0) d.quota hs h0 h.ok.quota.2 h.blk.lt h.cells.2.1 h.cells.2.2.2.2.1 h.cells.2.2.2.1
end Go.Proofs.Ythfgjkmfabmipaa

/- keeps. -/
set_option linter.unusedSimpArgs false
set_option linter.unusedVariables false
set_option maxRecDepth 100000
namespace Go.Proofs.Ythfgjkmfabmipaa
set_option linter.unusedSimpArgs false
open Go.RowKit

theorem keeps_any (a : Option Addr) (n cap : Nat) (l : List Nat) (i N : Nat) (w : World) (hB : Bs N w a l) (hn : n = l.length) (hi : i ≤ 1000000000) (hnm : n ≤ 1000000000000) :
    Calls Try.prog 63 #[.slice a n cap, .int .i64 (i : Int)] w fun e w' => e = .returned (.bool (bitOf l i)) ∧ w' = w := by
  have HN := Lib.hid hn
  by_cases h : i / 8 < n
  · obtain ⟨c, hc⟩ : ∃ c, l[i / 8]? = some c := ⟨_, List.getElem?_eq_getElem (by omega)⟩
    have hc2 := hB.lt hc
    rcases hB.2 with h0 | ⟨b, o, rfl, hbN, hcell⟩
    · subst h0; simp at hc
    · have hcl := hcell _ _ hc
      have HB : Hid (bitOf l i = (c / 2 ^ (i % 8) % 2 == 1)) := by
        show bitOf l i = _
        unfold bitOf
        rw [List.getD_eq_getElem?_getD, hc]; rfl
      have q1 : decide (i / 8 < n) = true := by simpa using h
      clear hB hcell hn hc
      go_enter Try.func63, Try.ntmps63
      go_wp2
      go_ret
      refine ⟨?_, rfl⟩
      show Ending.returned (Value.bool (bits .and .u8 ((c : Int) / 2 ^ (i % 8)) 1 == 1)) = _
      have e : ((c : Int) / 2 ^ (i % 8)) = ((c / 2 ^ (i % 8) : Nat) : Int) := by push_cast; rfl
      have hlt : c / 2 ^ (i % 8) < 256 := Nat.lt_of_le_of_lt (Nat.div_le_self _ _) hc2
      have ha : bits .and .u8 ((c / 2 ^ (i % 8) : Nat) : Int) 1 = ((c / 2 ^ (i % 8) % 2 : Nat) : Int) := by
        have := u8_and_nat (c / 2 ^ (i % 8)) 1 hlt (by omega)
        rw [Nat.and_one_is_mod] at this
        exact this
      rw [HB.out, e, ha]
      congr 2
      rw [Bool.eq_iff_iff]
      simp only [beq_iff_eq]
      omega
  · have q1 : decide (i / 8 < n) = false := by simpa using h
    have q2 : ¬ ((i : Int) / 8 < (n : Int)) := by omega
    have HB : Hid (bitOf l i = false) := by
      show bitOf l i = false
      unfold bitOf
      rw [List.getD_eq_getElem?_getD, List.getElem?_eq_none (by omega)]
      simp
    clear hB hn
    go_enter Try.func63, Try.ntmps63
    go_wp2
    go_ret
    exact ⟨by rw [HB.out]; rfl, rfl⟩
end Go.Proofs.Ythfgjkmfabmipaa

/- Operations on large arrays and structs, carried out as one step. -/
set_option linter.unusedSimpArgs false
set_option linter.unusedVariables false
set_option maxRecDepth 100000
namespace Go.Proofs.Ythfgjkmfabmipaa
open Go.RowKit

section
variable {P : Program} {ops : Array Oper} {Q : Exit → Act → World → Prop}

theorem exec_load {o : Oper} {a : Act} {w : World} {ty : TypeId} {x : Operand} {ad : Addr} {v : Value} (ho : o.op = .load ty x) (hx : a.eval x = .pointer (some ad)) (h : (loadVar ty ad).run P w = .ok v w) :
    (execOp a.eval o).run P w = .ok (.value v) w := by
  unfold execOp
  simp only [ho, hx, Instr.loadAt, Instr.sureAddr, Sem.run_bind, Sem.run_pure, Result.andThen_ok, h]

/-- A load in a plain region. -/
theorem wpList_loadV {rest : List Oper} {o : Oper} {a : Act} {w : World} (hg : o.guard = none) (ty : TypeId) (x : Operand) (ho : o.op = .load ty x) {ad : Addr} (hx : a.eval x = .pointer (some ad)) {v : Value} (h : (loadVar ty ad).run P w = .ok v w)
    (hK : wpList P ops Q rest (a.put o.dst v) w) : wpList P ops Q (o :: rest) a w :=
  wpList_plain hg fun _ hk => by
    unfold Oper.wp
    rw [exec_load ho hx h]
    exact hk _ _ hK

/-- A store in a plain region. -/
theorem wpList_storeV {rest : List Oper} {o : Oper} {a : Act} {w w' : World} (hg : o.guard = none) (ty : TypeId) (x y : Operand) (ho : o.op = .store ty x y) {ad : Addr} (hx : a.eval x = .pointer (some ad)) {v : Value} (hy : a.eval y = v) (h : (storeVar ty ad v).run P w = .ok () w')
    (hK : wpList P ops Q rest (a.put o.dst undef) w') : wpList P ops Q (o :: rest) a w :=
  wpList_plain hg fun _ hk => by
    unfold Oper.wp execOp
    simp only [ho, hx, hy, Instr.storeAt, Instr.sureAddr, Sem.run_bind, Sem.run_pure, Result.andThen_ok, h]
    exact hk _ _ hK

/-- An operation of a plain region whose run is known. -/
theorem wpList_val {rest : List Oper} {o : Oper} {a : Act} {w w' : World} (hg : o.guard = none) {v : Value} (h : (execOp a.eval o).run P w = .ok (.value v) w')
    (hK : wpList P ops Q rest (a.put o.dst v) w') : wpList P ops Q (o :: rest) a w :=
  wpList_plain hg fun _ hk => by
    unfold Oper.wp
    rw [h]
    exact hk _ _ hK
theorem wpList_skp {rest : List Oper} {o : Oper} {a : Act} {w w' : World} (hg : o.guard = none) (h : (execOp a.eval o).run P w = .ok .skip w')
    (hK : wpList P ops Q rest (a.put o.dst undef) w') : wpList P ops Q (o :: rest) a w :=
  wpList_plain hg fun _ hk => by
    unfold Oper.wp
    rw [h]
    exact hk _ _ hK
/-- One whose run is known, at its own. -/
theorem wp_val {o : Oper} {a : Act} {w w' : World} {K : Act → World → Prop} {v : Value} (h : (execOp a.eval o).run P w = .ok (.value v) w') (hK : K (a.put o.dst v) w') : o.wp P a w K Q := by
  unfold Oper.wp
  rw [h]
  exact hK
theorem wp_skp {o : Oper} {a : Act} {w w' : World} {K : Act → World → Prop} (h : (execOp a.eval o).run P w = .ok .skip w') (hK : K (a.put o.dst undef) w') : o.wp P a w K Q := by
  unfold Oper.wp
  rw [h]
  exact hK

theorem exec_mapUpdate {o : Oper} {a : Act} {w w' : World} {T : TypeId} {m k x : Operand} (ho : o.op = .mapUpdate T m k x) {vm vk vx : Value} (hm : a.eval m = vm) (hk : a.eval k = vk) (hx : a.eval x = vx) (h : (Instr.mapUpdate T vm vk vx).run P w = .ok () w') :
    (execOp a.eval o).run P w = .ok .skip w' := by
  unfold execOp
  simp only [ho, hm, hk, hx, Sem.run_bind, h, Result.andThen_ok, Sem.run_pure]
theorem exec_lookup {o : Oper} {a : Act} {w : World} {T : TypeId} {m k : Operand} {ok : Bool} (ho : o.op = .lookup T m k ok) {vm vk v : Value} (hm : a.eval m = vm) (hk : a.eval k = vk) (h : (Instr.lookup T vm vk ok).run P w = .ok v w) :
    (execOp a.eval o).run P w = .ok (.value v) w := by
  unfold execOp
  simp only [ho, hm, hk, Sem.run_bind, h, Result.andThen_ok, Sem.run_pure]
theorem exec_alloc {o : Oper} {a : Act} {w : World} {e : TypeId} (ho : o.op = .alloc e) {z : Value} (hz : ∀ W, (zeroValue e).run P W = .ok z W) :
    (execOp a.eval o).run P w = .ok (.value (.pointer (some ⟨w.heap.size, 0, none⟩))) (w.alloc (.cells z.cells e)) := by
  unfold execOp
  simp only [ho, Instr.alloc, Sem.run_bind, hz, Result.andThen_ok]
  rfl
theorem exec_build {o : Oper} {a : Act} {w : World} {t : TypeId} {parts : Array (Nat × Operand)} (ho : o.op = .build t parts) {cells : Array Value} (h : (Instr.build t (parts.map fun (i, x) => (i, a.eval x))).run P w = .ok (.agg cells) w) :
    (execOp a.eval o).run P w = .ok (.value (.agg cells)) w := by
  unfold execOp
  simp only [ho, Sem.run_bind, h, Result.andThen_ok, Sem.run_pure]
theorem exec_buildSlice {o : Oper} {a : Act} {w w' : World} {t : TypeId} {n : Nat} {parts : Array (Nat × Operand)} (ho : o.op = .buildSlice t n parts) {v : Value} (h : (Instr.buildSlice t n (parts.map fun (i, x) => (i, a.eval x))).run P w = .ok v w') :
    (execOp a.eval o).run P w = .ok (.value v) w' := by
  unfold execOp
  simp only [ho, Sem.run_bind, h, Result.andThen_ok, Sem.run_pure]
theorem exec_buildSlice1 {o : Oper} {a : Act} {w w' : World} {t : TypeId} {n : Nat} {i : Nat} {x : Operand} (ho : o.op = .buildSlice t n #[(i, x)]) {vx v : Value} (hx : a.eval x = vx) (h : (Instr.buildSlice t n #[(i, vx)]).run P w = .ok v w') :
    (execOp a.eval o).run P w = .ok (.value v) w' := exec_buildSlice ho (by simpa [hx] using h)
theorem exec_build1 {o : Oper} {a : Act} {w : World} {t : TypeId} {i : Nat} {x : Operand} (ho : o.op = .build t #[(i, x)]) {vx : Value} {cells : Array Value} (hx : a.eval x = vx) (h : (Instr.build t #[(i, vx)]).run P w = .ok (.agg cells) w) :
    (execOp a.eval o).run P w = .ok (.value (.agg cells)) w := exec_build ho (by simpa [hx] using h)
theorem exec_build2 {o : Oper} {a : Act} {w : World} {t : TypeId} {i j : Nat} {x y : Operand} (ho : o.op = .build t #[(i, x), (j, y)]) {vx vy : Value} {cells : Array Value} (hx : a.eval x = vx) (hy : a.eval y = vy) (h : (Instr.build t #[(i, vx), (j, vy)]).run P w = .ok (.agg cells) w) :
    (execOp a.eval o).run P w = .ok (.value (.agg cells)) w := exec_build ho (by simpa [hx, hy] using h)
theorem exec_store {o : Oper} {a : Act} {w w' : World} {ty : TypeId} {x y : Operand} (ho : o.op = .store ty x y) {ad : Addr} (hx : a.eval x = .pointer (some ad)) {v : Value} (hy : a.eval y = v) (h : (storeVar ty ad v).run P w = .ok () w') :
    (execOp a.eval o).run P w = .ok .skip w' := by
  unfold execOp
  simp only [ho, hx, hy, Instr.storeAt, Instr.sureAddr, Sem.run_bind, Sem.run_pure, Result.andThen_ok, h]
end

/-- The zero value of a type, and its size. -/
theorem zero_of {P : Program} {t : TypeId} {v : Value} (h : (P.info? t).map (·.zero) = some (some v)) (w : World) : (zeroValue t).run P w = .ok v w := by
  cases hq : P.info? t with
  | none => simp [hq] at h
  | some i =>
    simp [hq] at h
    simp [zeroValue, typeInfo, hq, h]
end Go.Proofs.Ythfgjkmfabmipaa

/- put. -/
set_option linter.unusedSimpArgs false
set_option linter.unusedVariables false
set_option maxRecDepth 100000
namespace Go.Proofs.Ythfgjkmfabmipaa
set_option linter.unusedSimpArgs false
open Go.RowKit

theorem key_wr (c : Cont) (x : Wr) : (c.wr x).key = fun y => if [x.f, x.s] == y then some x.b else c.key y := by
  funext y
  unfold Cont.key Cont.wr Cont.put
  match y with
  | [] => simp
  | [a] => simp
  | [a, b] =>
    simp only
    by_cases h : a = x.f ∧ b = x.s
    · obtain ⟨rfl, rfl⟩ := h; simp
    · rw [if_neg h]
      have : ([x.f, x.s] == [a, b]) = false := by
        simp only [beq_eq_false_iff_ne, ne_eq, List.cons.injEq, and_true]
        rintro ⟨h1, h2⟩
        exact h ⟨h1.symm, h2.symm⟩
      rw [this]
      simp
  | a :: b :: c' :: r =>
    simp

theorem Wr.cells_get (x : Wr) : x.cells.toArray[0]? = some (.int .i64 (x.f : Int)) ∧ x.cells.toArray[1]? = some (.int .i64 (x.s : Int)) := by
  unfold Wr.cells; simp

theorem Wr.cells_one (x : Wr) : ∀ v ∈ x.cells, v.oneCell' = true := by
  intro v hv
  unfold Wr.cells at hv
  simp only [List.mem_cons, List.mem_map] at hv
  rcases hv with rfl | rfl | ⟨c, _, rfl⟩ <;> rfl

/-- The parts of a write that lies in memory. -/
theorem wr_loads {w : World} {g o : Nat} {x : Wr} (hx : x.ok) (hc : w.rangeAt g o x.cells) :
    (loadVar 107 ⟨g, o + 2, none⟩).run Try.prog w = .ok (arrN .u8 x.b) w ∧
    (loadVar 109 ⟨g, o, none⟩).run Try.prog w = .ok (.agg x.cells.toArray) w ∧
    w.cell? ⟨g, o, none⟩ = some (.int .i64 (x.f : Int)) ∧ w.cell? ⟨g, o + 1, none⟩ = some (.int .i64 (x.s : Int)) := by
  have hlen : x.cells.length = 130 := by unfold Wr.cells; simp [hx.2.2.1]
  refine ⟨?_, ?_, ?_, ?_⟩
  · have : w.rangeAt g (o + 2) (x.b.map fun (c : Nat) => Value.int .u8 (c : Int)) := by
      intro j v hv
      rw [Nat.add_assoc]
      refine hc (2 + j) v ?_
      unfold Wr.cells
      rw [show 2 + j = j + 1 + 1 by omega, List.getElem?_cons_succ, List.getElem?_cons_succ]
      exact hv
    have hl : (Try.prog.info? 107).map (·.size) = some (x.b.map fun (c : Nat) => Value.int .u8 (c : Int)).length := by
      rw [List.length_map, hx.2.2.1]
      kernel_rfl
    exact run_loadVar_mid w g (o + 2) 107 _ _ this Try.underlying107 rfl hl
  · have hl : (Try.prog.info? 109).map (·.size) = some x.cells.length := by
      rw [hlen]
      kernel_rfl
    exact run_loadVar_mid w g o 109 _ _ hc Try.underlying109 rfl hl
  · have := hc 0 (.int .i64 (x.f : Int)) rfl
    simpa using this
  · exact hc 1 (.int .i64 (x.s : Int)) rfl

theorem rangeAt_chg {w w' : World} {g o : Nat} {cs : List Value} {S : List Nat} (h : w.rangeAt g o cs) (hg : g < w.heap.size) (hc : Chg S w w') (hn : g ∉ S) : w'.rangeAt g o cs :=
  fun j v hv => (hc.cell hg hn).trans (h j v hv)

theorem putObj_cell {w : World} {g b o : Nat} (ob : Obj) (h : b ≠ g) : (putObj w g ob).cell? ⟨b, o, none⟩ = w.cell? ⟨b, o, none⟩ :=
  World.cell?_of_block (w := w) (a := ⟨b, o, none⟩) (putObj_other w g b ob h)
theorem putObj_frozen {w : World} {g b o : Nat} (ob : Obj) (h : b ≠ g) : (putObj w g ob).frozen? ⟨b, o, none⟩ = w.frozen? ⟨b, o, none⟩ :=
  World.frozen?_of_block (w := w) (a := ⟨b, o, none⟩) (putObj_other w g b ob h)

set_option maxRecDepth 100000 in
set_option maxHeartbeats 4000000 in
theorem put_cells (w : World) (B o M : Nat) (T : TypeId) (cs : Array Value) (c : Cont) (x : Wr) (hx : x.ok) (hok : c.ok) (ho : o = 2 ∨ o = 5) (hb : Blk w B T cs) (hM : MapA .i64 .u8 2 w M c.key)
    (h0 : cs[o]? = some (.map (some M))) (h1 : cs[o + 1]? = some (.int .i64 (c.len 0 : Int))) (h2 : cs[o + 2]? = some (.int .i64 (c.len 1 : Int))) :
    Calls Try.prog 62 #[.pointer (some ⟨B, o, none⟩), .agg x.cells.toArray] w fun e w' => e = .returned (.tuple #[]) ∧
      Blk w' B T (cs.setIfInBounds (o + 1 + x.f) (.int .i64 ((max (c.len x.f) (x.s + 1) : Nat) : Int))) ∧ MapA .i64 .u8 2 w' M (c.wr x).key ∧ Chg [B, M] w w' := by
  have hBM : B ≠ M := fun e => hM.ne_blk hb e.symm
  have hBl := hb.lt
  have hMl := hM.lt
  obtain ⟨w1, hw1⟩ : ∃ W, w.alloc (.cells x.cells.toArray 109) = W := ⟨_, rfl⟩
  have hc1 : Chg [] w w1 := by rw [← hw1]; exact (Chg.refl _ _).alloc _
  have hrange : w1.rangeAt w.heap.size 0 x.cells := by
    intro j v hv
    rw [← hw1]
    rw [Nat.zero_add, World.cell?_alloc_new]
    simpa using hv
  have hnb : w.heap.size < w1.heap.size := by rw [← hw1]; simp
  have hb1 := hb.chg hc1 (by simp)
  have hM1 := hM.chg hc1 (by simp)
  obtain ⟨g, hg⟩ : ∃ g, w.heap.size = g := ⟨_, rfl⟩
  rw [hg] at hrange hnb
  have hgB : g ≠ B := by omega
  have hgM : g ≠ M := by omega
  -- the first region
  obtain ⟨o1, hup, hMfin⟩ := (hM1.drew).update (P := Try.prog) Try.underlying66 Try.underlying106 Try.underlying3 (by kernel_rfl) [x.f, x.s] x.b rfl
  have HL : Hid (∀ W, Chg [] w1.drew W → (loadVar 107 ⟨g, 2, none⟩).run Try.prog W = .ok (arrN .u8 x.b) W ∧ W.cell? ⟨g, 0, none⟩ = some (.int .i64 (x.f : Int)) ∧ W.cell? ⟨g, 1, none⟩ = some (.int .i64 (x.s : Int)) ∧ W.cell? ⟨B, o, none⟩ = some (.map (some M))) := fun W h => by
    have hr : W.rangeAt g 0 x.cells := rangeAt_chg (w := w1.drew) hrange hnb h (by simp)
    obtain ⟨l2, _, l3, l4⟩ := wr_loads hx hr
    exact ⟨l2, l3, l4, (h.cell hb1.lt (by simp)).trans ((hb1.cell o).trans h0)⟩
  have e0 := fun W h => (HL.out W h).2.1
  have e1 := fun W h => (HL.out W h).2.2.1
  have e2 := fun W h => (HL.out W h).1
  have e3 := fun W h => (HL.out W h).2.2.2
  -- behind it
  obtain ⟨w2, hw2⟩ : ∃ W, putObj w1.drew M o1 = W := ⟨_, rfl⟩
  have hb2 : Blk w2 B T cs := by rw [← hw2]; exact (putObj_other _ _ _ _ hBM).trans hb1
  have hr2 : w2.rangeAt g 0 x.cells := fun j v hv => by rw [← hw2, putObj_cell _ hgM]; exact hrange j v hv
  have hsz2 : w2.heap.size = w1.heap.size := by rw [← hw2, putObj_size]; rfl
  have hc2 : Chg [B, M] w w2 := by rw [← hw2]; exact ((hc1.sub (by simp)).drew).putObj (.inl (by simp)) _
  have hM2 : MapA .i64 .u8 2 w2 M (c.wr x).key := by rw [key_wr]; refine hMfin w2 ?_; rw [← hw2]; exact putObj_same _ (by show M < w1.heap.size; omega)
  have HM2 := Lib.hid hM2
  have f1 : ∀ W, Chg [] w2.drew W → W.cell? ⟨g, 0, none⟩ = some (.int .i64 (x.f : Int)) := fun W h => by
    have hr : W.rangeAt g 0 x.cells := rangeAt_chg (w := w2.drew) hr2 (by show g < w2.heap.size; omega) h (by simp)
    exact (wr_loads hx hr).2.2.1
  have f2 : ∀ W, Chg [] w2.drew W → W.cell? ⟨g, 1, none⟩ = some (.int .i64 (x.s : Int)) := fun W h => by
    have hr : W.rangeAt g 0 x.cells := rangeAt_chg (w := w2.drew) hr2 (by show g < w2.heap.size; omega) h (by simp)
    exact (wr_loads hx hr).2.2.2
  have f3 : ∀ W, Chg [] w2.drew.drew W → W.cell? ⟨B, o + 1, none⟩ = some (.int .i64 (c.len 0 : Int)) ∧ W.cell? ⟨B, o + 2, none⟩ = some (.int .i64 (c.len 1 : Int)) := fun W h =>
    ⟨(h.cell (b := B) (by show B < w2.heap.size; omega) (by simp)).trans ((hb2.cell _).trans h1), (h.cell (b := B) (by show B < w2.heap.size; omega) (by simp)).trans ((hb2.cell _).trans h2)⟩
  have hfz : ∀ j, w2.drew.drew.frozen? ⟨B, j, none⟩ = false := fun j => hb2.frozen j
  have hcell : ∀ j, w2.drew.drew.cell? ⟨B, j, none⟩ = cs[j]? := fun j => hb2.cell j
  have HF : Hid (∀ u, Blk (w2.drew.drew.setCell ⟨B, o + 1 + x.f, none⟩ u) B T (cs.setIfInBounds (o + 1 + x.f) u) ∧ MapA .i64 .u8 2 (w2.drew.drew.setCell ⟨B, o + 1 + x.f, none⟩ u) M (c.wr x).key ∧ Chg [B, M] w (w2.drew.drew.setCell ⟨B, o + 1 + x.f, none⟩ u)) := fun u =>
    ⟨Blk.set_ (w := w2.drew.drew) hb2 _ u, MapA.setCell (w := w2.drew.drew) HM2.out _ _ _, (hc2.drew.drew).setCell (.inl (by simp)) u⟩
  have hf := hx.1
  have hs := hx.2.1
  have hl0 := hok.len 0
  have hl1 := hok.len 1
  clear HL hMfin hM2 hr2 hrange hb hM hb1 hM1 hc1 hc2 hx hok hb2
  generalize hL0 : c.len 0 = l0 at *
  generalize hL1 : c.len 1 = l1 at *
  generalize hss : x.s = s at *
  generalize hxc : x.cells.toArray = xc at *
  generalize hxb : x.b = xb at *
  have hws : IntKind.i64.wrap ((s : Int) + 1) = (s : Int) + 1 := IntWalk.i64_in _ ⟨by omega, by omega⟩
  have hfc : x.f = 0 ∨ x.f = 1 := by omega
  clear hf
  rcases ho with rfl | rfl
  · rcases hfc with hff | hff
    · rw [hff] at HF f1 e0 hup ⊢
      have hup' : (Instr.mapUpdate 66 (.map (some M)) (.agg #[.int .i64 ((0 : Nat) : Int), .int .i64 (s : Int)]) (arrN .u8 xb)).run Try.prog w1.drew = .ok () w2 := by rw [← hw2]; exact hup
      have hval : (if (l0 : Int) < (s : Int) + 1 then (s : Int) + 1 else (l0 : Int)) = ((max l0 (s + 1) : Nat) : Int) := by split <;> omega
      have HV := Lib.hid hval
      clear hup hw2 hval
      rw [hL0]
      clear hff hL0 hL1 hss hxc hxb HM2
      go_enter Try.func62, Try.ntmps62
      go_wp2_with fail
      clear hw1 hg
      refine wp_region_ordX [] 8 [(0, true), (1, true), (2, true), (3, true), (4, true), (5, true), (6, true), (7, true)] (by kernel_rfl) (by kernel_rfl) (by kernel_rfl) (by kernel_rfl) ?_
      repeat (first | ((refine wpOX_F rfl (by rfl) (fun w' hL => exec_load rfl rfl (e2 w' hL)) ?_); try simp only [Act.put, List.setIfInBounds_toArray, List.set_cons_zero, List.set_cons_succ]) | (refine wpOX_F (v := ?_) rfl (by rfl) (fun w' hL => ?_) ?_; rotate_left; (solve | (go_simp; with_reducible rfl) | go_simp); try simp only [Act.put, List.setIfInBounds_toArray, List.set_cons_zero, List.set_cons_succ]) | (refine wpOX_G (Chg.refl _) rfl (by rfl) ?_; try simp only [Act.put, List.setIfInBounds_toArray, List.set_cons_zero, List.set_cons_succ]))
      refine wpOX_end rfl (by rfl) ?_
      refine wp_skp (exec_mapUpdate rfl rfl rfl rfl hup') ?_
      clear e0 e1 e2 e3 hup'
      simp only [NoPanic, Act.put]
      go_wp2_with fail
      refine wp_region_ordS [] [(0, true), (1, true), (2, true), (3, true), (4, true), (5, true), (6, true), (7, true)] (by kernel_rfl) (by kernel_rfl) (by kernel_rfl) (by kernel_rfl) ?_
      repeat (first | (refine wpO_F (v := ?_) rfl (by rfl) (fun w' hL => ?_) ?_; rotate_left; (solve | (go_simp; with_reducible rfl) | go_simp); try simp only [Act.put, List.setIfInBounds_toArray, List.set_cons_zero, List.set_cons_succ]) | (refine wpO_G' (Chg.refl _) rfl (by rfl) ?_; try simp only [Act.put, List.setIfInBounds_toArray, List.set_cons_zero, List.set_cons_succ]))
      refine wpO_nil ?_
      go_wp2_with fail
      refine wp_region_ordX [] 14 [(0, true), (1, true), (2, true), (3, true), (4, true), (5, true), (6, true), (7, true), (8, true), (9, true), (10, true), (11, true), (12, true), (13, true)] (by kernel_rfl) (by kernel_rfl) (by kernel_rfl) (by kernel_rfl) ?_
      repeat (first | (refine wpOX_F (v := ?_) rfl (by rfl) (fun w' hL => ?_) ?_; rotate_left; (solve | (go_simp; with_reducible rfl) | go_simp); try simp only [Act.put, List.setIfInBounds_toArray, List.set_cons_zero, List.set_cons_succ]) | (refine wpOX_G (Chg.refl _) rfl (by rfl) ?_; try simp only [Act.put, List.setIfInBounds_toArray, List.set_cons_zero, List.set_cons_succ]))
      refine wpOX_end rfl (by rfl) ?_
      go_simp
      simp only [NoPanic]
      refine bodyPost_end (v := .tuple #[]) (results_none rfl _ _ _) rfl ⟨rfl, ?_⟩
      rw [HV.out]
      exact HF.out _
    · rw [hff] at HF f1 e0 hup ⊢
      have hup' : (Instr.mapUpdate 66 (.map (some M)) (.agg #[.int .i64 ((1 : Nat) : Int), .int .i64 (s : Int)]) (arrN .u8 xb)).run Try.prog w1.drew = .ok () w2 := by rw [← hw2]; exact hup
      have hval : (if (l1 : Int) < (s : Int) + 1 then (s : Int) + 1 else (l1 : Int)) = ((max l1 (s + 1) : Nat) : Int) := by split <;> omega
      have HV := Lib.hid hval
      clear hup hw2 hval
      rw [hL1]
      clear hff hL0 hL1 hss hxc hxb HM2
      go_enter Try.func62, Try.ntmps62
      go_wp2_with fail
      clear hw1 hg
      refine wp_region_ordX [] 8 [(0, true), (1, true), (2, true), (3, true), (4, true), (5, true), (6, true), (7, true)] (by kernel_rfl) (by kernel_rfl) (by kernel_rfl) (by kernel_rfl) ?_
      repeat (first | ((refine wpOX_F rfl (by rfl) (fun w' hL => exec_load rfl rfl (e2 w' hL)) ?_); try simp only [Act.put, List.setIfInBounds_toArray, List.set_cons_zero, List.set_cons_succ]) | (refine wpOX_F (v := ?_) rfl (by rfl) (fun w' hL => ?_) ?_; rotate_left; (solve | (go_simp; with_reducible rfl) | go_simp); try simp only [Act.put, List.setIfInBounds_toArray, List.set_cons_zero, List.set_cons_succ]) | (refine wpOX_G (Chg.refl _) rfl (by rfl) ?_; try simp only [Act.put, List.setIfInBounds_toArray, List.set_cons_zero, List.set_cons_succ]))
      refine wpOX_end rfl (by rfl) ?_
      refine wp_skp (exec_mapUpdate rfl rfl rfl rfl hup') ?_
      clear e0 e1 e2 e3 hup'
      simp only [NoPanic, Act.put]
      go_wp2_with fail
      refine wp_region_ordS [] [(0, true), (1, true), (2, true), (3, true), (4, true), (5, true), (6, true), (7, true)] (by kernel_rfl) (by kernel_rfl) (by kernel_rfl) (by kernel_rfl) ?_
      repeat (first | (refine wpO_F (v := ?_) rfl (by rfl) (fun w' hL => ?_) ?_; rotate_left; (solve | (go_simp; with_reducible rfl) | go_simp); try simp only [Act.put, List.setIfInBounds_toArray, List.set_cons_zero, List.set_cons_succ]) | (refine wpO_G' (Chg.refl _) rfl (by rfl) ?_; try simp only [Act.put, List.setIfInBounds_toArray, List.set_cons_zero, List.set_cons_succ]))
      refine wpO_nil ?_
      go_wp2_with fail
      refine wp_region_ordX [] 14 [(0, true), (1, true), (2, true), (3, true), (4, true), (5, true), (6, true), (7, true), (8, true), (9, true), (10, true), (11, true), (12, true), (13, true)] (by kernel_rfl) (by kernel_rfl) (by kernel_rfl) (by kernel_rfl) ?_
      repeat (first | (refine wpOX_F (v := ?_) rfl (by rfl) (fun w' hL => ?_) ?_; rotate_left; (solve | (go_simp; with_reducible rfl) | go_simp); try simp only [Act.put, List.setIfInBounds_toArray, List.set_cons_zero, List.set_cons_succ]) | (refine wpOX_G (Chg.refl _) rfl (by rfl) ?_; try simp only [Act.put, List.setIfInBounds_toArray, List.set_cons_zero, List.set_cons_succ]))
      refine wpOX_end rfl (by rfl) ?_
      go_simp
      simp only [NoPanic]
      refine bodyPost_end (v := .tuple #[]) (results_none rfl _ _ _) rfl ⟨rfl, ?_⟩
      rw [HV.out]
      exact HF.out _
  · rcases hfc with hff | hff
    · rw [hff] at HF f1 e0 hup ⊢
      have hup' : (Instr.mapUpdate 66 (.map (some M)) (.agg #[.int .i64 ((0 : Nat) : Int), .int .i64 (s : Int)]) (arrN .u8 xb)).run Try.prog w1.drew = .ok () w2 := by rw [← hw2]; exact hup
      have hval : (if (l0 : Int) < (s : Int) + 1 then (s : Int) + 1 else (l0 : Int)) = ((max l0 (s + 1) : Nat) : Int) := by split <;> omega
      have HV := Lib.hid hval
      clear hup hw2 hval
      rw [hL0]
      clear hff hL0 hL1 hss hxc hxb HM2
      go_enter Try.func62, Try.ntmps62
      go_wp2_with fail
      clear hw1 hg
      refine wp_region_ordX [] 8 [(0, true), (1, true), (2, true), (3, true), (4, true), (5, true), (6, true), (7, true)] (by kernel_rfl) (by kernel_rfl) (by kernel_rfl) (by kernel_rfl) ?_
      repeat (first | ((refine wpOX_F rfl (by rfl) (fun w' hL => exec_load rfl rfl (e2 w' hL)) ?_); try simp only [Act.put, List.setIfInBounds_toArray, List.set_cons_zero, List.set_cons_succ]) | (refine wpOX_F (v := ?_) rfl (by rfl) (fun w' hL => ?_) ?_; rotate_left; (solve | (go_simp; with_reducible rfl) | go_simp); try simp only [Act.put, List.setIfInBounds_toArray, List.set_cons_zero, List.set_cons_succ]) | (refine wpOX_G (Chg.refl _) rfl (by rfl) ?_; try simp only [Act.put, List.setIfInBounds_toArray, List.set_cons_zero, List.set_cons_succ]))
      refine wpOX_end rfl (by rfl) ?_
      refine wp_skp (exec_mapUpdate rfl rfl rfl rfl hup') ?_
      clear e0 e1 e2 e3 hup'
      simp only [NoPanic, Act.put]
      go_wp2_with fail
      refine wp_region_ordS [] [(0, true), (1, true), (2, true), (3, true), (4, true), (5, true), (6, true), (7, true)] (by kernel_rfl) (by kernel_rfl) (by kernel_rfl) (by kernel_rfl) ?_
      repeat (first | (refine wpO_F (v := ?_) rfl (by rfl) (fun w' hL => ?_) ?_; rotate_left; (solve | (go_simp; with_reducible rfl) | go_simp); try simp only [Act.put, List.setIfInBounds_toArray, List.set_cons_zero, List.set_cons_succ]) | (refine wpO_G' (Chg.refl _) rfl (by rfl) ?_; try simp only [Act.put, List.setIfInBounds_toArray, List.set_cons_zero, List.set_cons_succ]))
      refine wpO_nil ?_
      go_wp2_with fail
      refine wp_region_ordX [] 14 [(0, true), (1, true), (2, true), (3, true), (4, true), (5, true), (6, true), (7, true), (8, true), (9, true), (10, true), (11, true), (12, true), (13, true)] (by kernel_rfl) (by kernel_rfl) (by kernel_rfl) (by kernel_rfl) ?_
      repeat (first | (refine wpOX_F (v := ?_) rfl (by rfl) (fun w' hL => ?_) ?_; rotate_left; (solve | (go_simp; with_reducible rfl) | go_simp); try simp only [Act.put, List.setIfInBounds_toArray, List.set_cons_zero, List.set_cons_succ]) | (refine wpOX_G (Chg.refl _) rfl (by rfl) ?_; try simp only [Act.put, List.setIfInBounds_toArray, List.set_cons_zero, List.set_cons_succ]))
      refine wpOX_end rfl (by rfl) ?_
      go_simp
      simp only [NoPanic]
      refine bodyPost_end (v := .tuple #[]) (results_none rfl _ _ _) rfl ⟨rfl, ?_⟩
      rw [HV.out]
      exact HF.out _
    · rw [hff] at HF f1 e0 hup ⊢
      have hup' : (Instr.mapUpdate 66 (.map (some M)) (.agg #[.int .i64 ((1 : Nat) : Int), .int .i64 (s : Int)]) (arrN .u8 xb)).run Try.prog w1.drew = .ok () w2 := by rw [← hw2]; exact hup
      have hval : (if (l1 : Int) < (s : Int) + 1 then (s : Int) + 1 else (l1 : Int)) = ((max l1 (s + 1) : Nat) : Int) := by split <;> omega
      have HV := Lib.hid hval
      clear hup hw2 hval
      rw [hL1]
      clear hff hL0 hL1 hss hxc hxb HM2
      go_enter Try.func62, Try.ntmps62
      go_wp2_with fail
      clear hw1 hg
      refine wp_region_ordX [] 8 [(0, true), (1, true), (2, true), (3, true), (4, true), (5, true), (6, true), (7, true)] (by kernel_rfl) (by kernel_rfl) (by kernel_rfl) (by kernel_rfl) ?_
      repeat (first | ((refine wpOX_F rfl (by rfl) (fun w' hL => exec_load rfl rfl (e2 w' hL)) ?_); try simp only [Act.put, List.setIfInBounds_toArray, List.set_cons_zero, List.set_cons_succ]) | (refine wpOX_F (v := ?_) rfl (by rfl) (fun w' hL => ?_) ?_; rotate_left; (solve | (go_simp; with_reducible rfl) | go_simp); try simp only [Act.put, List.setIfInBounds_toArray, List.set_cons_zero, List.set_cons_succ]) | (refine wpOX_G (Chg.refl _) rfl (by rfl) ?_; try simp only [Act.put, List.setIfInBounds_toArray, List.set_cons_zero, List.set_cons_succ]))
      refine wpOX_end rfl (by rfl) ?_
      refine wp_skp (exec_mapUpdate rfl rfl rfl rfl hup') ?_
      clear e0 e1 e2 e3 hup'
      simp only [NoPanic, Act.put]
      go_wp2_with fail
      refine wp_region_ordS [] [(0, true), (1, true), (2, true), (3, true), (4, true), (5, true), (6, true), (7, true)] (by kernel_rfl) (by kernel_rfl) (by kernel_rfl) (by kernel_rfl) ?_
      repeat (first | (refine wpO_F (v := ?_) rfl (by rfl) (fun w' hL => ?_) ?_; rotate_left; (solve | (go_simp; with_reducible rfl) | go_simp); try simp only [Act.put, List.setIfInBounds_toArray, List.set_cons_zero, List.set_cons_succ]) | (refine wpO_G' (Chg.refl _) rfl (by rfl) ?_; try simp only [Act.put, List.setIfInBounds_toArray, List.set_cons_zero, List.set_cons_succ]))
      refine wpO_nil ?_
      go_wp2_with fail
      refine wp_region_ordX [] 14 [(0, true), (1, true), (2, true), (3, true), (4, true), (5, true), (6, true), (7, true), (8, true), (9, true), (10, true), (11, true), (12, true), (13, true)] (by kernel_rfl) (by kernel_rfl) (by kernel_rfl) (by kernel_rfl) ?_
      repeat (first | (refine wpOX_F (v := ?_) rfl (by rfl) (fun w' hL => ?_) ?_; rotate_left; (solve | (go_simp; with_reducible rfl) | go_simp); try simp only [Act.put, List.setIfInBounds_toArray, List.set_cons_zero, List.set_cons_succ]) | (refine wpOX_G (Chg.refl _) rfl (by rfl) ?_; try simp only [Act.put, List.setIfInBounds_toArray, List.set_cons_zero, List.set_cons_succ]))
      refine wpOX_end rfl (by rfl) ?_
      go_simp
      simp only [NoPanic]
      refine bodyPost_end (v := .tuple #[]) (results_none rfl _ _ _) rfl ⟨rfl, ?_⟩
      rw [HV.out]
      exact HF.out _
end Go.Proofs.Ythfgjkmfabmipaa
