/- Several texts of one proof, one behind the other. -/
import Derived.Test.YtaekfnkhlgpmdaaJPk12
import Derived.Deep.QuietTactic
import Derived.BigQuiet
set_option linter.unusedSimpArgs false
set_option linter.unusedVariables false

/- Journal: Restore. -/
set_option linter.unusedSimpArgs false
set_option linter.unusedVariables false
set_option maxRecDepth 100000
namespace Go.Proofs.Ytaekfnkhlgpmdaa
open Go.RowKit

def DS.backs (d : DS) : List (Nat × List Nat) → Nat × DS
  | [] => (0, d)
  | x :: r => thenD (d.backK x.1 x.2 4) fun d' => d'.backs r
theorem backs_app (M : List (Nat × List Nat)) : ∀ (L : List (Nat × List Nat)) (d : DS), d.backs (L ++ M) = thenD (d.backs L) fun d' => d'.backs M
  | [], d => by simp [DS.backs, thenD]
  | x :: r, d => by
    simp only [List.cons_append, DS.backs]
    by_cases h : (d.backK x.1 x.2 4).1 = 0
    · rw [thenD_ok h, thenD_ok h, backs_app M r]
    · rw [thenD_bad h, thenD_bad h, thenD_bad h]
theorem backs_stop {d d' : DS} {e k : Nat} {L : List (Nat × List Nat)} (h : d.backs (L.take k) = (e, d')) (he : e ≠ 0) : d.backs L = (e, d') := by
  rw [← List.take_append_drop k L, backs_app, h, thenD_bad he]
def DS.undo (d : DS) (L : List (Nat × List Nat)) : Nat × DS := thenD (d.backs L) fun d1 => thenD (d1.sync 0) fun d2 => d2.clear
def restoreR (d : DS) : Except Nat (Option (List (Nat × List Nat) × Nat)) → (Bool × Nat) × DS
  | .error n => ((false, n), d)
  | .ok none => ((false, 0), d)
  | .ok (some (L, _)) => ((decide ((d.undo L).1 = 0), (d.undo L).1), (d.undo L).2)
def DS.restore (d : DS) : (Bool × Nat) × DS := restoreR d d.load
def RetRs (w : World) (B : Nat) (S : List Nat) (r : (Bool × Nat) × DS) (e : Ending) (w' : World) : Prop :=
  e = .returned (.tuple #[.bool r.1.1, .int .i64 (r.1.2 : Int)]) ∧ ∃ S', IsDisk w' B S' r.2 ∧ Chg S w w' ∧ Frsh w S S'
theorem Way.rs {w W : World} {B : Nat} {S S' : List Nat} {d : DS} {t : Bool} {r : Nat} (h : Way w W B S S' d) : RetRs w B S ((t, r), d) (.returned (.tuple #[.bool t, .int .i64 (r : Int)])) W := ⟨rfl, S', h.disk, h.chg, h.frsh⟩

set_option maxRecDepth 100000 in
set_option maxHeartbeats 8000000 in
theorem Restore_any {w : World} {B : Nat} {S : List Nat} {d : DS} (h : IsDisk w B S d) (hr : d.room 20000) :
    Calls Try.prog 21 #[.pointer (some ⟨B, 0, none⟩)] w (RetRs w B S d.restore) := by
  have HLd := Lib.hid (Load_any h)
  have HW0 := Lib.hid (Way.new h)
  have HSl := Lib.hid h.lt
  have HRm := Lib.hid hr
  have HDf : Hid (d.restore = restoreR d d.load) := rfl
  obtain ⟨rl, hrl⟩ : ∃ rl, d.load = rl := ⟨_, rfl⟩
  rw [hrl] at HLd HDf
  clear h hr hrl
  go_enter Try.func21, Try.ntmps21
  go_wp2_with fail
  refine HLd.out.mono ?_
  rintro e w1 ⟨hb1, ⟨n, rfl, hn0, rfl⟩ | ⟨rfl, rfl⟩ | ⟨E, p, a, cap, rfl, hEl, rfl, hown, hgd⟩⟩
  · have HW1 := Lib.hid (HW0.out.below hb1)
    have q : ((n : Int) != 0) = true := by simp; omega
    have HE : Hid (d.restore = ((false, n), d)) := HDf.out
    clear hb1 hn0
    go_wp2
    go_ret2
    rw [HE.out]
    exact HW1.out.rs
  · have HW1 := Lib.hid (HW0.out.below hb1)
    have HE : Hid (d.restore = ((false, 0), d)) := HDf.out
    clear hb1
    go_wp2
    go_ret2
    rw [HE.out]
    exact HW1.out.rs (r := 0)
  · have HB1 := Lib.hid hb1
    have HW1 := Lib.hid (Way.new (HW0.out.below hb1).disk)
    have HDu : Hid (d.restore = ((decide ((d.undo (E.map enX)).1 = 0), (d.undo (E.map enX)).1), (d.undo (E.map enX)).2)) := HDf.out
    obtain ⟨a', c', hv, -, -, hA⟩ := own_slice hown
    injection hv with e1 e2 e3
    subst e1
    have HA := Lib.hid hA
    have HGd := Lib.hid hgd
    have HFar : Hid (∀ g, a = some g → g.block ∉ S) := fun g hg hm => by
      rcases hown.2 with ⟨h1, -⟩ | ⟨gg, cc, cur, h1, h2, -⟩
      · injection h1 with h1; rw [h1] at hg; cases hg
      · injection h1 with h1
        rw [h1] at hg; injection hg with hg; subst hg
        have := HSl.out _ hm
        simp only at this
        omega
    obtain ⟨n, hn⟩ : ∃ n, n = E.length := ⟨_, rfl⟩
    rw [← hn] at hEl ⊢
    have HN := Lib.hid hn
    clear hb1 hown hgd hA hn e2 e3 HDf HLd HW0
    go_wp2
    go_loopw [29] (fun i wr => ∃ (k : Nat) (dk : DS) (S' : List Nat), k ≤ n ∧ i = .int .i64 (k : Int) ∧ Hid (d.backs ((E.map enX).take k) = (0, dk)) ∧ Hid (Way w1 wr B S S' dk) ∧ Hid (dk.room (4 * (n - k) + 3))) (fun i _ => n - (intOf i).toNat)
    case atStart => exact ⟨0, d, S, by omega, rfl, rfl, HW1, HRm.out.mono (by omega)⟩
    case round =>
      clear HW1 HRm
      obtain ⟨k, dk, S', hk, rfl, HD, HW, HR⟩ := hrel
      by_cases hlt : k < n
      · have hkl : k < E.length := by have := HN.out; omega
        obtain ⟨b, o, rfl, hbN, c0, c1⟩ := enAt (HA.out.chgS (Nat.le_refl _) HW.out.chg HFar.out) hkl
        obtain ⟨g, x1, x2, x3, x4, x5, x6, x7, x8⟩ := HGd.out _ (List.getElem_mem hkl)
        have HNx : Hid (d.backs ((E.map enX).take (k + 1)) = dk.backK E[k].p.toNat E[k].l 4) := by
          show _ = _
          rw [List.take_succ_eq_append_getElem (by rw [List.length_map]; exact hkl), backs_app, HD.out, thenD_ok rfl, List.getElem_map]
          show thenD (dk.backK E[k].p.toNat E[k].l 4) (fun d' => (0, d')) = _
          by_cases h0 : (dk.backK E[k].p.toNat E[k].l 4).1 = 0
          · rw [thenD_ok h0, ← h0]
          · rw [thenD_bad h0]
        obtain ⟨y, hy⟩ : ∃ y, y = E[k] := ⟨_, rfl⟩
        rw [← hy] at c0 c1 x1 x2 x3 x5 x6 x7 x8 HNx
        obtain ⟨q, hq⟩ : ∃ q : Nat, y.p = q := ⟨y.p.toNat, by omega⟩
        rw [hq] at c0 x5 HNx
        rw [x1, x2, x3] at c1
        rw [Int.toNat_natCast] at HNx
        have hgS : g ∉ S := fun hm => by have := HSl.out _ hm; omega
        have HBs := Lib.hid (HW.out.bs (x8.bsA x7) (Nat.le_refl _) hgS)
        have HgS' : Hid (g ∉ S') := HW.out.far x8.lt hgS
        have HRp := Lib.hid (fun W (hb : Below wr.heap.size wr W) => restorePage_any (HW.out.below hb).disk q (by omega) y.l g (((HBs.out.mono HW.out.chg.size).below hb).mono hb.size) x6 HgS'.out (HR.out.mono (by omega)))
        have HRn := Lib.hid (backK_room (p := q) (l := y.l) (k := 4) (n := 4 * (n - (k + 1)) + 3) (d := dk) (HR.out.mono (by omega)))
        obtain ⟨⟨e1, d1⟩, he1⟩ : ∃ r, dk.backK q y.l 4 = r := ⟨_, rfl⟩
        rw [he1] at HRp HRn HNx
        have HAl : Hid (Below wr.heap.size wr (wr.alloc (.cells #[.int .i64 (q : Int), .slice (some ⟨g, 0, none⟩) 512 512] 63))) := (Below.refl _ _).alloc (Nat.le_refl _) _
        clear hy he1 hbN x1 x2 x3 x4 x5 x6 x7 x8 hq hgS HBs HgS'
        go_wp2_with fail
        refine (HRp.out _ HAl.out).mono ?_
        rintro e w4 ⟨rfl, S4, hD4, hc4, hf4⟩
        have HW4 := Lib.hid ((HW.out.below HAl.out).step hD4 hc4 hf4)
        clear hD4 hc4 hf4 HRp HW HAl c0 c1
        by_cases h0 : e1 = 0
        · subst h0
          go_wp2
          go_roundw
          case rel => exact ⟨k + 1, d1, S4, by omega, by go_num, HNx, HW4, HRn⟩
          case measure => simp [intOf]; omega
        · have q1 : ((e1 : Int) != 0) = true := by simp; omega
          have HE : Hid (d.restore = ((false, e1), d1)) := by
            show _ = _
            rw [HDu.out]
            unfold DS.undo
            rw [backs_stop HNx.out h0, thenD_bad h0]
            simp [h0]
          clear h0 HNx
          go_wp2
          (try rw [Exit.noGoto_ret])
          go_ret2
          rw [HE.out]
          exact (HW4.out.back HB1.out).rs
      · have hke : k = n := by omega
        subst hke
        have hD : d.backs (E.map enX) = (0, dk) := by have := HD.out; rwa [List.take_of_length_le (by rw [List.length_map]; have := HN.out; omega)] at this
        have HS1 : Hid (d.undo (E.map enX) = thenD (dk.sync 0) fun d2 => d2.clear) := by show _ = _; unfold DS.undo; rw [hD, thenD_ok rfl]
        have HSy := Lib.hid (DSync HW.out.disk 0 (by have := HR.out.1; omega))
        have HR2 := Lib.hid (sync_room 0 (n := 2) (HR.out.mono (by omega)))
        obtain ⟨⟨e2, d2⟩, he2⟩ : ∃ r, dk.sync 0 = r := ⟨_, rfl⟩
        rw [he2] at HSy HS1 HR2
        clear hD he2 HD
        go_wp2_with fail
        refine HSy.out.mono ?_
        rintro e w4 ⟨rfl, S4, hD4, hc4, hf4⟩
        have HW4 := Lib.hid (HW.out.step hD4 hc4 hf4)
        clear hD4 hc4 hf4 HSy HW
        by_cases h0 : e2 = 0
        · subst h0
          have HS2 : Hid (d.undo (E.map enX) = d2.clear) := HS1.out
          have HCl := Lib.hid (Clear_any HW4.out.disk HR2.out)
          obtain ⟨⟨e3, d3⟩, he3⟩ : ∃ r, d2.clear = r := ⟨_, rfl⟩
          have HS3 : Hid (d2.clear = (e3, d3)) := he3
          rw [HS3.out] at HCl
          clear he3 HS1
          go_wp2_with fail
          refine HCl.out.mono ?_
          rintro e w5 ⟨rfl, S5, hD5, hc5, hf5⟩
          have HW5 := Lib.hid (HW4.out.step hD5 hc5 hf5)
          clear hD5 hc5 hf5 HCl
          by_cases h3 : e3 = 0
          · subst h3
            have HE : Hid (d.restore = ((true, 0), d3)) := by
              show _ = _
              rw [HDu.out, HS2.out, HS3.out]; rfl
            go_wp2
            (try rw [Exit.noGoto_ret])
            go_ret2
            rw [HE.out]
            exact (HW5.out.back HB1.out).rs (r := 0)
          · have q1 : ((e3 : Int) != 0) = true := by simp; omega
            have HE : Hid (d.restore = ((false, e3), d3)) := by
              show _ = _
              rw [HDu.out, HS2.out, HS3.out]
              simp [h3]
            clear h3
            go_wp2
            (try rw [Exit.noGoto_ret])
            go_ret2
            rw [HE.out]
            exact (HW5.out.back HB1.out).rs
        · have q1 : ((e2 : Int) != 0) = true := by simp; omega
          have HE : Hid (d.restore = ((false, e2), d2)) := by
            show _ = _
            rw [HDu.out, HS1.out, thenD_bad h0]
            simp [h0]
          clear HS1 h0
          go_wp2
          (try rw [Exit.noGoto_ret])
          go_ret2
          rw [HE.out]
          exact (HW4.out.back HB1.out).rs
end Go.Proofs.Ytaekfnkhlgpmdaa

/- Journal: what the fixed calls of the law's alive come to; Page. -/
set_option linter.unusedSimpArgs false
set_option linter.unusedVariables false
set_option maxRecDepth 100000
namespace Go.Proofs.Ytaekfnkhlgpmdaa
open Go.RowKit

def rep (c : Nat) : List Nat := List.replicate 512 c
def al8r : Nat × DS := (DS.new 100).save [⟨2, none, 512, 512, rep 7⟩] 3
def al8d2 : DS := (al8r.2.writePage 2 (rep 9)).2
theorem al8_1 : al8r.1 = 0 := by kernel_rfl
theorem al8_2 : al8r.2.load = .ok (some ([(2, rep 7)], 3)) := by kernel_rfl
theorem al8_3 : al8d2.restore.1 = (true, 0) := by kernel_rfl
theorem al8_4 : al8d2.restore.2.readPage 2 = .ok (rep 7) := by kernel_rfl
theorem al8_5 : al8d2.restore.2.load = .ok none := by kernel_rfl
end Go.Proofs.Ytaekfnkhlgpmdaa

/- Journal: Page, calls of no disk, the walk of hindsightlaw08.alive. -/
set_option linter.unusedSimpArgs false
set_option linter.unusedVariables false
set_option maxRecDepth 100000
namespace Go.Proofs.Ytaekfnkhlgpmdaa
open Go.RowKit

/-- A call hands back a page that it made. -/
def RetPage (w : World) (c : Nat) (e : Ending) (w' : World) : Prop :=
  ∃ g, e = .returned (.slice (some ⟨g, 0, none⟩) 512 512) ∧ w.heap.size ≤ g ∧ Below w.heap.size w w' ∧ Blk w' g 5 (cellsA (rep c))
set_option maxRecDepth 100000 in
set_option maxHeartbeats 4000000 in
theorem Page_any (c : Nat) (hc : c < 256) (w : World) : Calls Try.prog 26 #[.int .u8 (c : Int)] w (RetPage w c) := by
  obtain ⟨w0, hw0⟩ : ∃ w0, w.alloc (.cells (fillA 512 c 0) 5) = w0 := ⟨_, rfl⟩
  have hmk : (Instr.makeSlice 30 (.int .i64 512) (.int .i64 512)).run Try.prog w = .ok (.slice (some ⟨w.heap.size, 0, none⟩) 512 512) w0 := by
    rw [make512 w, ← hw0]
    have e : fillA 512 c 0 = cellsA (zs 512) := by simp [fillA, cellsA, cellsU, zs]
    rw [e]
  have hB0 : Blk w0 w.heap.size 5 (fillA 512 c 0) := by rw [← hw0]; exact Blk.new _ _ _
  have hb0 : Below w.heap.size w w0 := by rw [← hw0]; exact (Below.refl _ _).alloc (Nat.le_refl _) _
  have HB0 := Lib.hid hB0
  have Hb0 := Lib.hid hb0
  clear hw0 hB0 hb0
  go_enter Try.func26, Try.ntmps26
  go_wp2
  clear hmk
  go_loopw [4] (fun iv wr => ∃ i : Nat, i ≤ 512 ∧ iv = .int .i64 (i : Int) ∧ Hid (Blk wr w.heap.size 5 (fillA 512 c i)) ∧ Hid (Below w.heap.size w wr)) (fun iv _ => 512 - (intOf iv).toNat)
  case atStart => exact ⟨0, by omega, rfl, HB0, Hb0⟩
  case round =>
    clear HB0 Hb0
    obtain ⟨i, hi, rfl, HB, Hb⟩ := hrel
    by_cases hlt : i < 512
    · have e1 := (HB.out.cell i).trans (fillA_get hlt)
      have e2 := HB.out.frozen i
      have e3 := HB.out.lt
      have HN := HB.out.set_ i (.int .u8 (c : Int))
      rw [fillA_set hlt] at HN
      have HN := Lib.hid HN
      have HBN : Hid (Below w.heap.size w (wr.setCell ⟨w.heap.size, i, none⟩ (.int .u8 (c : Int)))) := Hb.out.setCell (Nat.le_refl _) _
      go_wp2
      go_roundw
      case rel => exact ⟨i + 1, by omega, by go_num, HN, HBN⟩
      case measure => simp [intOf]; omega
    · obtain rfl : i = 512 := by omega
      have HK : Hid (Blk wr w.heap.size 5 (cellsA (rep c))) := by
        have := HB.out
        rw [fillA_full] at this
        exact this
      go_wp2
      go_ret
      exact ⟨_, rfl, Nat.le_refl _, Hb.out, HK.out⟩

/-! Calls of no disk -/
theorem ReadPage_no {w : World} {v : Value} (h : NoDisk w v) (p : Int) : Calls Try.prog 19 #[v, .int .i64 p] w fun e w' => e = .returned (.tuple #[.slice none 0 0, .int .i64 6]) ∧ w' = w := by
  have HM := Lib.hid (isDisk_no h)
  clear h
  go_enter Try.func19, Try.ntmps19
  go_wp2_with (refine HM.out.mono ?_; rintro e w' ⟨rfl, rfl⟩)
  go_ret2
  exact ⟨rfl, rfl⟩
theorem Save_no {w : World} {v : Value} (h : NoDisk w v) (x : Value) (p : Int) : Calls Try.prog 22 #[v, x, .int .i64 p] w fun e w' => e = .returned (.int .i64 6) ∧ w' = w := by
  have HM := Lib.hid (isDisk_no h)
  clear h
  go_enter Try.func22, Try.ntmps22
  go_wp2_with (refine HM.out.mono ?_; rintro e w' ⟨rfl, rfl⟩)
  go_ret
  exact ⟨rfl, rfl⟩
theorem Clear_no {w : World} {v : Value} (h : NoDisk w v) : Calls Try.prog 23 #[v] w fun e w' => e = .returned (.int .i64 6) ∧ w' = w := by
  have HM := Lib.hid (isDisk_no h)
  clear h
  go_enter Try.func23, Try.ntmps23
  go_wp2_with (refine HM.out.mono ?_; rintro e w' ⟨rfl, rfl⟩)
  go_ret
  exact ⟨rfl, rfl⟩
theorem WritePage_no {w : World} {v : Value} (h : NoDisk w v) (p : Int) (x : Value) : Calls Try.prog 24 #[v, .int .i64 p, x] w fun e w' => e = .returned (.int .i64 6) ∧ w' = w := by
  have HM := Lib.hid (isDisk_no h)
  clear h
  go_enter Try.func24, Try.ntmps24
  go_wp2_with (refine HM.out.mono ?_; rintro e w' ⟨rfl, rfl⟩)
  go_ret
  exact ⟨rfl, rfl⟩
theorem Load_no {w : World} {v : Value} (h : NoDisk w v) : Calls Try.prog 20 #[v] w fun e w' => e = .returned (.tuple #[.slice none 0 0, .int .i64 0, .bool false, .int .i64 6]) ∧ w' = w := by
  have HM := Lib.hid (Read_no h 1 0)
  clear h
  go_enter Try.func20, Try.ntmps20
  go_wp2_with (refine HM.out.mono ?_; rintro e w' ⟨rfl, rfl⟩)
  (try simp only [Exit.inBlock, Exit.then])
  refine bodyPost_ret (results_tmp4 rfl _ _ _) rfl ?_
  exact ⟨rfl, rfl⟩
theorem Restore_no {w : World} {v : Value} (h : NoDisk w v) : Calls Try.prog 21 #[v] w fun e w' => e = .returned (.tuple #[.bool false, .int .i64 6]) ∧ w' = w := by
  have HM := Lib.hid (Load_no h)
  clear h
  go_enter Try.func21, Try.ntmps21
  go_wp2_with (refine HM.out.mono ?_; rintro e w' ⟨rfl, rfl⟩)
  go_ret2
  exact ⟨rfl, rfl⟩

theorem al8_save (a : Option Addr) : (DS.new 100).save [⟨2, a, 512, 512, rep 7⟩] 3 = al8r := by
  unfold al8r DS.save
  simp only [List.all_cons, List.all_nil, En.ok, List.flatMap_cons, List.flatMap_nil, En.secs, List.length_cons, List.length_nil]
theorem al8_room : al8r.2.room 4 ∧ al8d2.room 20000 ∧ (DS.new 100).room 8 := by
  refine ⟨⟨?_, ?_⟩, ⟨?_, ?_⟩, ?_, ?_⟩ <;> exact of_decide_eq_true (by kernel_rfl)
theorem OwnD.of_retI {w0 w w' : World} {B : Nat} {S : List Nat} {r : Nat × DS} {e : Ending} (h1 : Below w0.heap.size w0 w) (h3 : ∀ k ∈ S, w0.heap.size ≤ k) (h : RetI w B S r e w') : e = .returned (.int .i64 (r.1 : Int)) ∧ OwnD w0 w' B r.2 := by
  obtain ⟨he, S', hI, hc, hf⟩ := h
  refine ⟨he, h1.trans (hc.below h1.size h3), S', hI, fun k hk => ?_⟩
  rcases hf k hk with h | h
  · exact h3 k h
  · exact Nat.le_trans h1.size h
theorem OwnD.of_retRs {w0 w w' : World} {B : Nat} {S : List Nat} {r : (Bool × Nat) × DS} {e : Ending} (h1 : Below w0.heap.size w0 w) (h3 : ∀ k ∈ S, w0.heap.size ≤ k) (h : RetRs w B S r e w') : e = .returned (.tuple #[.bool r.1.1, .int .i64 (r.1.2 : Int)]) ∧ OwnD w0 w' B r.2 := by
  obtain ⟨he, S', hI, hc, hf⟩ := h
  refine ⟨he, h1.trans (hc.below h1.size h3), S', hI, fun k hk => ?_⟩
  rcases hf k hk with h | h
  · exact h3 k h
  · exact Nat.le_trans h1.size h

set_option maxRecDepth 100000 in
set_option maxHeartbeats 8000000 in
theorem alive8_any (w : World) : Calls Try.prog 9 #[] w fun e w' => e = .returned (.bool true) ∧ Below w.heap.size w w' := by
  have HN := Lib.hid (ONew 100 (by decide) w w (Below.refl _ _))
  have HP := Lib.hid (fun c (hc : c < 256) W => Page_any c hc W)
  go_enter Try.func9, Try.ntmps9
  go_wp2_with fail
  refine HN.out.mono ?_
  rintro e w1 ⟨B, rfl, h1⟩
  have H : Hid (OwnD w w1 B (DS.new 100)) := h1
  clear h1 HN
  go_wp2_with fail
  refine (HP.out 7 (by omega) w1).mono ?_
  rintro e w2 ⟨g2, rfl, hg2, b2, K2⟩
  obtain ⟨w3, hw3⟩ : ∃ w3, w2.alloc (.cells #[.int .i64 2, .slice (some ⟨g2, 0, none⟩) 512 512] 63) = w3 := ⟨_, rfl⟩
  have b3 : Below w2.heap.size w2 w3 := by rw [← hw3]; exact (Below.refl _ _).alloc (Nat.le_refl _) _
  have K3 := K2.keep b3
  have R3 : Arr w3.heap.size w3 (some ⟨w2.heap.size, 0, none⟩) (cellsE [⟨2, some ⟨g2, 0, none⟩, 512, 512, rep 7⟩]) := by
    refine .inr ⟨w2.heap.size, 0, rfl, by rw [← hw3]; simp, fun i v hi => ?_⟩
    rw [← hw3, Nat.zero_add, World.cell?_alloc_new]
    have e : cellsE [⟨2, some ⟨g2, 0, none⟩, 512, 512, rep 7⟩] = [.int .i64 2, .slice (some ⟨g2, 0, none⟩) 512 512] := rfl
    rw [e] at hi
    simpa using hi
  have b13 := b2.trans (b3.mono b2.size)
  have H3 := Lib.hid (H.out.below b13)
  obtain ⟨hb3, S3, hD3, hS3⟩ := H3.out
  have hSlt := (H.out.2.choose_spec.1).lt
  have HSv : Hid (Calls Try.prog 22 #[.pointer (some ⟨B, 0, none⟩), .slice (some ⟨w2.heap.size, 0, none⟩) 1 1, .int .i64 3] w3 fun e w' => e = .returned (.int .i64 (al8r.1 : Int)) ∧ OwnD w w' B al8r.2) := by
    obtain ⟨hb1, S, hD, hS⟩ := H.out
    have hlt := hD.lt
    have hDw : IsDisk w3 B S (DS.new 100) := hD.chg (T := []) (Below.chg0 b13 []) (by simp)
    have hcall := Save_any hDw [⟨2, some ⟨g2, 0, none⟩, 512, 512, rep 7⟩] (some ⟨w2.heap.size, 0, none⟩) 1 1 3 R3 rfl (by omega) (fun g hg => by
        injection hg with hg; subst hg
        exact ⟨fun hm => by have := hlt _ hm; have := b2.size; simp only at *; omega, by rw [← hw3]; simp⟩) (fun e he => by
        rw [List.mem_singleton.1 he]
        refine ⟨K3.bsA (by intro c hc; rw [List.eq_of_mem_replicate hc]; omega), by simp [rep], by simp, by simp, fun g hg => ?_⟩
        injection hg with hg; subst hg
        exact ⟨fun hm => by have := hlt _ hm; simp only at *; omega, K3.lt⟩) al8_room.2.2
    rw [al8_save] at hcall
    exact hcall.mono fun _ _ hh => OwnD.of_retI (hb1.trans (b13.mono hb1.size)) hS hh
  rw [al8_1] at HSv
  clear hD3 hS3 hSlt hb3 S3 R3 K3 K2 hg2 b2 b3 b13 H H3
  go_wp2_with fail
  refine HSv.out.mono ?_
  rintro e w4 ⟨rfl, h4⟩
  have H := Lib.hid h4
  clear h4 HSv hw3
  have HL1 : Hid (Calls Try.prog 20 #[.pointer (some ⟨B, 0, none⟩)] w4 (RetLd w4 (.ok (some ([(2, rep 7)], 3))))) := by
    obtain ⟨hb1, S, hD, hS⟩ := H.out
    have := Load_any hD
    rw [al8_2] at this
    exact this
  go_wp2_with fail
  refine HL1.out.mono ?_
  rintro e w5 ⟨hb5, ⟨n, hx, -⟩ | ⟨hx, -⟩ | ⟨E, p, a, cap, hx, hEl, rfl, -, -⟩⟩
  · cases hx
  · cases hx
  · injection hx with hx; injection hx with hx; injection hx with hx1 hx2
    subst hx2
    have hE1 : E.length = 1 := by have := congrArg List.length hx1; simpa using this.symm
    rw [hE1]
    replace H := Lib.hid (H.out.below hb5)
    clear hb5 HL1 hx1 hEl hE1
    go_wp2_with fail
    refine (HP.out 9 (by omega) w5).mono ?_
    rintro e w6 ⟨g6, rfl, hg6, b6, K6⟩
    have HWp : Hid (Calls Try.prog 24 #[.pointer (some ⟨B, 0, none⟩), .int .i64 2, .slice (some ⟨g6, 0, none⟩) 512 512] w6 fun e w' => (∃ n : Nat, e = .returned (.int .i64 (n : Int))) ∧ OwnD w w' B al8d2) := by
      obtain ⟨hb1, S, hD, hS⟩ := H.out
      have hlt := hD.lt
      have hDw : IsDisk w6 B S al8r.2 := hD.chg (T := []) (Below.chg0 b6 []) (by simp)
      exact (WritePage_any hDw 2 (rep 9) (some ⟨g6, 0, none⟩) 512 512 (K6.bsA (by intro c hc; rw [List.eq_of_mem_replicate hc]; omega)) (by simp [rep]) (by omega) (by omega) (fun g hg hm => by
        injection hg with hg; subst hg
        have := hlt _ hm; simp only at *; omega) al8_room.1).mono fun _ _ hh => by
          obtain ⟨h1, h2⟩ := OwnD.of_retI (hb1.trans (b6.mono hb1.size)) hS hh
          exact ⟨⟨_, h1⟩, h2⟩
    clear hg6 b6 K6 H
    go_wp2_with fail
    refine HWp.out.mono ?_
    rintro e w7 ⟨⟨nn, rfl⟩, h7⟩
    have H := Lib.hid h7
    clear h7 HWp
    have HRs : Hid (Calls Try.prog 21 #[.pointer (some ⟨B, 0, none⟩)] w7 fun e w' => e = .returned (.tuple #[.bool true, .int .i64 0]) ∧ OwnD w w' B al8d2.restore.2) := by
      obtain ⟨hb1, S, hD, hS⟩ := H.out
      refine (Restore_any hD al8_room.2.1).mono fun _ _ hh => ?_
      obtain ⟨h1, h2⟩ := OwnD.of_retRs hb1 hS hh
      rw [al8_3] at h1
      exact ⟨h1, h2⟩
    go_wp2_with fail
    refine HRs.out.mono ?_
    rintro e w8 ⟨rfl, h8⟩
    replace H := Lib.hid h8
    clear h8 HRs
    have HRp : Hid (Calls Try.prog 19 #[.pointer (some ⟨B, 0, none⟩), .int .i64 2] w8 (RetPg w8 (.ok (rep 7)))) := by
      obtain ⟨hb1, S, hD, hS⟩ := H.out
      have := ReadPage_any hD 2
      rw [al8_4] at this
      exact this
    go_wp2_with fail
    refine HRp.out.mono ?_
    rintro e w9 ⟨hb9, ⟨n, hx, -⟩ | ⟨l, g9, hx, rfl, hg9, hl9, hlt9, K9⟩⟩
    · cases hx
    · injection hx with hx
      subst hx
      replace H := Lib.hid (H.out.below hb9)
      have HK9 := Lib.hid K9
      clear hb9 hg9 hl9 hlt9 K9 HRp
      have HL2 : Hid (Calls Try.prog 20 #[.pointer (some ⟨B, 0, none⟩)] w9 (RetLd w9 (.ok none))) := by
        obtain ⟨hb1, S, hD, hS⟩ := H.out
        have := Load_any hD
        rw [al8_5] at this
        exact this
      go_wp2_with fail
      refine HL2.out.mono ?_
      rintro e w10 ⟨hb10, ⟨n, hx, -⟩ | ⟨hx, rfl⟩ | ⟨E, p, a, cap, hx, -⟩⟩
      · cases hx
      · have HBe := Lib.hid (H.out.below hb10).1
        have HK10 := Lib.hid (HK9.out.keep hb10)
        clear hb10 hx H HK9 HL2
        have hc7 : ∀ c ∈ rep 7, c < 256 := by intro c hc; rw [List.eq_of_mem_replicate hc]; omega
        have HB10 := Lib.hid (HK10.out.bsA hc7)
        have s1 : ∀ W, Later w10.drew W → (convert 30 9 (.slice (some ⟨g9, 0, none⟩) 512 512)).run Try.prog W = .ok (.string (strN (rep 7))) W := fun W hW => (HB10.out.below (Later.undrew hW)).str 512 512 (by simp [rep])
        go_wp2_with fail
        refine wp_region_ord [(0, true), (1, true), (2, true), (3, true), (4, true), (5, true), (6, true), (7, true), (8, true), (9, true), (10, true), (11, true), (12, true), (13, true), (14, true), (15, true), (16, true), (17, true), (18, true), (19, true), (20, true), (21, true), (22, true), (23, true), (24, true), (25, true), (26, true), (27, true), (28, true), (29, true), (30, true), (31, true), (32, false), (33, true), (34, true), (35, true), (36, true), (37, true), (38, true), (39, true), (40, true)] (by kernel_rfl) (by kernel_rfl) (by kernel_rfl) (by kernel_rfl) ?_
        repeat (first | (refine wpO_F (v := ?_) rfl (by rfl) (fun w' hL => ?_) ?_; rotate_left; (solve | (go_simp; with_reducible rfl) | go_simp); try simp only [Act.put, List.setIfInBounds_toArray, List.set_cons_zero, List.set_cons_succ]) | (refine wpO_G rfl (by rfl) ?_; try simp only [Act.put, List.setIfInBounds_toArray, List.set_cons_zero, List.set_cons_succ]))
        refine wpO_C rfl (by rfl) ?_
        go_simp
        refine (HP.out 7 (by omega) _).mono ?_
        rintro e w11 ⟨g11, rfl, hg11, b11, K11⟩
        refine ⟨b11, ?_⟩
        try simp only [Act.put, List.setIfInBounds_toArray, List.set_cons_zero, List.set_cons_succ]
        have HK11 := Lib.hid (K11.bsA hc7)
        have HB11 := Lib.hid (HBe.out.trans ((show Below w10.heap.size w10 w11 from Below.trans ((Below.refl _ _).drew) b11).mono HBe.out.size))
        clear hg11 b11 K11 s1
        have s2 : ∀ W, Later w11 W → (convert 30 9 (.slice (some ⟨g11, 0, none⟩) 512 512)).run Try.prog W = .ok (.string (strN (rep 7))) W := fun W hW => (HK11.out.below hW).str 512 512 (by simp [rep])
        repeat (first | (refine wpO_F (v := ?_) rfl (by rfl) (fun w' hL => ?_) ?_; rotate_left; (solve | (go_simp; with_reducible rfl) | go_simp); try simp only [Act.put, List.setIfInBounds_toArray, List.set_cons_zero, List.set_cons_succ]) | (refine wpO_G rfl (by rfl) ?_; try simp only [Act.put, List.setIfInBounds_toArray, List.set_cons_zero, List.set_cons_succ]))
        refine wpO_nil ?_
        go_wp2
        go_ret
        exact ⟨by first | rfl | simp, HB11.out⟩
      · cases hx
end Go.Proofs.Ytaekfnkhlgpmdaa

/- Journal: the reference's four, number, filled, Head. -/
set_option linter.unusedSimpArgs false
set_option linter.unusedVariables false
set_option maxRecDepth 100000
namespace Go.Proofs.Ytaekfnkhlgpmdaa
open Go.RowKit

theorem beL_four (n : Nat) : beL 4 n = [n / 16777216 % 256, n / 65536 % 256, n / 256 % 256, n % 256] := by simp [beL_cons, beL, Nat.div_div_eq_div_mul]
theorem headL_flat (c p : Nat) : headL c p = ([72, 83, 74, 49] ++ beL 4 c ++ beL 4 p) ++ zs 116 := by
  unfold headL
  rw [beL_four, beL_four]
  rfl
def fl (l : List Nat) : List Nat := l ++ zs (128 - l.length)
theorem fl_len {l : List Nat} (h : l.length ≤ 128) : (fl l).length = 128 := by unfold fl; rw [List.length_append, zs_len]; omega
theorem fl_at {l : List Nat} {i : Nat} (hi : i < l.length) (h : l.length ≤ 128) : (cellsA (fl (l.take i)))[i]? = some (.int .u8 0) := by
  have e : (l.take i).length = i := by rw [List.length_take]; omega
  unfold fl cellsA cellsU
  rw [e]
  simp only [List.getElem?_toArray, List.getElem?_map, List.getElem?_append_right (Nat.le_of_eq e), e, Nat.sub_self]
  rw [show 128 - i = (127 - i) + 1 by omega]
  rfl
theorem fl_set {l : List Nat} {i c : Nat} (hc : l[i]? = some c) (h : l.length ≤ 128) : (cellsA (fl (l.take i))).setIfInBounds i (.int .u8 (c : Int)) = cellsA (fl (l.take (i + 1))) := by
  have hi : i < l.length := by
    rcases Nat.lt_or_ge i l.length with h1 | h1
    · exact h1
    · rw [List.getElem?_eq_none h1] at hc; cases hc
  have e : (l.take i).length = i := by rw [List.length_take]; omega
  have e' : (l.take (i + 1)).length = i + 1 := by rw [List.length_take]; omega
  have hci : l[i] = c := by rw [List.getElem?_eq_getElem hi] at hc; injection hc
  unfold fl cellsA cellsU
  rw [e, e', show 128 - i = (128 - (i + 1)) + 1 by omega]
  simp only [List.setIfInBounds_toArray, List.map_append]
  rw [List.set_append_right _ _ (by rw [List.length_map, e]; omega), List.length_map, e, Nat.sub_self, List.take_succ_eq_append_getElem hi, hci]
  simp [zs, List.replicate_succ]
theorem fl_nil : cellsA (fl []) = cellsA (zs 128) := rfl

set_option maxRecDepth 100000 in
set_option maxHeartbeats 2000000 in
theorem four_any (n : Nat) (hn : n ≤ 4096) (w : World) : Calls Try.prog 44 #[.int .i64 (n : Int)] w fun e w' => e = .returned (.slice (some ⟨w.heap.size, 0, none⟩) 4 4) ∧ w' = w.alloc (.cells (cellsA (beL 4 n)) 5) := by
  have e4 : cellsA (beL 4 n) = #[.int .u8 ((n / 16777216 % 256 : Nat) : Int), .int .u8 ((n / 65536 % 256 : Nat) : Int), .int .u8 ((n / 256 % 256 : Nat) : Int), .int .u8 ((n % 256 : Nat) : Int)] := by
    rw [beL_four]; rfl
  go_enter Try.func44, Try.ntmps44
  go_wp2
  go_ret
  refine ⟨rfl, ?_⟩
  rw [e4]
  rfl

set_option maxRecDepth 100000 in
set_option maxHeartbeats 2000000 in
theorem number_any (l : List Nat) (b o cap N : Nat) (w : World) (hB : Bs N w (some ⟨b, o, none⟩) l) (hl : l.length = 4) :
    Calls Try.prog 48 #[.slice (some ⟨b, o, none⟩) 4 cap] w fun e w' => e = .returned (.int .i64 (valL l : Int)) ∧ Below w.heap.size w w' := by
  obtain ⟨c0, c1, c2, c3, rfl⟩ : ∃ c0 c1 c2 c3, l = [c0, c1, c2, c3] := by
    match l, hl with
    | [a, b, c, d], _ => exact ⟨a, b, c, d, rfl⟩
  have hv : valL [c0, c1, c2, c3] = 16777216 * c0 + 65536 * c1 + 256 * c2 + c3 := by unfold valL; simp only [List.foldl_cons, List.foldl_nil]; omega
  have h0 := hB.1 c0 (by simp)
  have h1 := hB.1 c1 (by simp)
  have h2 := hB.1 c2 (by simp)
  have h3 := hB.1 c3 (by simp)
  have hc : ∀ (i c : Nat), [c0, c1, c2, c3][i]? = some c → w.cell? ⟨b, o + i, none⟩ = some (.int .u8 (c : Int)) := by
    obtain ⟨b', o', he, -, hc⟩ := hB.2.resolve_left (by simp)
    injection he with he; injection he with e1 e2; subst e1 e2
    exact hc
  have k0 : w.cell? ⟨b, o, none⟩ = some (.int .u8 (c0 : Int)) := hc 0 c0 rfl
  have k1 : w.cell? ⟨b, o + 1, none⟩ = some (.int .u8 (c1 : Int)) := hc 1 c1 rfl
  have k2 : w.cell? ⟨b, o + 2, none⟩ = some (.int .u8 (c2 : Int)) := hc 2 c2 rfl
  have k3 : w.cell? ⟨b, o + 3, none⟩ = some (.int .u8 (c3 : Int)) := hc 3 c3 rfl
  rw [hv]
  clear hB hl hc hv
  go_enter Try.func48, Try.ntmps48
  go_wp2_with fail
  go_quiet (fail)
  go_wp2
  go_ret
  refine ⟨?_, ?_⟩
  · go_num
  · exact ⟨rfl, rfl, rfl, Nat.le_refl _, fun _ _ => rfl⟩
end Go.Proofs.Ytaekfnkhlgpmdaa

/- Journal: the reference's filled, Head. -/
set_option linter.unusedSimpArgs false
set_option linter.unusedVariables false
set_option maxRecDepth 100000
namespace Go.Proofs.Ytaekfnkhlgpmdaa
open Go.RowKit

set_option maxRecDepth 100000 in
set_option maxHeartbeats 4000000 in
theorem filled_any (l : List Nat) (b o n cap N : Nat) (w : World) (hB : Bs N w (some ⟨b, o, none⟩) l) (hN : N ≤ w.heap.size) (hl : n = l.length) (h0 : 0 < n) (h128 : n ≤ 128) :
    Calls Try.prog 45 #[.slice (some ⟨b, o, none⟩) n cap] w fun e w' => ∃ g, e = .returned (.slice (some ⟨g, 0, none⟩) 128 128) ∧ w.heap.size ≤ g ∧ Below w.heap.size w w' ∧ Blk w' g 5 (cellsA (fl l)) := by
  obtain ⟨w0, hw0⟩ : ∃ w0, w.alloc (.cells (cellsA (zs 128)) 5) = w0 := ⟨_, rfl⟩
  have hmk : (Instr.makeSlice 30 (.int .i64 128) (.int .i64 128)).run Try.prog w = .ok (.slice (some ⟨w.heap.size, 0, none⟩) 128 128) w0 := by
    rw [make128 w, ← hw0]
  have hB0 : Blk w0 w.heap.size 5 (cellsA (fl (l.take 0))) := by rw [← hw0]; exact Blk.new _ _ _
  have hb0 : Below w.heap.size w w0 := by rw [← hw0]; exact (Below.refl _ _).alloc (Nat.le_refl _) _
  have hc : ∀ (i c : Nat), l[i]? = some c → w.cell? ⟨b, o + i, none⟩ = some (.int .u8 (c : Int)) := by
    obtain ⟨b', o', he, -, hc⟩ := hB.2.resolve_left (by intro h; rw [h] at hl; simp at hl; omega)
    injection he with he; injection he with e1 e2; subst e1 e2
    exact hc
  have hbN : b < w.heap.size := by
    obtain ⟨b', o', he, hbN, hc⟩ := hB.2.resolve_left (by intro h; rw [h] at hl; simp at hl; omega)
    injection he with he; injection he with e1 e2; subst e1 e2
    omega
  have HC : Hid (∀ W, Below w.heap.size w W → ∀ (i c : Nat), l[i]? = some c → W.cell? ⟨b, o + i, none⟩ = some (.int .u8 (c : Int))) := fun W hW i c hi => by
    have := hc i c hi
    unfold World.cell? at this ⊢
    rw [hW.block b hbN]; exact this
  have HB0 := Lib.hid hB0
  have Hb0 := Lib.hid hb0
  have hlt256 := hB.1
  clear hw0 hB0 hb0 hc hB
  go_enter Try.func45, Try.ntmps45
  go_wp2
  clear hmk
  go_loopw [4] (fun iv wr => ∃ i : Nat, i ≤ n ∧ iv = .int .i64 (i : Int) ∧ Hid (Blk wr w.heap.size 5 (cellsA (fl (l.take i)))) ∧ Hid (Below w.heap.size w wr)) (fun iv _ => n - (intOf iv).toNat)
  case atStart => exact ⟨0, by omega, rfl, HB0, Hb0⟩
  case round =>
    clear HB0 Hb0
    obtain ⟨i, hi, rfl, HB, Hb⟩ := hrel
    by_cases hlt : i < n
    · obtain ⟨c, hci⟩ : ∃ c, l[i]? = some c := ⟨l[i]'(by omega), List.getElem?_eq_getElem (by omega)⟩
      have hc256 := hlt256 c (List.mem_of_getElem? hci)
      have ec := HC.out wr Hb.out i c hci
      have e1 := (HB.out.cell i).trans (fl_at (by omega) (by omega))
      have e2 := HB.out.frozen i
      have e3 := HB.out.lt
      have HN := HB.out.set_ i (.int .u8 (c : Int))
      rw [fl_set hci (by omega)] at HN
      have HN := Lib.hid HN
      have HBN : Hid (Below w.heap.size w (wr.setCell ⟨w.heap.size, i, none⟩ (.int .u8 (c : Int)))) := Hb.out.setCell (Nat.le_refl _) _
      clear hlt256 hci hl
      go_wp2
      go_roundw
      case rel => exact ⟨i + 1, by omega, by go_num, HN, HBN⟩
      case measure => simp [intOf]; omega
    · obtain rfl : i = n := by omega
      have HK : Hid (Blk wr w.heap.size 5 (cellsA (fl l))) := by
        have := HB.out
        rw [List.take_of_length_le (by omega)] at this
        exact this
      clear hlt256 hl
      go_wp2
      go_ret
      exact ⟨_, rfl, Nat.le_refl _, Hb.out, HK.out⟩

set_option maxRecDepth 100000 in
set_option maxHeartbeats 8000000 in
theorem rhead_any (c p : Int) (w : World) : Calls Try.prog 16 #[.int .i64 c, .int .i64 p] w (RetHd w c p) := by
  obtain ⟨B1, hB1⟩ : ∃ B, decide (c < 0) = B := ⟨_, rfl⟩
  obtain ⟨B2, hB2⟩ : ∃ B, decide (4096 < c) = B := ⟨_, rfl⟩
  obtain ⟨B3, hB3⟩ : ∃ B, decide (p < 0) = B := ⟨_, rfl⟩
  obtain ⟨B4, hB4⟩ : ∃ B, decide (4096 < p) = B := ⟨_, rfl⟩
  have HV : Hid ((cntB c && cntB p) = !(B1 || B2 || B3 || B4)) := by
    show _ = _
    rw [← hB1, ← hB2, ← hB3, ← hB4, Bool.eq_iff_iff]
    unfold cntB
    simp
    omega
  cases B1 with
  | true =>
    have HE : Hid ((cntB c && cntB p) = false) := by show _ = _; rw [HV.out]; rfl
    clear hB2 hB3 hB4
    go_enter Try.func16, Try.ntmps16
    go_wp2
    go_ret2
    exact ⟨Below.refl _ _, .inl ⟨HE.out, rfl⟩⟩
  | false =>
  cases B2 with
  | true =>
    have HE : Hid ((cntB c && cntB p) = false) := by show _ = _; rw [HV.out]; rfl
    clear hB3 hB4
    go_enter Try.func16, Try.ntmps16
    go_wp2
    go_ret2
    exact ⟨Below.refl _ _, .inl ⟨HE.out, rfl⟩⟩
  | false =>
  cases B3 with
  | true =>
    have HE : Hid ((cntB c && cntB p) = false) := by show _ = _; rw [HV.out]; rfl
    clear hB4
    go_enter Try.func16, Try.ntmps16
    go_wp2
    go_ret2
    exact ⟨Below.refl _ _, .inl ⟨HE.out, rfl⟩⟩
  | false =>
  cases B4 with
  | true =>
    have HE : Hid ((cntB c && cntB p) = false) := by show _ = _; rw [HV.out]; rfl
    go_enter Try.func16, Try.ntmps16
    go_wp2
    go_ret2
    exact ⟨Below.refl _ _, .inl ⟨HE.out, rfl⟩⟩
  | false =>
    have HE : Hid ((cntB c && cntB p) = true) := by show _ = _; rw [HV.out]; rfl
    simp only [decide_eq_false_iff_not] at hB1 hB2 hB3 hB4
    obtain ⟨c', rfl⟩ : ∃ n : Nat, c = n := ⟨c.toNat, by omega⟩
    obtain ⟨p', rfl⟩ : ∃ n : Nat, p = n := ⟨p.toNat, by omega⟩
    obtain ⟨i0, hi0, hz0, hz1, hz2⟩ := info_parts Try.info5
    have HF1 := Lib.hid (fun W => four_any c' (by omega) W)
    have HF2 := Lib.hid (fun W => four_any p' (by omega) W)
    have HFl := Lib.hid (fun (b o n cap : Nat) W (hB : Bs W.heap.size W (some ⟨b, o, none⟩) ([72, 83, 74, 49] ++ beL 4 c' ++ beL 4 p')) (hn : n = 12) => filled_any ([72, 83, 74, 49] ++ beL 4 c' ++ beL 4 p') b o n cap W.heap.size W hB (Nat.le_refl _) (by simp [beL_len, hn]) (by omega) (by omega))
    have HHd : Hid (fl ([72, 83, 74, 49] ++ beL 4 c' ++ beL 4 p') = headL c' p') := by
      show _ = _
      rw [headL_flat]; unfold fl
      have e : ([72, 83, 74, 49] ++ beL 4 c' ++ beL 4 p' : List Nat).length = 12 := by simp [beL_len]
      rw [e]
    have H256 : Hid (∀ c ∈ ([72, 83, 74, 49] ++ beL 4 c' ++ beL 4 p'), c < 256) := fun c hc => by
      rcases List.mem_append.1 hc with hc | hc
      · rcases List.mem_append.1 hc with hc | hc
        · simp at hc; omega
        · exact beL_lt _ _ c hc
      · exact beL_lt _ _ c hc
    obtain ⟨w1, hw1⟩ : ∃ w1, w.alloc (.cells #[.int .u8 72, .int .u8 83, .int .u8 74, .int .u8 49] 5) = w1 := ⟨_, rfl⟩
    have hO1 : w1.ownsRow w.heap.size 5 1 (.slice (some ⟨w.heap.size, 0, none⟩) 4 4) 4 (cellsU [72, 83, 74, 49]) := by rw [← hw1]; exact World.ownsRow_lit w #[.int .u8 72, .int .u8 83, .int .u8 74, .int .u8 49] 4 (Nat.le_refl _) (by unfold maxLen; omega) rfl
    have hb1 : Below w.heap.size w w1 := by rw [← hw1]; exact (Below.refl _ _).alloc (Nat.le_refl _) _
    have HO1 := Lib.hid hO1
    have HB1 := Lib.hid hb1
    clear hO1 hb1 HV
    go_enter Try.func16, Try.ntmps16
    go_wp2_with fail
    refine (HF1.out _).mono ?_
    rintro e w2 ⟨rfl, hw2⟩
    rw [hw1] at *
    have hX2 : Bs w2.heap.size w2 (some ⟨w1.heap.size, 0, none⟩) (beL 4 c') := by rw [hw2]; exact (Blk.new _ _ _).bsA (beL_lt _ _)
    have hb2 : Below w1.heap.size w1 w2 := by rw [hw2]; exact (Below.refl _ _).alloc (Nat.le_refl _) _
    have HX2 := Lib.hid hX2.arr
    have HO2 : Hid (w2.ownsRow w.heap.size 5 1 (.slice (some ⟨w.heap.size, 0, none⟩) 4 4) 4 (cellsU [72, 83, 74, 49])) := by rw [hw2]; exact World.ownsRow.alloc HO1.out _
    have HB2 := Lib.hid (HB1.out.trans (hb2.mono HB1.out.size))
    have hs2 := HB2.out.size
    clear hX2 hb2 hw2 HO1 HB1 hw1
    go_wp2_with (at_builtin; refine wpList_appS rfl (.tmp 22) (.tmp 24) 30 rfl w.heap.size 5 i0 (.int .u8 0) 1 1 Try.underlying30 hi0 hz0 rfl hz1 (by omega) hz2 (by omega) (.slice (some ⟨w.heap.size, 0, none⟩) 4 4) 4 _ _ HO2.out rfl _ (some ⟨w1.heap.size, 0, none⟩) 4 4 (cellsU (beL 4 c')) HX2.out (by rw [cellsU_len, beL_len]) (one_B _) rfl (by omega) hs2 ?_; intro v3 w3 hown3 _ hb3; obtain ⟨a3, k3, rfl, _, _, _⟩ := own_slice hown3; have HO3 := Lib.hid hown3; have HB3 := Lib.hid (HB2.out.trans hb3); clear hown3 hb3)
    clear HO2 HX2
    refine (HF2.out _).mono ?_
    rintro e w4 ⟨rfl, hw4⟩
    have hX4 : Bs w4.heap.size w4 (some ⟨w3.heap.size, 0, none⟩) (beL 4 p') := by rw [hw4]; exact (Blk.new _ _ _).bsA (beL_lt _ _)
    have hb4 : Below w3.heap.size w3 w4 := by rw [hw4]; exact (Below.refl _ _).alloc (Nat.le_refl _) _
    have HX4 := Lib.hid hX4.arr
    have HO4 : Hid (w4.ownsRow w.heap.size 5 1 (.slice a3 8 k3) 8 (cellsU [72, 83, 74, 49] ++ cellsU (beL 4 c'))) := by rw [hw4]; exact World.ownsRow.alloc HO3.out _
    have HB4 := Lib.hid (HB3.out.trans (hb4.mono HB3.out.size))
    have hs4 := HB4.out.size
    clear hX4 hb4 hw4 HO3 HB3
    go_wp2_with (at_builtin; refine wpList_appS rfl (.tmp 26) (.tmp 28) 30 rfl w.heap.size 5 i0 (.int .u8 0) 1 1 Try.underlying30 hi0 hz0 rfl hz1 (by omega) hz2 (by omega) (.slice a3 8 k3) 8 _ _ HO4.out rfl _ (some ⟨w3.heap.size, 0, none⟩) 4 4 (cellsU (beL 4 p')) HX4.out (by rw [cellsU_len, beL_len]) (one_B _) rfl (by omega) hs4 ?_; intro v5 w5 hown5 _ hb5; obtain ⟨a5, k5, rfl, _, _, harr5⟩ := own_slice hown5; have HR5 := Lib.hid harr5; have HB5 := Lib.hid (HB4.out.trans hb5); clear hown5 hb5 harr5)
    have hR5 : Bs w5.heap.size w5 a5 ([72, 83, 74, 49] ++ beL 4 c' ++ beL 4 p') := by
      refine Arr.bs ?_ H256.out
      have e : cellsU ([72, 83, 74, 49] ++ beL 4 c' ++ beL 4 p') = cellsU [72, 83, 74, 49] ++ cellsU (beL 4 c') ++ cellsU (beL 4 p') := by simp [cellsU]
      rw [e]
      exact HR5.out
    obtain ⟨b5, o5, rfl, -, -⟩ := hR5.2.resolve_left (by simp)
    have HFc := Lib.hid (HFl.out b5 o5 12 k5 w5 hR5 rfl)
    clear hR5 HR5 HFl HO4 HX4
    refine HFc.out.mono ?_
    rintro e w6 ⟨g, rfl, hg, hb6, hK6⟩
    have HB6 := Lib.hid (HB5.out.trans (hb6.mono HB5.out.size))
    have hg6 := Nat.le_trans HB5.out.size hg
    rw [HHd.out] at hK6
    have HK6 := Lib.hid hK6
    clear hK6 hb6 hg HFc
    go_wp2
    go_ret2
    exact ⟨HB6.out, .inr ⟨g, HE.out, rfl, hg6, HK6.out⟩⟩

theorem strN_bq {l m : List Nat} (hl : ∀ c ∈ l, c < 256) (hm : ∀ c ∈ m, c < 256) : ((strN l).toList == (strN m).toList) = decide (l = m) := by
  rw [Bool.eq_iff_iff, beq_iff_eq, decide_eq_true_iff]
  constructor
  · intro he
    rw [ByteArray.toList_eq, ByteArray.toList_eq] at he
    have : strN l = strN m := by
      apply ByteArray.ext
      exact Array.toList_inj.1 he
    rw [← bytesOf_strB hl, ← bytesOf_strB hm, this]
  · intro h; rw [h]
theorem Bs.cv {N : Nat} {w : World} {a : Option Addr} {l : List Nat} (h : Bs N w a l) (n cap : Nat) (hn : n = l.length) : (convert 30 9 (.slice a n cap)).run Try.prog w = .ok (.string (strN l)) w :=
  h.conv 30 5 Try.underlying30 Try.underlying5 9 Try.underlying9 n cap hn

set_option maxRecDepth 100000 in
set_option maxHeartbeats 8000000 in
theorem rReadHead_any (l : List Nat) (a : Option Addr) (n cap : Nat) (w : World) (hB : Bs w.heap.size w a l) (hn : n = l.length) (hc : n ≤ cap) (hcm : cap ≤ 9223372036854775807) :
    Calls Try.prog 18 #[.slice a n cap] w fun e w' => e = .returned (headV (readHeadL l)) ∧ Below w.heap.size w w' := by
  by_cases h8 : n = 128
  · subst h8
    have hne : l ≠ [] := by intro h0; rw [h0] at hn; cases hn
    obtain ⟨b, o, rfl, hbN, -⟩ := hB.2.resolve_left hne
    have hv1 := val4 l hB.1 4
    have hv2 := val4 l hB.1 8
    have HG1 := Lib.hid (fun W (hb : Below w.heap.size w W) => number_any ((l.drop 4).take 4) b (o + 4) (cap - 4) W.heap.size W ((((hB.from_ 4).front 4).below hb).mono hb.size) (by rw [List.length_take, List.length_drop, ← hn]; rfl))
    have HG2 := Lib.hid (fun W (hb : Below w.heap.size w W) => number_any ((l.drop 8).take 4) b (o + 8) (cap - 8) W.heap.size W ((((hB.from_ 8).front 4).below hb).mono hb.size) (by rw [List.length_take, List.length_drop, ← hn]; rfl))
    have HR : Hid (readHeadL l = if l.length = 128 ∧ valL ((l.drop 4).take 4) ≤ 4096 ∧ valL ((l.drop 8).take 4) ≤ 4096 ∧ l = headL (valL ((l.drop 4).take 4)) (valL ((l.drop 8).take 4)) then some (valL ((l.drop 4).take 4), valL ((l.drop 8).take 4)) else none) := rfl
    have hs1 : ∀ W, (Instr.slice 30 (.slice (some ⟨b, o, none⟩) 128 cap) (some (.int .i64 4)) (some (.int .i64 8)) none).run Try.prog W = .ok (.slice (some ⟨b, o + 4, none⟩) 4 (cap - 4)) W := fun W => by simpa using cutAt b o 128 cap 4 8 (by omega) (by omega) (by omega) W
    have hs2 : ∀ W, (Instr.slice 30 (.slice (some ⟨b, o, none⟩) 128 cap) (some (.int .i64 8)) (some (.int .i64 12)) none).run Try.prog W = .ok (.slice (some ⟨b, o + 8, none⟩) 4 (cap - 8)) W := fun W => by simpa using cutAt b o 128 cap 8 12 (by omega) (by omega) (by omega) W
    generalize valL ((l.drop 4).take 4) = c at *
    generalize valL ((l.drop 8).take 4) = p at *
    have HHd := Lib.hid (fun W => rhead_any (c : Int) (p : Int) W)
    have HL : Hid (l.length = 128) := hn.symm
    have HBs := Lib.hid hB
    have HS0 := Lib.hid (strN_bq (headL_lt c p) hB.1)
    clear hB hn hne hbN hc hcm
    go_enter Try.func18, Try.ntmps18
    go_wp2_with fail
    refine wp_region_ord [(0, true), (1, true), (3, true), (4, true), (2, false), (5, false), (6, true), (7, true)] (by kernel_rfl) (by kernel_rfl) (by kernel_rfl) (by kernel_rfl) ?_
    repeat (first | (refine wpO_F (v := ?_) rfl (by rfl) (fun w' hL => ?_) ?_; rotate_left; (solve | (go_simp; with_reducible rfl) | go_simp); try simp only [Act.put, List.setIfInBounds_toArray, List.set_cons_zero, List.set_cons_succ]) | (refine wpO_G rfl (by rfl) ?_; try simp only [Act.put, List.setIfInBounds_toArray, List.set_cons_zero, List.set_cons_succ]))
    refine wpO_C rfl (by rfl) ?_
    go_simp
    refine (HG1.out _ ((Below.refl _ _).drew)).mono ?_
    rintro e w1 ⟨rfl, hb1⟩
    refine ⟨hb1, ?_⟩
    try simp only [Act.put, List.setIfInBounds_toArray, List.set_cons_zero, List.set_cons_succ]
    repeat (first | (refine wpO_F (v := ?_) rfl (by rfl) (fun w' hL => ?_) ?_; rotate_left; (solve | (go_simp; with_reducible rfl) | go_simp); try simp only [Act.put, List.setIfInBounds_toArray, List.set_cons_zero, List.set_cons_succ]) | (refine wpO_G rfl (by rfl) ?_; try simp only [Act.put, List.setIfInBounds_toArray, List.set_cons_zero, List.set_cons_succ]))
    refine wpO_C rfl (by rfl) ?_
    go_simp
    refine (HG2.out _ (((Below.refl w.heap.size w).drew).trans hb1)).mono ?_
    rintro e w2 ⟨rfl, hb2⟩
    refine ⟨hb2, ?_⟩
    try simp only [Act.put, List.setIfInBounds_toArray, List.set_cons_zero, List.set_cons_succ]
    repeat (first | (refine wpO_F (v := ?_) rfl (by rfl) (fun w' hL => ?_) ?_; rotate_left; (solve | (go_simp; with_reducible rfl) | go_simp); try simp only [Act.put, List.setIfInBounds_toArray, List.set_cons_zero, List.set_cons_succ]) | (refine wpO_G rfl (by rfl) ?_; try simp only [Act.put, List.setIfInBounds_toArray, List.set_cons_zero, List.set_cons_succ]))
    refine wpO_nil ?_
    have hx1 := ((Below.refl w.heap.size w).drew).trans hb1
    have HB2 : Hid (Below w.heap.size w w2) := hx1.trans (hb2.mono hx1.size)
    clear hx1 hb1 hb2 hs1 hs2 HG1 HG2
    go_wp2_with fail
    refine (HHd.out _).mono ?_
    rintro e w3 ⟨hb3, ⟨hcp, rfl⟩ | ⟨g, hcp, rfl, hg, hK⟩⟩
    · have HE : Hid (readHeadL l = none) := by
        show _ = _
        rw [HR.out, if_neg]
        rintro ⟨-, h1, h2, -⟩
        unfold cntB at hcp
        simp at hcp
        omega
      have HB3 : Hid (Below w.heap.size w w3) := HB2.out.trans (hb3.mono HB2.out.size)
      clear hb3 hcp HHd HS0
      go_wp2
      go_ret3
      exact ⟨by rw [HE.out]; rfl, HB3.out⟩
    · have hcp2 : c ≤ 4096 ∧ p ≤ 4096 := by unfold cntB at hcp; simp at hcp; omega
      have HB3 : Hid (Below w.heap.size w w3) := HB2.out.trans (hb3.mono HB2.out.size)
      have cv1 := (HBs.out.below HB3.out).cv 128 cap HL.out.symm
      have hK' : Blk w3 g 5 (cellsA (headL c p)) := hK
      have cv2 := (hK'.bsA (headL_lt _ _)).cv 128 128 (headL_len _ _).symm
      obtain ⟨D, hD⟩ : ∃ D, decide (headL c p = l) = D := ⟨_, rfl⟩
      have hq := HS0.out
      rw [hD] at hq
      have HE : Hid (readHeadL l = if D then some (c, p) else none) := by
        show _ = _
        rw [HR.out, ← hD]
        by_cases h : l = headL c p
        · rw [if_pos ⟨HL.out, hcp2.1, hcp2.2, h⟩]; simp [h]
        · rw [if_neg (fun hh => h hh.2.2.2)]; simp [Ne.symm h]
      generalize strN (headL c p) = s1 at *
      generalize strN l = s2 at *
      have hnq : (s1.toList != s2.toList) = !D := by rw [bne, hq]
      clear hb3 hcp hcp2 HHd hg hK hK' hD HR HL HBs HS0
      cases D with
      | true =>
        go_wp2
        go_ret3
        exact ⟨by rw [HE.out]; rfl, HB3.out⟩
      | false =>
        go_wp2
        go_ret3
        exact ⟨by rw [HE.out]; rfl, HB3.out⟩
  · have HE : Hid (readHeadL l = none) := by
      show _ = _
      unfold readHeadL
      rw [if_neg (fun hh => h8 (by rw [hn]; exact hh.1))]
    have q : ((n : Int) != 128) = true := by simp; omega
    clear hB hn hc hcm h8
    go_enter Try.func18, Try.ntmps18
    go_wp2
    go_ret3
    exact ⟨by rw [HE.out]; rfl, Below.refl _ _⟩
end Go.Proofs.Ytaekfnkhlgpmdaa

/- Journal: the walk of the law JournalHeads. -/
set_option linter.unusedSimpArgs false
set_option linter.unusedVariables false
set_option maxRecDepth 100000
namespace Go.Proofs.Ytaekfnkhlgpmdaa
open Go.RowKit

def hdL (c p : Int) : List Nat := if cntB c && cntB p then headL c.toNat p.toNat else []
def hdE (c p : Int) : Int := if cntB c && cntB p then 0 else 1
/-- What Head hands back, in one form. -/
theorem RetHd.one {w w' : World} {c p : Int} {e : Ending} (h : RetHd w c p e w') : ∃ a n k, e = .returned (.tuple #[.slice a n k, .int .i64 (hdE c p)]) ∧ Bs w'.heap.size w' a (hdL c p) ∧ n = (hdL c p).length ∧ Below w.heap.size w w' := by
  obtain ⟨hb, ⟨h, rfl⟩ | ⟨g, h, rfl, hg, hK⟩⟩ := h
  · refine ⟨none, 0, 0, by unfold hdE; rw [h]; rfl, ?_, by unfold hdL; rw [h]; rfl, hb⟩
    unfold hdL; rw [h]
    exact ⟨by simp, .inl rfl⟩
  · refine ⟨_, 128, 128, by unfold hdE; rw [h]; rfl, ?_, by unfold hdL; rw [h]; exact (headL_len _ _).symm, hb⟩
    unfold hdL; rw [h]
    exact hK.bsA (headL_lt _ _)
theorem headV_one (o : Option (Nat × Nat)) : ∃ (n m : Int) (b : Bool), headV o = .tuple #[.int .i64 n, .int .i64 m, .bool b] := by
  cases o with
  | none => exact ⟨_, _, _, rfl⟩
  | some x => exact ⟨_, _, _, rfl⟩

set_option maxRecDepth 100000 in
set_option maxHeartbeats 8000000 in
theorem journalHeads_walk (a0 a1 : Int) (a2 : Option Addr) (len cap : Nat) (z : List Int) (w : World) (hz : IsRow .u8 w a2 len cap z) :
    Calls Try.prog 4 #[.int .i64 a0, .int .i64 a1, .slice a2 len cap] w fun e w' => e = .returned (.bool true) ∧ Below w.heap.size w w' := by
  obtain ⟨l, hl, hB, hcap, hcm⟩ := hz.bs
  have HAl := Lib.hid (fun W => alive8_any W)
  by_cases h3 : 300 < len
  · have q3 : decide ((300 : Int) < (len : Int)) = true := by simp; omega
    clear hz hB hl hcap hcm h3
    go_enter Try.func4, Try.ntmps4
    go_wp2_with fail
    refine (HAl.out _).mono ?_
    rintro e w2 ⟨rfl, hb2⟩
    go_wp2
    go_ret
    exact ⟨rfl, hb2⟩
  · have q3 : decide ((300 : Int) < (len : Int)) = false := by simp; omega
    have HH := Lib.hid (fun W => (head_any a0 a1 W).mono fun _ _ h => RetHd.one h)
    have HRH := Lib.hid (fun W => (rhead_any a0 a1 W).mono fun _ _ h => RetHd.one h)
    have HRd := Lib.hid (fun W (hb : Below w.heap.size w W) => ReadHead_any l a2 len cap W ((hB.below hb).mono hb.size) hl hcap hcm)
    have HRR := Lib.hid (fun W (hb : Below w.heap.size w W) => rReadHead_any l a2 len cap W ((hB.below hb).mono hb.size) hl hcap hcm)
    obtain ⟨kn, km, kb, hk⟩ := headV_one (readHeadL l)
    rw [hk] at HRd HRR
    have HN : Hid (∀ W : World, NoDisk W (.pointer none)) := fun _ => .inl rfl
    clear hz hB hl hcap hcm h3 hk
    generalize hdE a0 a1 = E at *
    generalize hdL a0 a1 = L at *
    go_enter Try.func4, Try.ntmps4
    go_wp2_with fail
    refine (HH.out _).mono ?_
    rintro e w1 ⟨x1, n1, k1, rfl, hX1, hn1, hb1⟩
    have HX1 := Lib.hid hX1
    have HL1 := Lib.hid hn1
    have HB1 := Lib.hid hb1
    clear hX1 hn1 hb1 HH
    go_wp2_with fail
    refine (HRH.out _).mono ?_
    rintro e w2 ⟨x2, n2, k2, rfl, hX2, hn2, hb2⟩
    have HX2 := Lib.hid hX2
    have HL2 := Lib.hid hn2
    have HB2 := Lib.hid (HB1.out.trans (hb2.mono HB1.out.size))
    have HX1' := Lib.hid ((HX1.out.below hb2).mono hb2.size)
    clear hX2 hn2 hb2 HRH HX1 HB1
    go_wp2_with fail
    refine (HRd.out _ HB2.out).mono ?_
    rintro e w3 ⟨rfl, hb3⟩
    have HB3 := Lib.hid (HB2.out.trans (hb3.mono HB2.out.size))
    have HX1 := Lib.hid ((HX1'.out.below hb3).mono hb3.size)
    have HX2' := Lib.hid ((HX2.out.below hb3).mono hb3.size)
    clear hb3 HRd HB2 HX1' HX2
    go_wp2_with fail
    refine (HRR.out _ HB3.out).mono ?_
    rintro e w4 ⟨rfl, hb4⟩
    have HB4 := Lib.hid (HB3.out.trans (hb4.mono HB3.out.size))
    have cv1 := ((HX1.out.below hb4).mono hb4.size).cv n1 k1 HL1.out
    have cv2 := ((HX2'.out.below hb4).mono hb4.size).cv n2 k2 HL2.out
    clear hb4 HRR HB3 HX1 HX2' HL1 HL2
    go_wp2_with fail
    refine (ReadPage_no (HN.out _) 0).mono ?_
    rintro e w' ⟨rfl, rfl⟩
    go_wp2_with fail
    refine (Load_no (HN.out _)).mono ?_
    rintro e w' ⟨rfl, rfl⟩
    go_wp2_with fail
    refine (Restore_no (HN.out _)).mono ?_
    rintro e w' ⟨rfl, rfl⟩
    go_wp2_with fail
    refine (HAl.out _).mono ?_
    rintro e w5 ⟨rfl, hb5⟩
    have HB5 := Lib.hid (HB4.out.trans (hb5.mono HB4.out.size))
    clear hb5 HB4 HAl cv1 cv2
    go_wp2_with fail
    refine (Save_no (HN.out _) _ _).mono ?_
    rintro e w' ⟨rfl, rfl⟩
    go_wp2_with fail
    refine (Clear_no (HN.out _)).mono ?_
    rintro e w' ⟨rfl, rfl⟩
    go_wp2_with fail
    refine (WritePage_no (HN.out _) _ _).mono ?_
    rintro e w' ⟨rfl, rfl⟩
    go_wp2
    go_ret
    exact ⟨rfl, HB5.out⟩
end Go.Proofs.Ytaekfnkhlgpmdaa
