/- Several texts of one proof, one behind the other. -/
import Derived.Test.YthfgjkmfabmipaaJQk12
import Derived.Deep.QuietTactic
import Derived.BigQuiet
set_option linter.unusedSimpArgs false
set_option linter.unusedVariables false

/- Journal: Restore. -/
set_option linter.unusedSimpArgs false
set_option linter.unusedVariables false
set_option maxRecDepth 100000
namespace Go.Proofs.Ythfgjkmfabmipaa
open Go.RowKit

def DS.backs (d : DS) : List (Nat × List Nat) → Nat × DS
  | [] => (0, d)
  | x :: r => thenD (d.backK x.1 x.2 4) fun d' => d'.backs r
theorem backs_app (M : List (Nat × List Nat)) : ∀ (L : List (Nat × List Nat)) (d : DS), d.backs (L ++ M) = thenD (d.backs L) fun d' => d'.backs M
  | [], d => by simp [DS.backs, thenD]
  | x :: r, d => by
    simp only [List.cons_append, DS.backs]
    by_cases h : (d.backK x.1 x.2 4).1 = 0
    · rw [thenD_ok h, thenD_ok h, backs_app M r]
    · rw [thenD_bad h, thenD_bad h, thenD_bad h]
theorem backs_stop {d d' : DS} {e k : Nat} {L : List (Nat × List Nat)} (h : d.backs (L.take k) = (e, d')) (he : e ≠ 0) : d.backs L = (e, d') := by
  rw [← List.take_append_drop k L, backs_app, h, thenD_bad he]
def DS.undo (d : DS) (L : List (Nat × List Nat)) : Nat × DS := thenD (d.backs L) fun d1 => thenD (d1.sync 0) fun d2 => d2.clear
def restoreR (d : DS) : Except Nat (Option (List (Nat × List Nat) × Nat)) → (Bool × Nat) × DS
  | .error n => ((false, n), d)
  | .ok none => ((false, 0), d)
  | .ok (some (L, _)) => ((decide ((d.undo L).1 = 0), (d.undo L).1), (d.undo L).2)
def DS.restore (d : DS) : (Bool × Nat) × DS := restoreR d d.load
def RetRs (w : World) (B : Nat) (S : List Nat) (r : (Bool × Nat) × DS) (e : Ending) (w' : World) : Prop :=
  e = .returned (.tuple #[.bool r.1.1, .int .i64 (r.1.2 : Int)]) ∧ ∃ S', IsDisk w' B S' r.2 ∧ Chg S w w' ∧ Frsh w S S'
theorem Way.rs {w W : World} {B : Nat} {S S' : List Nat} {d : DS} {t : Bool} {r : Nat} (h : Way w W B S S' d) : RetRs w B S ((t, r), d) (.returned (.tuple #[.bool t, .int .i64 (r : Int)])) W := ⟨rfl, S', h.disk, h.chg, h.frsh⟩

set_option maxRecDepth 100000 in
set_option maxHeartbeats 8000000 in
theorem Restore_any {w : World} {B : Nat} {S : List Nat} {d : DS} (h : IsDisk w B S d) (hr : d.room 20000) :
    Calls Try.prog 21 #[.pointer (some ⟨B, 0, none⟩)] w (RetRs w B S d.restore) := by
  have HLd := Lib.hid (Load_any h)
  have HW0 := Lib.hid (Way.new h)
  have HSl := Lib.hid h.lt
  have HRm := Lib.hid hr
  have HDf : Hid (d.restore = restoreR d d.load) := rfl
  obtain ⟨rl, hrl⟩ : ∃ rl, d.load = rl := ⟨_, rfl⟩
  rw [hrl] at HLd HDf
  clear h hr hrl
  go_enter Try.func21, Try.ntmps21
  go_wp2_with fail
  refine HLd.out.mono ?_
  rintro e w1 ⟨hb1, ⟨n, rfl, hn0, rfl⟩ | ⟨rfl, rfl⟩ | ⟨E, p, a, cap, rfl, hEl, rfl, hown, hgd⟩⟩
  · have HW1 := Lib.hid (HW0.out.below hb1)
    have q : ((n : Int) != 0) = true := by simp; omega
    have HE : Hid (d.restore = ((false, n), d)) := HDf.out
    clear hb1 hn0
    go_wp2
    go_ret2
    rw [HE.out]
    exact HW1.out.rs
  · have HW1 := Lib.hid (HW0.out.below hb1)
    have HE : Hid (d.restore = ((false, 0), d)) := HDf.out
    clear hb1
    go_wp2
    go_ret2
    rw [HE.out]
    exact HW1.out.rs (r := 0)
  · have HB1 := Lib.hid hb1
    have HW1 := Lib.hid (Way.new (HW0.out.below hb1).disk)
    have HDu : Hid (d.restore = ((decide ((d.undo (E.map enX)).1 = 0), (d.undo (E.map enX)).1), (d.undo (E.map enX)).2)) := HDf.out
    obtain ⟨a', c', hv, -, -, hA⟩ := own_slice hown
    injection hv with e1 e2 e3
    subst e1
    have HA := Lib.hid hA
    have HGd := Lib.hid hgd
    have HFar : Hid (∀ g, a = some g → g.block ∉ S) := fun g hg hm => by
      rcases hown.2 with ⟨h1, -⟩ | ⟨gg, cc, cur, h1, h2, -⟩
      · injection h1 with h1; rw [h1] at hg; cases hg
      · injection h1 with h1
        rw [h1] at hg; injection hg with hg; subst hg
        have := HSl.out _ hm
        simp only at this
        omega
    obtain ⟨n, hn⟩ : ∃ n, n = E.length := ⟨_, rfl⟩
    rw [← hn] at hEl ⊢
    have HN := Lib.hid hn
    clear hb1 hown hgd hA hn e2 e3 HDf HLd HW0
    go_wp2
    go_loopw [29] (fun i wr => ∃ (k : Nat) (dk : DS) (S' : List Nat), k ≤ n ∧ i = .int .i64 (k : Int) ∧ Hid (d.backs ((E.map enX).take k) = (0, dk)) ∧ Hid (Way w1 wr B S S' dk) ∧ Hid (dk.room (4 * (n - k) + 3))) (fun i _ => n - (intOf i).toNat)
    case atStart => exact ⟨0, d, S, by omega, rfl, rfl, HW1, HRm.out.mono (by omega)⟩
    case round =>
      clear HW1 HRm
      obtain ⟨k, dk, S', hk, rfl, HD, HW, HR⟩ := hrel
      by_cases hlt : k < n
      · have hkl : k < E.length := by have := HN.out; omega
        obtain ⟨b, o, rfl, hbN, c0, c1⟩ := enAt (HA.out.chgS (Nat.le_refl _) HW.out.chg HFar.out) hkl
        obtain ⟨g, x1, x2, x3, x4, x5, x6, x7, x8⟩ := HGd.out _ (List.getElem_mem hkl)
        have HNx : Hid (d.backs ((E.map enX).take (k + 1)) = dk.backK E[k].p.toNat E[k].l 4) := by
          show _ = _
          rw [List.take_succ_eq_append_getElem (by rw [List.length_map]; exact hkl), backs_app, HD.out, thenD_ok rfl, List.getElem_map]
          show thenD (dk.backK E[k].p.toNat E[k].l 4) (fun d' => (0, d')) = _
          by_cases h0 : (dk.backK E[k].p.toNat E[k].l 4).1 = 0
          · rw [thenD_ok h0, ← h0]
          · rw [thenD_bad h0]
        obtain ⟨y, hy⟩ : ∃ y, y = E[k] := ⟨_, rfl⟩
        rw [← hy] at c0 c1 x1 x2 x3 x5 x6 x7 x8 HNx
        obtain ⟨q, hq⟩ : ∃ q : Nat, y.p = q := ⟨y.p.toNat, by omega⟩
        rw [hq] at c0 x5 HNx
        rw [x1, x2, x3] at c1
        rw [Int.toNat_natCast] at HNx
        have hgS : g ∉ S := fun hm => by have := HSl.out _ hm; omega
        have HBs := Lib.hid (HW.out.bs (x8.bsA x7) (Nat.le_refl _) hgS)
        have HgS' : Hid (g ∉ S') := HW.out.far x8.lt hgS
        have HRp := Lib.hid (fun W (hb : Below wr.heap.size wr W) => restorePage_any (HW.out.below hb).disk q (by omega) y.l g (((HBs.out.mono HW.out.chg.size).below hb).mono hb.size) x6 HgS'.out (HR.out.mono (by omega)))
        have HRn := Lib.hid (backK_room (p := q) (l := y.l) (k := 4) (n := 4 * (n - (k + 1)) + 3) (d := dk) (HR.out.mono (by omega)))
        obtain ⟨⟨e1, d1⟩, he1⟩ : ∃ r, dk.backK q y.l 4 = r := ⟨_, rfl⟩
        rw [he1] at HRp HRn HNx
        have HAl : Hid (Below wr.heap.size wr (wr.alloc (.cells #[.int .i64 (q : Int), .slice (some ⟨g, 0, none⟩) 512 512] 63))) := (Below.refl _ _).alloc (Nat.le_refl _) _
        clear hy he1 hbN x1 x2 x3 x4 x5 x6 x7 x8 hq hgS HBs HgS'
        go_wp2_with fail
        refine (HRp.out _ HAl.out).mono ?_
        rintro e w4 ⟨rfl, S4, hD4, hc4, hf4⟩
        have HW4 := Lib.hid ((HW.out.below HAl.out).step hD4 hc4 hf4)
        clear hD4 hc4 hf4 HRp HW HAl c0 c1
        by_cases h0 : e1 = 0
        · subst h0
          go_wp2
          go_roundw
          case rel => exact ⟨k + 1, d1, S4, by omega, by go_num, HNx, HW4, HRn⟩
          case measure => simp [intOf]; omega
        · have q1 : ((e1 : Int) != 0) = true := by simp; omega
          have HE : Hid (d.restore = ((false, e1), d1)) := by
            show _ = _
            rw [HDu.out]
            unfold DS.undo
            rw [backs_stop HNx.out h0, thenD_bad h0]
            simp [h0]
          clear h0 HNx
          go_wp2
          (try rw [Exit.noGoto_ret])
          go_ret2
          rw [HE.out]
          exact (HW4.out.back HB1.out).rs
      · have hke : k = n := by omega
        subst hke
        have hD : d.backs (E.map enX) = (0, dk) := by have := HD.out; rwa [List.take_of_length_le (by rw [List.length_map]; have := HN.out; omega)] at this
        have HS1 : Hid (d.undo (E.map enX) = thenD (dk.sync 0) fun d2 => d2.clear) := by show _ = _; unfold DS.undo; rw [hD, thenD_ok rfl]
        have HSy := Lib.hid (DSync HW.out.disk 0 (by have := HR.out.1; omega))
        have HR2 := Lib.hid (sync_room 0 (n := 2) (HR.out.mono (by omega)))
        obtain ⟨⟨e2, d2⟩, he2⟩ : ∃ r, dk.sync 0 = r := ⟨_, rfl⟩
        rw [he2] at HSy HS1 HR2
        clear hD he2 HD
        go_wp2_with fail
        refine HSy.out.mono ?_
        rintro e w4 ⟨rfl, S4, hD4, hc4, hf4⟩
        have HW4 := Lib.hid (HW.out.step hD4 hc4 hf4)
        clear hD4 hc4 hf4 HSy HW
        by_cases h0 : e2 = 0
        · subst h0
          have HS2 : Hid (d.undo (E.map enX) = d2.clear) := HS1.out
          have HCl := Lib.hid (Clear_any HW4.out.disk HR2.out)
          obtain ⟨⟨e3, d3⟩, he3⟩ : ∃ r, d2.clear = r := ⟨_, rfl⟩
          have HS3 : Hid (d2.clear = (e3, d3)) := he3
          rw [HS3.out] at HCl
          clear he3 HS1
          go_wp2_with fail
          refine HCl.out.mono ?_
          rintro e w5 ⟨rfl, S5, hD5, hc5, hf5⟩
          have HW5 := Lib.hid (HW4.out.step hD5 hc5 hf5)
          clear hD5 hc5 hf5 HCl
          by_cases h3 : e3 = 0
          · subst h3
            have HE : Hid (d.restore = ((true, 0), d3)) := by
              show _ = _
              rw [HDu.out, HS2.out, HS3.out]; rfl
            go_wp2
            (try rw [Exit.noGoto_ret])
            go_ret2
            rw [HE.out]
            exact (HW5.out.back HB1.out).rs (r := 0)
          · have q1 : ((e3 : Int) != 0) = true := by simp; omega
            have HE : Hid (d.restore = ((false, e3), d3)) := by
              show _ = _
              rw [HDu.out, HS2.out, HS3.out]
              simp [h3]
            clear h3
            go_wp2
            (try rw [Exit.noGoto_ret])
            go_ret2
            rw [HE.out]
            exact (HW5.out.back HB1.out).rs
        · have q1 : ((e2 : Int) != 0) = true := by simp; omega
          have HE : Hid (d.restore = ((false, e2), d2)) := by
            show _ = _
            rw [HDu.out, HS1.out, thenD_bad h0]
            simp [h0]
          clear HS1 h0
          go_wp2
          (try rw [Exit.noGoto_ret])
          go_ret2
          rw [HE.out]
          exact (HW4.out.back HB1.out).rs
end Go.Proofs.Ythfgjkmfabmipaa

/- Journal: what the fixed calls of the law's alive come to; Page. -/
set_option linter.unusedSimpArgs false
set_option linter.unusedVariables false
set_option maxRecDepth 100000
namespace Go.Proofs.Ythfgjkmfabmipaa
open Go.RowKit

def rep (c : Nat) : List Nat := List.replicate 512 c
def al8r : Nat × DS := (DS.new 100).save [⟨2, none, 512, 512, rep 7⟩] 3
def al8d2 : DS := (al8r.2.writePage 2 (rep 9)).2
theorem al8_1 : al8r.1 = 0 := by kernel_rfl
theorem al8_2 : al8r.2.load = .ok (some ([(2, rep 7)], 3)) := by kernel_rfl
theorem al8_3 : al8d2.restore.1 = (true, 0) := by kernel_rfl
theorem al8_4 : al8d2.restore.2.readPage 2 = .ok (rep 7) := by kernel_rfl
theorem al8_5 : al8d2.restore.2.load = .ok none := by kernel_rfl
end Go.Proofs.Ythfgjkmfabmipaa

/- Journal: Page, calls of no disk, the walk of hindsightlaw08.alive. -/
set_option linter.unusedSimpArgs false
set_option linter.unusedVariables false
set_option maxRecDepth 100000
namespace Go.Proofs.Ythfgjkmfabmipaa
open Go.RowKit

/-- A call hands back a page that it made. -/
def RetPage (w : World) (c : Nat) (e : Ending) (w' : World) : Prop :=
  ∃ g, e = .returned (.slice (some ⟨g, 0, none⟩) 512 512) ∧ w.heap.size ≤ g ∧ Below w.heap.size w w' ∧ Blk w' g 5 (cellsA (rep c))
set_option maxRecDepth 100000 in
set_option maxHeartbeats 4000000 in
theorem Page_any (c : Nat) (hc : c < 256) (w : World) : Calls Try.prog 26 #[.int .u8 (c : Int)] w (RetPage w c) := by
  obtain ⟨w0, hw0⟩ : ∃ w0, w.alloc (.cells (fillA 512 c 0) 5) = w0 := ⟨_, rfl⟩
  have hmk : (Instr.makeSlice 30 (.int .i64 512) (.int .i64 512)).run Try.prog w = .ok (.slice (some ⟨w.heap.size, 0, none⟩) 512 512) w0 := by
    rw [make512 w, ← hw0]
    have e : fillA 512 c 0 = cellsA (zs 512) := by simp [fillA, cellsA, cellsU, zs]
    rw [e]
  have hB0 : Blk w0 w.heap.size 5 (fillA 512 c 0) := by rw [← hw0]; exact Blk.new _ _ _
  have hb0 : Below w.heap.size w w0 := by rw [← hw0]; exact (Below.refl _ _).alloc (Nat.le_refl _) _
  have HB0 := Lib.hid hB0
  have Hb0 := Lib.hid hb0
  clear hw0 hB0 hb0
  go_enter Try.func26, Try.ntmps26
  go_wp2
  clear hmk
  go_loopw [4] (fun iv wr => ∃ i : Nat, i ≤ 512 ∧ iv = .int .i64 (i : Int) ∧ Hid (Blk wr w.heap.size 5 (fillA 512 c i)) ∧ Hid (Below w.heap.size w wr)) (fun iv _ => 512 - (intOf iv).toNat)
  case atStart => exact ⟨0, by omega, rfl, HB0, Hb0⟩
  case round =>
    clear HB0 Hb0
    obtain ⟨i, hi, rfl, HB, Hb⟩ := hrel
    by_cases hlt : i < 512
    · have e1 := (HB.out.cell i).trans (fillA_get hlt)
      have e2 := HB.out.frozen i
      have e3 := HB.out.lt
      have HN := HB.out.set_ i (.int .u8 (c : Int))
      rw [fillA_set hlt] at HN
      have HN := Lib.hid HN
      have HBN : Hid (Below w.heap.size w (wr.setCell ⟨w.heap.size, i, none⟩ (.int .u8 (c : Int)))) := Hb.out.setCell (Nat.le_refl _) _
      go_wp2
      go_roundw
      case rel => exact ⟨i + 1, by omega, by go_num, HN, HBN⟩
      case measure => simp [intOf]; omega
    · obtain rfl : i = 512 := by omega
      have HK : Hid (Blk wr w.heap.size 5 (cellsA (rep c))) := by
        have := HB.out
        rw [fillA_full] at this
        exact this
      go_wp2
      go_ret
      exact ⟨_, rfl, Nat.le_refl _, Hb.out, HK.out⟩

/-! Calls of no disk -/
theorem ReadPage_no {w : World} {v : Value} (h : NoDisk w v) (p : Int) : Calls Try.prog 19 #[v, .int .i64 p] w fun e w' => e = .returned (.tuple #[.slice none 0 0, .int .i64 6]) ∧ w' = w := by
  have HM := Lib.hid (isDisk_no h)
  clear h
  go_enter Try.func19, Try.ntmps19
  go_wp2_with (refine HM.out.mono ?_; rintro e w' ⟨rfl, rfl⟩)
  go_ret2
  exact ⟨rfl, rfl⟩
theorem Save_no {w : World} {v : Value} (h : NoDisk w v) (x : Value) (p : Int) : Calls Try.prog 22 #[v, x, .int .i64 p] w fun e w' => e = .returned (.int .i64 6) ∧ w' = w := by
  have HM := Lib.hid (isDisk_no h)
  clear h
  go_enter Try.func22, Try.ntmps22
  go_wp2_with (refine HM.out.mono ?_; rintro e w' ⟨rfl, rfl⟩)
  go_ret
  exact ⟨rfl, rfl⟩
theorem Clear_no {w : World} {v : Value} (h : NoDisk w v) : Calls Try.prog 23 #[v] w fun e w' => e = .returned (.int .i64 6) ∧ w' = w := by
  have HM := Lib.hid (isDisk_no h)
  clear h
  go_enter Try.func23, Try.ntmps23
  go_wp2_with (refine HM.out.mono ?_; rintro e w' ⟨rfl, rfl⟩)
  go_ret
  exact ⟨rfl, rfl⟩
theorem WritePage_no {w : World} {v : Value} (h : NoDisk w v) (p : Int) (x : Value) : Calls Try.prog 24 #[v, .int .i64 p, x] w fun e w' => e = .returned (.int .i64 6) ∧ w' = w := by
  have HM := Lib.hid (isDisk_no h)
  clear h
  go_enter Try.func24, Try.ntmps24
  go_wp2_with (refine HM.out.mono ?_; rintro e w' ⟨rfl, rfl⟩)
  go_ret
  exact ⟨rfl, rfl⟩
theorem Load_no {w : World} {v : Value} (h : NoDisk w v) : Calls Try.prog 20 #[v] w fun e w' => e = .returned (.tuple #[.slice none 0 0, .int .i64 0, .bool false, .int .i64 6]) ∧ w' = w := by
  have HM := Lib.hid (Read_no h 1 0)
  clear h
  go_enter Try.func20, Try.ntmps20
  go_wp2_with (refine HM.out.mono ?_; rintro e w' ⟨rfl, rfl⟩)
  (try simp only [Exit.inBlock, Exit.then])
  refine bodyPost_ret (results_tmp4 rfl _ _ _) rfl ?_
  exact ⟨rfl, rfl⟩
theorem Restore_no {w : World} {v : Value} (h : NoDisk w v) : Calls Try.prog 21 #[v] w fun e w' => e = .returned (.tuple #[.bool false, .int .i64 6]) ∧ w' = w := by
  have HM := Lib.hid (Load_no h)
  clear h
  go_enter Try.func21, Try.ntmps21
  go_wp2_with (refine HM.out.mono ?_; rintro e w' ⟨rfl, rfl⟩)
  go_ret2
  exact ⟨rfl, rfl⟩

theorem al8_save (a : Option Addr) : (DS.new 100).save [⟨2, a, 512, 512, rep 7⟩] 3 = al8r := by
  unfold al8r DS.save
  simp only [List.all_cons, List.all_nil, En.ok, List.flatMap_cons, List.flatMap_nil, En.secs, List.length_cons, List.length_nil]
theorem al8_room : al8r.2.room 4 ∧ al8d2.room 20000 ∧ (DS.new 100).room 8 := by
  refine ⟨⟨?_, ?_⟩, ⟨?_, ?_⟩, ?_, ?_⟩ <;> exact of_decide_eq_true (by kernel_rfl)
theorem OwnD.of_retI {w0 w w' : World} {B : Nat} {S : List Nat} {r : Nat × DS} {e : Ending} (h1 : Below w0.heap.size w0 w) (h3 : ∀ k ∈ S, w0.heap.size ≤ k) (h : RetI w B S r e w') : e = .returned (.int .i64 (r.1 : Int)) ∧ OwnD w0 w' B r.2 := by
  obtain ⟨he, S', hI, hc, hf⟩ := h
  refine ⟨he, h1.trans (hc.below h1.size h3), S', hI, fun k hk => ?_⟩
  rcases hf k hk with h | h
  · exact h3 k h
  · exact Nat.le_trans h1.size h
theorem OwnD.of_retRs {w0 w w' : World} {B : Nat} {S : List Nat} {r : (Bool × Nat) × DS} {e : Ending} (h1 : Below w0.heap.size w0 w) (h3 : ∀ k ∈ S, w0.heap.size ≤ k) (h : RetRs w B S r e w') : e = .returned (.tuple #[.bool r.1.1, .int .i64 (r.1.2 : Int)]) ∧ OwnD w0 w' B r.2 := by
  obtain ⟨he, S', hI, hc, hf⟩ := h
  refine ⟨he, h1.trans (hc.below h1.size h3), S', hI, fun k hk => ?_⟩
  rcases hf k hk with h | h
  · exact h3 k h
  · exact Nat.le_trans h1.size h

set_option maxRecDepth 100000 in
set_option maxHeartbeats 8000000 in
theorem alive8_any (w : World) : Calls Try.prog 9 #[] w fun e w' => e = .returned (.bool true) ∧ Below w.heap.size w w' := by
  have HN := Lib.hid (ONew 100 (by decide) w w (Below.refl _ _))
  have HP := Lib.hid (fun c (hc : c < 256) W => Page_any c hc W)
  go_enter Try.func9, Try.ntmps9
  go_wp2_with fail
  refine HN.out.mono ?_
  rintro e w1 ⟨B, rfl, h1⟩
  have H : Hid (OwnD w w1 B (DS.new 100)) := h1
  clear h1 HN
  go_wp2_with fail
  refine (HP.out 7 (by omega) w1).mono ?_
  rintro e w2 ⟨g2, rfl, hg2, b2, K2⟩
  obtain ⟨w3, hw3⟩ : ∃ w3, w2.alloc (.cells #[.int .i64 2, .slice (some ⟨g2, 0, none⟩) 512 512] 63) = w3 := ⟨_, rfl⟩
  have b3 : Below w2.heap.size w2 w3 := by rw [← hw3]; exact (Below.refl _ _).alloc (Nat.le_refl _) _
  have K3 := K2.keep b3
  have R3 : Arr w3.heap.size w3 (some ⟨w2.heap.size, 0, none⟩) (cellsE [⟨2, some ⟨g2, 0, none⟩, 512, 512, rep 7⟩]) := by
    refine .inr ⟨w2.heap.size, 0, rfl, by rw [← hw3]; simp, fun i v hi => ?_⟩
    rw [← hw3, Nat.zero_add, World.cell?_alloc_new]
    have e : cellsE [⟨2, some ⟨g2, 0, none⟩, 512, 512, rep 7⟩] = [.int .i64 2, .slice (some ⟨g2, 0, none⟩) 512 512] := rfl
    rw [e] at hi
    simpa using hi
  have b13 := b2.trans (b3.mono b2.size)
  have H3 := Lib.hid (H.out.below b13)
  obtain ⟨hb3, S3, hD3, hS3⟩ := H3.out
  have hSlt := (H.out.2.choose_spec.1).lt
  have HSv : Hid (Calls Try.prog 22 #[.pointer (some ⟨B, 0, none⟩), .slice (some ⟨w2.heap.size, 0, none⟩) 1 1, .int .i64 3] w3 fun e w' => e = .returned (.int .i64 (al8r.1 : Int)) ∧ OwnD w w' B al8r.2) := by
    obtain ⟨hb1, S, hD, hS⟩ := H.out
    have hlt := hD.lt
    have hDw : IsDisk w3 B S (DS.new 100) := hD.chg (T := []) (Below.chg0 b13 []) (by simp)
    have hcall := Save_any hDw [⟨2, some ⟨g2, 0, none⟩, 512, 512, rep 7⟩] (some ⟨w2.heap.size, 0, none⟩) 1 1 3 R3 rfl (by omega) (fun g hg => by
        injection hg with hg; subst hg
        exact ⟨fun hm => by have := hlt _ hm; have := b2.size; simp only at *; omega, by rw [← hw3]; simp⟩) (fun e he => by
        rw [List.mem_singleton.1 he]
        refine ⟨K3.bsA (by intro c hc; rw [List.eq_of_mem_replicate hc]; omega), by simp [rep], by simp, by simp, fun g hg => ?_⟩
        injection hg with hg; subst hg
        exact ⟨fun hm => by have := hlt _ hm; simp only at *; omega, K3.lt⟩) al8_room.2.2
    rw [al8_save] at hcall
    exact hcall.mono fun _ _ hh => OwnD.of_retI (hb1.trans (b13.mono hb1.size)) hS hh
  rw [al8_1] at HSv
  clear hD3 hS3 hSlt hb3 S3 R3 K3 K2 hg2 b2 b3 b13 H H3
  go_wp2_with fail
  refine HSv.out.mono ?_
  rintro e w4 ⟨rfl, h4⟩
  have H := Lib.hid h4
  clear h4 HSv hw3
  have HL1 : Hid (Calls Try.prog 20 #[.pointer (some ⟨B, 0, none⟩)] w4 (RetLd w4 (.ok (some ([(2, rep 7)], 3))))) := by
    obtain ⟨hb1, S, hD, hS⟩ := H.out
    have := Load_any hD
    rw [al8_2] at this
    exact this
  go_wp2_with fail
  refine HL1.out.mono ?_
  rintro e w5 ⟨hb5, ⟨n, hx, -⟩ | ⟨hx, -⟩ | ⟨E, p, a, cap, hx, hEl, rfl, -, -⟩⟩
  · cases hx
  · cases hx
  · injection hx with hx; injection hx with hx; injection hx with hx1 hx2
    subst hx2
    have hE1 : E.length = 1 := by have := congrArg List.length hx1; simpa using this.symm
    rw [hE1]
    replace H := Lib.hid (H.out.below hb5)
    clear hb5 HL1 hx1 hEl hE1
    go_wp2_with fail
    refine (HP.out 9 (by omega) w5).mono ?_
    rintro e w6 ⟨g6, rfl, hg6, b6, K6⟩
    have HWp : Hid (Calls Try.prog 24 #[.pointer (some ⟨B, 0, none⟩), .int .i64 2, .slice (some ⟨g6, 0, none⟩) 512 512] w6 fun e w' => (∃ n : Nat, e = .returned (.int .i64 (n : Int))) ∧ OwnD w w' B al8d2) := by
      obtain ⟨hb1, S, hD, hS⟩ := H.out
      have hlt := hD.lt
      have hDw : IsDisk w6 B S al8r.2 := hD.chg (T := []) (Below.chg0 b6 []) (by simp)
      exact (WritePage_any hDw 2 (rep 9) (some ⟨g6, 0, none⟩) 512 512 (K6.bsA (by intro c hc; rw [List.eq_of_mem_replicate hc]; omega)) (by simp [rep]) (by omega) (by omega) (fun g hg hm => by
        injection hg with hg; subst hg
        have := hlt _ hm; simp only at *; omega) al8_room.1).mono fun _ _ hh => by
          obtain ⟨h1, h2⟩ := OwnD.of_retI (hb1.trans (b6.mono hb1.size)) hS hh
          exact ⟨⟨_, h1⟩, h2⟩
    clear hg6 b6 K6 H
    go_wp2_with fail
    refine HWp.out.mono ?_
    rintro e w7 ⟨⟨nn, rfl⟩, h7⟩
    have H := Lib.hid h7
    clear h7 HWp
    have HRs : Hid (Calls Try.prog 21 #[.pointer (some ⟨B, 0, none⟩)] w7 fun e w' => e = .returned (.tuple #[.bool true, .int .i64 0]) ∧ OwnD w w' B al8d2.restore.2) := by
      obtain ⟨hb1, S, hD, hS⟩ := H.out
      refine (Restore_any hD al8_room.2.1).mono fun _ _ hh => ?_
      obtain ⟨h1, h2⟩ := OwnD.of_retRs hb1 hS hh
      rw [al8_3] at h1
      exact ⟨h1, h2⟩
    go_wp2_with fail
    refine HRs.out.mono ?_
    rintro e w8 ⟨rfl, h8⟩
    replace H := Lib.hid h8
    clear h8 HRs
    have HRp : Hid (Calls Try.prog 19 #[.pointer (some ⟨B, 0, none⟩), .int .i64 2] w8 (RetPg w8 (.ok (rep 7)))) := by
      obtain ⟨hb1, S, hD, hS⟩ := H.out
      have := ReadPage_any hD 2
      rw [al8_4] at this
      exact this
    go_wp2_with fail
    refine HRp.out.mono ?_
    rintro e w9 ⟨hb9, ⟨n, hx, -⟩ | ⟨l, g9, hx, rfl, hg9, hl9, hlt9, K9⟩⟩
    · cases hx
    · injection hx with hx
      subst hx
      replace H := Lib.hid (H.out.below hb9)
      have HK9 := Lib.hid K9
      clear hb9 hg9 hl9 hlt9 K9 HRp
      have HL2 : Hid (Calls Try.prog 20 #[.pointer (some ⟨B, 0, none⟩)] w9 (RetLd w9 (.ok none))) := by
        obtain ⟨hb1, S, hD, hS⟩ := H.out
        have := Load_any hD
        rw [al8_5] at this
        exact this
      go_wp2_with fail
      refine HL2.out.mono ?_
      rintro e w10 ⟨hb10, ⟨n, hx, -⟩ | ⟨hx, rfl⟩ | ⟨E, p, a, cap, hx, -⟩⟩
      · cases hx
      · have HBe := Lib.hid (H.out.below hb10).1
        have HK10 := Lib.hid (HK9.out.keep hb10)
        clear hb10 hx H HK9 HL2
        have hc7 : ∀ c ∈ rep 7, c < 256 := by intro c hc; rw [List.eq_of_mem_replicate hc]; omega
        have HB10 := Lib.hid (HK10.out.bsA hc7)
        have s1 : ∀ W, Later w10.drew W → (convert 30 9 (.slice (some ⟨g9, 0, none⟩) 512 512)).run Try.prog W = .ok (.string (strN (rep 7))) W := fun W hW => (HB10.out.below (Later.undrew hW)).str 512 512 (by simp [rep])
        go_wp2_with fail
        refine wp_region_ord [(0, true), (1, true), (2, true), (3, true), (4, true), (5, true), (6, true), (7, true), (8, true), (9, true), (10, true), (11, true), (12, true), (13, true), (14, true), (15, true), (16, true), (17, true), (18, true), (19, true), (20, true), (21, true), (22, true), (23, true), (24, true), (25, true), (26, true), (27, true), (28, true), (29, true), (30, true), (31, true), (32, false), (33, true), (34, true), (35, true), (36, true), (37, true), (38, true), (39, true), (40, true)] (by kernel_rfl) (by kernel_rfl) (by kernel_rfl) (by kernel_rfl) ?_
        repeat (first | (refine wpO_F (v := ?_) rfl (by rfl) (fun w' hL => ?_) ?_; rotate_left; (solve | (go_simp; with_reducible rfl) | go_simp); try simp only [Act.put, List.setIfInBounds_toArray, List.set_cons_zero, List.set_cons_succ]) | (refine wpO_G rfl (by rfl) ?_; try simp only [Act.put, List.setIfInBounds_toArray, List.set_cons_zero, List.set_cons_succ]))
        refine wpO_C rfl (by rfl) ?_
        go_simp
        refine (HP.out 7 (by omega) _).mono ?_
        rintro e w11 ⟨g11, rfl, hg11, b11, K11⟩
        refine ⟨b11, ?_⟩
        try simp only [Act.put, List.setIfInBounds_toArray, List.set_cons_zero, List.set_cons_succ]
        have HK11 := Lib.hid (K11.bsA hc7)
        have HB11 := Lib.hid (HBe.out.trans ((show Below w10.heap.size w10 w11 from Below.trans ((Below.refl _ _).drew) b11).mono HBe.out.size))
        clear hg11 b11 K11 s1
        have s2 : ∀ W, Later w11 W → (convert 30 9 (.slice (some ⟨g11, 0, none⟩) 512 512)).run Try.prog W = .ok (.string (strN (rep 7))) W := fun W hW => (HK11.out.below hW).str 512 512 (by simp [rep])
        repeat (first | (refine wpO_F (v := ?_) rfl (by rfl) (fun w' hL => ?_) ?_; rotate_left; (solve | (go_simp; with_reducible rfl) | go_simp); try simp only [Act.put, List.setIfInBounds_toArray, List.set_cons_zero, List.set_cons_succ]) | (refine wpO_G rfl (by rfl) ?_; try simp only [Act.put, List.setIfInBounds_toArray, List.set_cons_zero, List.set_cons_succ]))
        refine wpO_nil ?_
        go_wp2
        go_ret
        exact ⟨by first | rfl | simp, HB11.out⟩
      · cases hx
end Go.Proofs.Ythfgjkmfabmipaa

/- Journal: the reference's four, number, filled, Head. -/
set_option linter.unusedSimpArgs false
set_option linter.unusedVariables false
set_option maxRecDepth 100000
namespace Go.Proofs.Ythfgjkmfabmipaa
open Go.RowKit

theorem beL_four (n : Nat) : beL 4 n = [n / 16777216 % 256, n / 65536 % 256, n / 256 % 256, n % 256] := by simp [beL_cons, beL, Nat.div_div_eq_div_mul]
theorem headL_flat (c p : Nat) : headL c p = ([72, 83, 74, 49] ++ beL 4 c ++ beL 4 p) ++ zs 116 := by
  unfold headL
  rw [beL_four, beL_four]
  rfl
def fl (l : List Nat) : List Nat := l ++ zs (128 - l.length)
theorem fl_len {l : List Nat} (h : l.length ≤ 128) : (fl l).length = 128 := by unfold fl; rw [List.length_append, zs_len]; omega
theorem fl_at {l : List Nat} {i : Nat} (hi : i < l.length) (h : l.length ≤ 128) : (cellsA (fl (l.take i)))[i]? = some (.int .u8 0) := by
  have e : (l.take i).length = i := by rw [List.length_take]; omega
  unfold fl cellsA cellsU
  rw [e]
  simp only [List.getElem?_toArray, List.getElem?_map, List.getElem?_append_right (Nat.le_of_eq e), e, Nat.sub_self]
  rw [show 128 - i = (127 - i) + 1 by omega]
  rfl
theorem fl_set {l : List Nat} {i c : Nat} (hc : l[i]? = some c) (h : l.length ≤ 128) : (cellsA (fl (l.take i))).setIfInBounds i (.int .u8 (c : Int)) = cellsA (fl (l.take (i + 1))) := by
  have hi : i < l.length := by
    rcases Nat.lt_or_ge i l.length with h1 | h1
    · exact h1
    · rw [List.getElem?_eq_none h1] at hc; cases hc
  have e : (l.take i).length = i := by rw [List.length_take]; omega
  have e' : (l.take (i + 1)).length = i + 1 := by rw [List.length_take]; omega
  have hci : l[i] = c := by rw [List.getElem?_eq_getElem hi] at hc; injection hc
  unfold fl cellsA cellsU
  rw [e, e', show 128 - i = (128 - (i + 1)) + 1 by omega]
  simp only [List.setIfInBounds_toArray, List.map_append]
  rw [List.set_append_right _ _ (by rw [List.length_map, e]; omega), List.length_map, e, Nat.sub_self, List.take_succ_eq_append_getElem hi, hci]
  simp [zs, List.replicate_succ]
theorem fl_nil : cellsA (fl []) = cellsA (zs 128) := rfl

set_option maxRecDepth 100000 in
set_option maxHeartbeats 2000000 in
theorem four_any (n : Nat) (hn : n ≤ 4096) (w : World) : Calls Try.prog 44 #[.int .i64 (n : Int)] w fun e w' => e = .returned (.slice (some ⟨w.heap.size, 0, none⟩) 4 4) ∧ w' = w.alloc (.cells (cellsA (beL 4 n)) 5) := by
  have e4 : cellsA (beL 4 n) = #[.int .u8 ((n / 16777216 % 256 : Nat) : Int), .int .u8 ((n / 65536 % 256 : Nat) : Int), .int .u8 ((n / 256 % 256 : Nat) : Int), .int .u8 ((n % 256 : Nat) : Int)] := by
    rw [beL_four]; rfl
  go_enter Try.func44, Try.ntmps44
  go_wp2
  go_ret
  refine ⟨rfl, ?_⟩
  rw [e4]
  rfl

set_option maxRecDepth 100000 in
set_option maxHeartbeats 2000000 in
theorem number_any (l : List Nat) (b o cap N : Nat) (w : World) (hB : Bs N w (some ⟨b, o, none⟩) l) (hl : l.length = 4) :
    Calls Try.prog 48 #[.slice (some ⟨b, o, none⟩) 4 cap] w fun e w' => e = .returned (.int .i64 (valL l : Int)) ∧ Below w.heap.size w w' := by
  obtain ⟨c0, c1, c2, c3, rfl⟩ : ∃ c0 c1 c2 c3, l = [c0, c1, c2, c3] := by
    match l, hl with
    | [a, b, c, d], _ => exact ⟨a, b, c, d, rfl⟩
  have hv : valL [c0, c1, c2, c3] = 16777216 * c0 + 65536 * c1 + 256 * c2 + c3 := by unfold valL; simp only [List.foldl_cons, List.foldl_nil]; omega
  have h0 := hB.1 c0 (by simp)
  have h1 := hB.1 c1 (by simp)
  have h2 := hB.1 c2 (by simp)
  have h3 := hB.1 c3 (by simp)
  have hc : ∀ (i c : Nat), [c0, c1, c2, c3][i]? = some c → w.cell? ⟨b, o + i, none⟩ = some (.int .u8 (c : Int)) := by
    obtain ⟨b', o', he, -, hc⟩ := hB.2.resolve_left (by simp)
    injection he with he; injection he with e1 e2; subst e1 e2
    exact hc
  have k0 : w.cell? ⟨b, o, none⟩ = some (.int .u8 (c0 : Int)) := hc 0 c0 rfl
  have k1 : w.cell? ⟨b, o + 1, none⟩ = some (.int .u8 (c1 : Int)) := hc 1 c1 rfl
  have k2 : w.cell? ⟨b, o + 2, none⟩ = some (.int .u8 (c2 : Int)) := hc 2 c2 rfl
  have k3 : w.cell? ⟨b, o + 3, none⟩ = some (.int .u8 (c3 : Int)) := hc 3 c3 rfl
  rw [hv]
  clear hB hl hc hv
  go_enter Try.func48, Try.ntmps48
  go_wp2_with fail
  go_quiet (fail)
  go_wp2
  go_ret
  refine ⟨?_, ?_⟩
  · go_num
  · exact ⟨rfl, rfl, rfl, Nat.le_refl _, fun _ _ => rfl⟩
end Go.Proofs.Ythfgjkmfabmipaa

/- Journal: what a crash within Save leaves (mathematics of disks as values). -/
set_option linter.unusedSimpArgs false
set_option linter.unusedVariables false
set_option maxRecDepth 100000
namespace Go.Proofs.Ythfgjkmfabmipaa
open Go.RowKit

/-- A write that leaves the head and the pages alone. -/
def Wr.away (x : Wr) : Prop := x.f = 1 ∧ x.s ≠ 0
theorem wr_away {c : Cont} {x : Wr} (h : x.away) : (c.wr x).get 1 0 = c.get 1 0 ∧ (∀ s, (c.wr x).get 0 s = c.get 0 s) ∧ (c.wr x).len 0 = c.len 0 := by
  obtain ⟨h1, h2⟩ := h
  unfold Cont.wr Cont.put
  rw [h1]
  dsimp only
  exact ⟨if_neg (fun h => h2 h.2.symm), fun s => if_neg (fun (h : (0 : Nat) = 1 ∧ s = x.s) => by omega), if_neg (show ¬ (0 : Nat) = 1 by omega)⟩
theorem fold_away : ∀ {l : List Wr} {c : Cont}, (∀ x ∈ l, x.away) → (l.foldl Cont.wr c).get 1 0 = c.get 1 0 ∧ (∀ s, (l.foldl Cont.wr c).get 0 s = c.get 0 s) ∧ (l.foldl Cont.wr c).len 0 = c.len 0
  | [], _, _ => ⟨rfl, fun _ => rfl, rfl⟩
  | x :: l, c, h => by
    obtain ⟨a1, a2, a3⟩ := wr_away (c := c) (h x (by simp))
    obtain ⟨b1, b2, b3⟩ := fold_away (l := l) (c := c.wr x) (fun y hy => h y (by simp [hy]))
    exact ⟨b1.trans a1, fun s => (b2 s).trans (a2 s), b3.trans a3⟩

/-- The journal is not hot by what is sure; what waits leaves that and the pages alone. -/
structure Calm (d : DS) (c : Cont) : Prop where
  head : readHeadL ((d.dur.get 1 0).getD noughts) = none
  page : ∀ s, d.dur.get 0 s = c.get 0 s
  len : d.dur.len 0 = c.len 0
  pend : ∀ x ∈ d.pend, x.away
theorem Calm.same {d d' : DS} {c : Cont} (h : Calm d c) (h1 : d'.dur = d.dur) (h2 : ∀ x ∈ d'.pend, x.away) : Calm d' c :=
  ⟨by rw [h1]; exact h.head, by rw [h1]; exact h.page, by rw [h1]; exact h.len, h2⟩

theorem change_same (d : DS) : d.change.1.dur = d.dur ∧ d.change.1.pend = d.pend ∧ d.change.1.vis = d.vis := by
  unfold DS.change
  split <;> exact ⟨rfl, rfl, rfl⟩
/-- What a write does to what is sure and what waits. -/
theorem write_two (d : DS) (s : Nat) (b : List Nat) : (d.write 1 s b).2.dur = d.dur ∧ (((d.write 1 s b).1 = 0 ∧ (d.write 1 s b).2.pend = d.pend ++ [⟨1, s, b⟩]) ∨ ((d.write 1 s b).1 ≠ 0 ∧ (d.write 1 s b).2.pend = d.pend)) := by
  unfold DS.write
  split
  · exact ⟨rfl, .inr ⟨by simp, rfl⟩⟩
  · split
    · exact ⟨rfl, .inr ⟨by simp, rfl⟩⟩
    · split
      · exact ⟨rfl, .inr ⟨by simp, rfl⟩⟩
      · obtain ⟨c1, c2, -⟩ := change_same d
        split
        · rename_i d' he
          rw [he] at c1 c2
          exact ⟨c1, .inr ⟨by simp, c2⟩⟩
        · rename_i d' he
          rw [he] at c1 c2
          refine ⟨c1, .inl ⟨rfl, ?_⟩⟩
          show d'.pend ++ _ = _
          rw [c2]; rfl
theorem sync_two (d : DS) : ((d.sync 1).1 = 0 ∧ (d.sync 1).2.dur = (d.pend.filter fun x => x.f == 1).foldl Cont.wr d.dur ∧ (d.sync 1).2.pend = d.pend.filter fun x => x.f != 1) ∨ ((d.sync 1).1 ≠ 0 ∧ (d.sync 1).2.dur = d.dur ∧ (d.sync 1).2.pend = d.pend) := by
  unfold DS.sync
  split
  · exact .inr ⟨by simp, rfl, rfl⟩
  · split
    · exact .inr ⟨by simp, rfl, rfl⟩
    · obtain ⟨c1, c2, -⟩ := change_same d
      split
      · rename_i d' he
        rw [he] at c1 c2
        exact .inr ⟨by simp, c1, c2⟩
      · rename_i d' he
        rw [he] at c1 c2
        refine .inl ⟨rfl, ?_, ?_⟩
        · show (d'.pend.filter _).foldl _ d'.dur = _
          rw [c1, c2]; rfl
        · show d'.pend.filter _ = _
          rw [c2]; rfl

theorem Calm.write {d : DS} {c : Cont} (h : Calm d c) (s : Nat) (b : List Nat) (hs : s ≠ 0) : Calm (d.write 1 s b).2 c := by
  obtain ⟨h1, h2⟩ := write_two d s b
  refine h.same h1 ?_
  rcases h2 with ⟨-, h2⟩ | ⟨-, h2⟩
  · rw [h2]
    intro x hx
    rcases List.mem_append.1 hx with hx | hx
    · exact h.pend x hx
    · rw [List.mem_singleton.1 hx]; exact ⟨rfl, hs⟩
  · rw [h2]; exact h.pend
theorem Calm.writes {c : Cont} : ∀ (L : List (List Nat)) {d : DS} (at_ : Nat), Calm d c → at_ ≠ 0 → Calm (d.writes 1 at_ L).2 c
  | [], _, _, h, _ => h
  | b :: r, d, at_, h, ha => by
    simp only [DS.writes]
    have h1 := h.write at_ b ha
    by_cases h0 : (d.write 1 at_ b).1 = 0
    · rw [thenD_ok h0]; exact Calm.writes r _ h1 (by omega)
    · rw [thenD_bad h0]; exact h1
theorem Calm.sync {d : DS} {c : Cont} (h : Calm d c) : Calm (d.sync 1).2 c := by
  rcases sync_two d with ⟨-, h1, h2⟩ | ⟨-, h1, h2⟩
  · obtain ⟨a1, a2, a3⟩ := fold_away (l := d.pend.filter fun x => x.f == 1) (c := d.dur) (fun x hx => h.pend x (List.mem_filter.1 hx).1)
    refine ⟨by rw [h1, a1]; exact h.head, fun s => by rw [h1, a2]; exact h.page s, by rw [h1, a3]; exact h.len, ?_⟩
    rw [h2]
    exact fun x hx => h.pend x (List.mem_filter.1 hx).1
  · exact h.same h1 (by rw [h2]; exact h.pend)

/-- A disk that is up and shows what is sure: reading it. -/
theorem read_up {d : DS} (h : d.down = false) (f s : Nat) (hf : f < 2) : d.read f s = if d.vis.len f ≤ s then .error 4 else .ok ((d.vis.get f s).getD noughts) := by
  unfold DS.read
  rw [if_neg (by omega), h, if_neg (by simp)]
  simp only [Int.toNat_natCast]
  by_cases hl : d.vis.len f ≤ s
  · rw [if_pos (by omega), if_pos hl]
  · rw [if_neg (by omega), if_neg hl]
theorem load_none {d : DS} (h : d.down = false) (hh : readHeadL ((d.vis.get 1 0).getD noughts) = none) : d.load = .ok none := by
  unfold DS.load
  have := read_up h 1 0 (by omega)
  rw [show d.read 1 0 = d.read ((1 : Nat) : Int) ((0 : Nat) : Int) from rfl, this]
  split
  · rfl
  · show loadH d _ = _
    rw [hh]; rfl
/-- Behind a crash the journal is not hot, and the pages are what they were. -/
theorem Calm.crash {d : DS} {c : Cont} (h : Calm d c) (keep : List Nat) : (d.crash keep).load = .ok none ∧ (∀ s, (d.crash keep).vis.get 0 s = c.get 0 s) ∧ (d.crash keep).vis.len 0 = c.len 0 := by
  obtain ⟨a1, a2, a3⟩ := fold_away (l := keptOf keep d.pend 0) (c := d.dur) (fun x hx => h.pend x (kept_mem keep _ _ x hx))
  refine ⟨load_none rfl ?_, fun s => (a2 s).trans (h.page s), a3.trans h.len⟩
  show readHeadL ((((keptOf keep d.pend 0).foldl Cont.wr d.dur).get 1 0).getD noughts) = none
  rw [a1]; exact h.head

/-! What is written and made sure is read again. -/
/-- Writes of sectors one behind the other. -/
def wrs (at_ : Nat) : List (List Nat) → List Wr
  | [] => []
  | b :: r => ⟨1, at_, b⟩ :: wrs (at_ + 1) r
theorem wrs_one : ∀ (L : List (List Nat)) (at_ : Nat), ∀ x ∈ wrs at_ L, x.f = 1 ∧ at_ ≤ x.s
  | [], _, x, h => by cases h
  | b :: r, at_, x, h => by
    rcases List.mem_cons.1 h with rfl | h
    · exact ⟨rfl, Nat.le_refl _⟩
    · obtain ⟨h1, h2⟩ := wrs_one r (at_ + 1) x h
      exact ⟨h1, by omega⟩
theorem writes_two : ∀ (L : List (List Nat)) (d : DS) (at_ : Nat), (d.writes 1 at_ L).2.dur = d.dur ∧ ((d.writes 1 at_ L).1 = 0 → (d.writes 1 at_ L).2.pend = d.pend ++ wrs at_ L)
  | [], d, at_ => ⟨rfl, fun _ => by show d.pend = d.pend ++ []; rw [List.append_nil]⟩
  | b :: r, d, at_ => by
    simp only [DS.writes]
    obtain ⟨h1, h2⟩ := write_two d at_ b
    rcases h2 with ⟨h0, h2⟩ | ⟨h0, h2⟩
    · rw [thenD_ok h0]
      obtain ⟨k1, k2⟩ := writes_two r (d.write 1 at_ b).2 (at_ + 1)
      refine ⟨k1.trans h1, fun hz => ?_⟩
      rw [k2 hz, h2, List.append_assoc]; rfl
    · rw [thenD_bad h0]
      exact ⟨h1, fun hz => absurd hz h0⟩
theorem wrs_get : ∀ (L : List (List Nat)) (at_ : Nat) (c : Cont), (∀ (i : Nat) b, L[i]? = some b → ((wrs at_ L).foldl Cont.wr c).get 1 (at_ + i) = some b) ∧ (∀ s, s < at_ → ((wrs at_ L).foldl Cont.wr c).get 1 s = c.get 1 s) ∧ at_ + L.length ≤ max (((wrs at_ L).foldl Cont.wr c).len 1) at_ ∧ c.len 1 ≤ ((wrs at_ L).foldl Cont.wr c).len 1
  | [], at_, c => ⟨fun i b h => by simp at h, fun _ _ => rfl, by simp; omega, Nat.le_refl _⟩
  | b :: r, at_, c => by
    obtain ⟨h1, h2, h3, h4⟩ := wrs_get r (at_ + 1) (c.wr ⟨1, at_, b⟩)
    have hl : (c.wr ⟨1, at_, b⟩).len 1 = max (c.len 1) (at_ + 1) := by
      show (if (1 : Nat) = 1 then max (c.len 1) (at_ + 1) else c.len 1) = _
      exact if_pos rfl
    refine ⟨fun i x hx => ?_, fun s hs => ?_, ?_, ?_⟩
    · cases i with
      | zero =>
        have e : b = x := by simpa using hx
        rw [← e]
        refine (h2 at_ (by omega)).trans ?_
        exact if_pos ⟨rfl, rfl⟩
      | succ i =>
        have := h1 i x (by simpa using hx)
        rw [show at_ + (i + 1) = at_ + 1 + i by omega]
        exact this
    · refine (h2 s (by omega)).trans ?_
      exact if_neg (fun h => by have := h.2; simp only at this; omega)
    · show _ ≤ max (((wrs (at_ + 1) r).foldl Cont.wr (c.wr ⟨1, at_, b⟩)).len 1) at_
      rw [List.length_cons]
      rw [hl] at h4
      omega
    · show _ ≤ ((wrs (at_ + 1) r).foldl Cont.wr (c.wr ⟨1, at_, b⟩)).len 1
      rw [hl] at h4
      omega

theorem beL4_lt (n : Nat) (h : n < 4294967296) : valL (beL 4 n) = n := by
  rw [valL_beL]
  exact Nat.mod_eq_of_lt (by simpa using h)
theorem headL_four (c p : Nat) : ((headL c p).drop 4).take 4 = beL 4 c ∧ ((headL c p).drop 8).take 4 = beL 4 p := by
  rw [headL_flat, beL_four, beL_four]
  exact ⟨rfl, rfl⟩
theorem readHead_back {c p : Nat} (hc : c ≤ 4096) (hp : p ≤ 4096) : readHeadL (headL c p) = some (c, p) := by
  unfold readHeadL
  obtain ⟨h1, h2⟩ := headL_four c p
  rw [h1, h2, beL4_lt c (by omega), beL4_lt p (by omega)]
  exact if_pos ⟨headL_len c p, hc, hp, rfl⟩
theorem titleL_four (p : Nat) : (titleL p).take 4 = beL 4 p := by
  unfold titleL
  rw [beL_four]
  rfl
theorem readTitle_back {p : Nat} (hp : p < 4096) : readTitleL (titleL p) = (p, true) := by
  unfold readTitleL
  rw [titleL_four, beL4_lt p (by omega)]
  exact if_pos ⟨hp, rfl⟩
theorem secs_join (l : List Nat) (h : l.length = 512) : sec l 0 ++ sec l 1 ++ sec l 2 ++ sec l 3 = l := by
  unfold sec
  apply List.ext_getElem
  · simp; omega
  · intro i h1 h2
    simp only [List.getElem_append, List.getElem_take, List.getElem_drop, List.length_append, List.length_take, List.length_drop]
    repeat' split
    all_goals (congr 1; omega)
theorem entry_up {d : DS} (h : d.down = false) (i : Nat) (e : En) (hp : 0 ≤ e.p ∧ e.p < 4096) (hl : e.l.length = 512) (hn : 1 + 5 * i + 5 ≤ d.vis.len 1) (hs : ∀ (j : Nat) b, e.secs[j]? = some b → d.vis.get 1 (1 + 5 * i + j) = some b) : d.entry i = .ok (enX e) := by
  have rd : ∀ (j : Nat) b, e.secs[j]? = some b → j < 5 → d.read 1 ((1 + 5 * i + j : Nat) : Int) = .ok b := fun j b hb hj => by
    have := read_up h 1 (1 + 5 * i + j) (by omega)
    rw [if_neg (by omega), hs j b hb] at this
    exact this
  have r0 := rd 0 (titleL e.p.toNat) rfl (by omega)
  have r1 := rd 1 (sec e.l 0) rfl (by omega)
  have r2 := rd 2 (sec e.l 1) rfl (by omega)
  have r3 := rd 3 (sec e.l 2) rfl (by omega)
  have r4 := rd 4 (sec e.l 3) rfl (by omega)
  have hr : d.rdSecs 1 (1 + 5 * i + 1) 4 = .ok (e.l, true) := by
    simp only [DS.rdSecs, Nat.add_assoc] at r1 r2 r3 r4 ⊢
    simp only [Nat.add_zero, r1, r2, r3, r4]
    rw [List.nil_append, secs_join e.l hl]
  unfold DS.entry
  rw [hr]
  have r0' : d.read 1 ((1 + 5 * i : Nat) : Int) = .ok (titleL e.p.toNat) := r0
  rw [r0']
  show entT _ (readTitleL (titleL e.p.toNat)) = _
  rw [readTitle_back (by omega)]
  rfl
theorem flat_get : ∀ (L : List En) (i j : Nat) (e : En) (b : List Nat), L[i]? = some e → e.secs[j]? = some b → (L.flatMap En.secs)[5 * i + j]? = some b
  | [], i, j, e, b, h, _ => by simp at h
  | x :: r, 0, j, e, b, h, hb => by
    have hx : x = e := by simpa using h
    subst hx
    have hj : j < x.secs.length := by
      rcases Nat.lt_or_ge j x.secs.length with h1 | h1
      · exact h1
      · rw [List.getElem?_eq_none h1] at hb; cases hb
    rw [List.flatMap_cons, List.getElem?_append_left (by omega)]
    simpa using hb
  | x :: r, i + 1, j, e, b, h, hb => by
    rw [List.flatMap_cons, List.getElem?_append_right (by rw [secs_len5]; omega), secs_len5]
    have := flat_get r i j e b (by simpa using h) hb
    rw [show 5 * (i + 1) + j - 5 = 5 * i + j by omega]
    exact this
theorem load_up {d : DS} (h : d.down = false) (L : List En) (p : Nat) (hc : L.length ≤ 4096) (hp : p ≤ 4096) (hE : ∀ e ∈ L, (0 ≤ e.p ∧ e.p < 4096) ∧ e.l.length = 512) (h0 : d.vis.get 1 0 = some (headL L.length p)) (hn : 1 + 5 * L.length ≤ d.vis.len 1)
    (hs : ∀ (k : Nat) b, (L.flatMap En.secs)[k]? = some b → d.vis.get 1 (1 + k) = some b) : d.load = .ok (some (L.map enX, p)) := by
  have he : ∀ k, k ≤ L.length → d.entries k = .ok ((L.take k).map enX) := fun k => by
    induction k with
    | zero => intro _; rfl
    | succ k ih =>
      intro hk
      have hi : L[k]? = some L[k] := List.getElem?_eq_getElem (by omega)
      have hm : L[k] ∈ L := List.getElem_mem _
      have := entry_up h k L[k] (hE _ hm).1 (hE _ hm).2 (by omega) (fun j b hb => by
        rw [Nat.add_assoc]
        exact hs _ b (flat_get L k j _ b hi hb))
      simp only [DS.entries, ih (by omega), this]
      rw [List.take_add_one, hi, List.map_append]; rfl
  unfold DS.load
  have := read_up h 1 0 (by omega)
  rw [show d.read 1 0 = d.read ((1 : Nat) : Int) ((0 : Nat) : Int) from rfl, this, if_neg (by omega), h0]
  show loadH d (readHeadL (headL L.length p)) = _
  rw [readHead_back hc hp]
  show loadE p (d.entries L.length) = _
  rw [he _ (Nat.le_refl _), List.take_of_length_le (Nat.le_refl _)]
  rfl
end Go.Proofs.Ythfgjkmfabmipaa

/- Journal: a crash within Save: all or nothing (mathematics of disks as values). -/
set_option linter.unusedSimpArgs false
set_option linter.unusedVariables false
set_option maxRecDepth 100000
namespace Go.Proofs.Ythfgjkmfabmipaa
open Go.RowKit

theorem wrs_all (at_ : Nat) (F : List (List Nat)) : (wrs at_ F).filter (fun x => x.f == 1) = wrs at_ F ∧ (wrs at_ F).filter (fun x => x.f != 1) = [] := by
  refine ⟨List.filter_eq_self.2 fun x hx => ?_, List.filter_eq_nil_iff.2 fun x hx => ?_⟩
  · rw [(wrs_one F at_ x hx).1]; rfl
  · rw [(wrs_one F at_ x hx).1]; simp
/-- A disk that shows the entries and, above them, a head. -/
theorem hot_of {e : DS} {c0 : Cont} {c : Cont} (L : List En) (p : Nat) (hdn : e.down = false) (hc : L.length ≤ 4096) (hp : p ≤ 4096) (hE : ∀ x ∈ L, (0 ≤ x.p ∧ x.p < 4096) ∧ x.l.length = 512)
    (h2 : ∀ s, ((wrs 1 (L.flatMap En.secs)).foldl Cont.wr c0).get 0 s = c.get 0 s) (h3 : ((wrs 1 (L.flatMap En.secs)).foldl Cont.wr c0).len 0 = c.len 0)
    (hv : e.vis = ((wrs 1 (L.flatMap En.secs)).foldl Cont.wr c0).wr ⟨1, 0, headL L.length p⟩) : e.load = .ok (some (L.map enX, p)) ∧ (∀ s, e.vis.get 0 s = c.get 0 s) ∧ e.vis.len 0 = c.len 0 := by
  obtain ⟨g1, -, g3, -⟩ := wrs_get (L.flatMap En.secs) 1 c0
  generalize (wrs 1 (L.flatMap En.secs)).foldl Cont.wr c0 = k at *
  have kl : e.vis.len 1 = max (k.len 1) 1 := by
    rw [hv]
    show (if (1 : Nat) = 1 then max (k.len 1) (0 + 1) else k.len 1) = _
    exact if_pos rfl
  refine ⟨load_up hdn L p hc hp hE ?_ ?_ ?_, fun s => ?_, ?_⟩
  · rw [hv]
    show (if (1 : Nat) = 1 ∧ 0 = 0 then some (headL L.length p) else k.get 1 0) = _
    rw [if_pos ⟨rfl, rfl⟩]
  · rw [flat5] at g3
    rw [kl]; omega
  · intro i b hb
    rw [hv]
    show (if (1 : Nat) = 1 ∧ 1 + i = 0 then some (headL L.length p) else k.get 1 (1 + i)) = _
    rw [if_neg (by omega)]
    exact g1 i b hb
  · rw [hv]
    show (if (0 : Nat) = 1 ∧ s = 0 then some (headL L.length p) else k.get 0 s) = _
    rw [if_neg (by omega)]
    exact h2 s
  · rw [hv]
    show (if (0 : Nat) = 1 then max (k.len 0) (0 + 1) else k.len 0) = _
    rw [if_neg (by omega)]
    exact h3

/-- However it crashes within Save, the journal is hot with all entries, or not hot. -/
theorem save_crash {d : DS} {c : Cont} (h : Calm d c) (hp0 : d.pend = []) (L : List En) (p : Nat) (keep : List Nat) (hc : L.length ≤ 4096) (hp : p ≤ 4096) (hok : L.all En.ok = true) (hE : ∀ x ∈ L, (0 ≤ x.p ∧ x.p < 4096) ∧ x.l.length = 512) :
    (((d.save L p).1 ≠ 0 ∧ ((d.save L p).2.crash keep).load = .ok none) ∨ ((d.save L p).2.crash keep).load = .ok (some (L.map enX, p))) ∧
      (∀ s, ((d.save L p).2.crash keep).vis.get 0 s = c.get 0 s) ∧ ((d.save L p).2.crash keep).vis.len 0 = c.len 0 := by
  have hcn : (cntB (L.length : Int) && cntB (p : Int)) = true := by unfold cntB; simp; omega
  have hs : d.save L p = thenD (d.writes 1 1 (L.flatMap En.secs)) fun d1 => thenD (d1.sync 1) fun d2 => d2.hseal (headL L.length p) := by
    unfold DS.save
    rw [if_pos ⟨hcn, hok⟩]
    rfl
  have calm : ∀ (r : Nat × DS), r.1 ≠ 0 → Calm r.2 c → ((r.1 ≠ 0 ∧ (r.2.crash keep).load = .ok none) ∨ (r.2.crash keep).load = .ok (some (L.map enX, p))) ∧ (∀ s, (r.2.crash keep).vis.get 0 s = c.get 0 s) ∧ (r.2.crash keep).vis.len 0 = c.len 0 := fun r h0 hr => by
    obtain ⟨a1, a2, a3⟩ := hr.crash keep
    exact ⟨.inl ⟨h0, a1⟩, a2, a3⟩
  rw [hs]
  obtain ⟨w1, w2⟩ := writes_two (L.flatMap En.secs) d 1
  have c1 := Calm.writes (L.flatMap En.secs) 1 h (by omega)
  by_cases h0 : (d.writes 1 1 (L.flatMap En.secs)).1 = 0
  · rw [thenD_ok h0]
    have p1 := w2 h0
    rw [hp0, List.nil_append] at p1
    generalize (d.writes 1 1 (L.flatMap En.secs)).2 = d1 at *
    have c2 := c1.sync
    rcases sync_two d1 with ⟨s0, s1, s2⟩ | ⟨s0, s1, s2⟩
    · rw [thenD_ok s0]
      rw [p1, (wrs_all _ _).1, w1] at s1
      rw [p1, (wrs_all _ _).2] at s2
      generalize (d1.sync 1).2 = d2 at *
      have k2 := c2.page
      have k3 := c2.len
      rw [s1] at k2 k3
      unfold DS.hseal
      obtain ⟨e1, e2⟩ := write_two d2 0 (headL L.length p)
      have e2 : ((d2.write 1 0 (headL L.length p)).1 = 0 ∧ (d2.write 1 0 (headL L.length p)).2.pend = d2.pend ++ [⟨1, 0, headL L.length p⟩]) ∨ ((d2.write 1 0 (headL L.length p)).1 ≠ 0 ∧ (d2.write 1 0 (headL L.length p)).2.pend = d2.pend) := e2
      have e1 : (d2.write 1 0 (headL L.length p)).2.dur = d2.dur := e1
      rcases e2 with ⟨e0, e2⟩ | ⟨e0, e2⟩
      · rw [thenD_ok e0]
        rw [s2, List.nil_append] at e2
        generalize (d2.write 1 0 (headL L.length p)).2 = d3 at *
        rcases sync_two d3 with ⟨t0, t1, t2⟩ | ⟨t0, t1, t2⟩
        · rw [e2, e1, s1] at t1
          rw [e2] at t2
          have t2 : (d3.sync 1).2.pend = [] := t2
          generalize (d3.sync 1).2 = d4 at *
          have hv : (d4.crash keep).vis = ((wrs 1 (L.flatMap En.secs)).foldl Cont.wr d.dur).wr ⟨1, 0, headL L.length p⟩ := by
            show (keptOf keep d4.pend 0).foldl Cont.wr d4.dur = _
            rw [t2, t1]; rfl
          obtain ⟨a1, a2, a3⟩ := hot_of L p (e := d4.crash keep) rfl hc hp hE k2 k3 hv
          exact ⟨.inr a1, a2, a3⟩
        · rw [e1, s1] at t1
          rw [e2] at t2
          cases hb : bitOf keep 0 with
          | true =>
            have hv : ((d3.sync 1).2.crash keep).vis = ((wrs 1 (L.flatMap En.secs)).foldl Cont.wr d.dur).wr ⟨1, 0, headL L.length p⟩ := by
              show (keptOf keep (d3.sync 1).2.pend 0).foldl Cont.wr (d3.sync 1).2.dur = _
              rw [t2, t1]
              simp [keptOf, hb]
            obtain ⟨a1, a2, a3⟩ := hot_of L p (e := (d3.sync 1).2.crash keep) rfl hc hp hE k2 k3 hv
            exact ⟨.inr a1, a2, a3⟩
          | false =>
            have hv : ((d3.sync 1).2.crash keep).vis = d2.dur := by
              show (keptOf keep (d3.sync 1).2.pend 0).foldl Cont.wr (d3.sync 1).2.dur = _
              rw [t2, t1, s1]
              simp [keptOf, hb]
            refine ⟨.inl ⟨t0, load_none rfl (by rw [hv]; exact c2.head)⟩, fun s => by rw [hv]; exact c2.page s, by rw [hv]; exact c2.len⟩
      · rw [thenD_bad e0]
        exact calm _ e0 (c2.same e1 (by rw [e2]; exact c2.pend))
    · rw [thenD_bad s0]
      exact calm _ s0 c2
  · rw [thenD_bad h0]
    exact calm _ h0 c1
end Go.Proofs.Ythfgjkmfabmipaa
