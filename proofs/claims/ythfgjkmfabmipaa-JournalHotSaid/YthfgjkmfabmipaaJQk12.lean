/- Several texts of one proof, one behind the other. -/
import Derived.Test.YthfgjkmfabmipaaJQk11
import Derived.Deep.WholeRow
import Derived.Laws.Rows
import Derived.Laws.CopyRow
import Derived.Deep.Cut
set_option linter.unusedSimpArgs false
set_option linter.unusedVariables false

/- Journal: Clear, Save. -/
set_option linter.unusedSimpArgs false
set_option linter.unusedVariables false
set_option maxRecDepth 100000
namespace Go.Proofs.Ythfgjkmfabmipaa
open Go.RowKit

def DS.clear (d : DS) : Nat × DS := if d.down then (51, d) else if d.lenI 1 = 0 then (0, d) else d.hseal (zs 128)
theorem clear_room {d : DS} {n : Nat} (h : d.room (n + 2)) : d.clear.2.room n := by
  unfold DS.clear
  split
  · exact h.mono (by omega)
  · split
    · exact h.mono (by omega)
    · exact seal_room _ h

set_option maxHeartbeats 2000000 in
theorem Clear_any {w : World} {B : Nat} {S : List Nat} {d : DS} (h : IsDisk w B S d) (hr : d.room 2) :
    Calls Try.prog 23 #[.pointer (some ⟨B, 0, none⟩)] w (RetI w B S d.clear) := by
  have HDk := Lib.hid (isDisk_yes h)
  have HW0 := Lib.hid (Way.new h)
  have HDn := Lib.hid (fun W (hW : Way w W B S S d) => DDown hW.disk)
  have HLn := Lib.hid (fun W (hW : Way w W B S S d) => DLen hW.disk 1)
  have HRes : Hid (d.clear = if d.down then (51, d) else if d.lenI 1 = 0 then (0, d) else d.hseal (zs 128)) := rfl
  have HRm := Lib.hid hr
  clear h hr
  generalize d.down = dn at *
  generalize d.lenI 1 = ln at *
  cases dn with
  | true =>
    have HE : Hid (d.clear = (51, d)) := HRes.out
    go_enter Try.func23, Try.ntmps23
    go_wp2_with fail
    refine HDk.out.mono ?_
    rintro e w1 ⟨rfl, hb1⟩
    have HW1 := Lib.hid (HW0.out.below hb1)
    clear hb1 HDk
    go_wp2_with fail
    refine (HDn.out _ HW1.out).mono ?_
    rintro e w2 ⟨rfl, rfl⟩
    go_wp2
    go_ret
    rw [HE.out]
    exact HW1.out.ret (r := 51)
  | false =>
    by_cases hl : ln = 0
    · subst hl
      have HE : Hid (d.clear = (0, d)) := HRes.out
      go_enter Try.func23, Try.ntmps23
      go_wp2_with fail
      refine HDk.out.mono ?_
      rintro e w1 ⟨rfl, hb1⟩
      have HW1 := Lib.hid (HW0.out.below hb1)
      clear hb1 HDk
      go_wp2_with fail
      refine (HDn.out _ HW1.out).mono ?_
      rintro e w2 ⟨rfl, rfl⟩
      go_wp2_with fail
      refine (HLn.out _ HW1.out).mono ?_
      rintro e w3 ⟨rfl, rfl⟩
      go_wp2
      go_ret
      rw [HE.out]
      exact HW1.out.ret (r := 0)
    · have q : (ln == 0) = false := by simpa using hl
      have HE : Hid (d.clear = d.hseal (zs 128)) := by show _ = _; rw [HRes.out]; simp [hl]
      obtain ⟨⟨e1, d1⟩, he1⟩ : ∃ r, d.hseal (zs 128) = r := ⟨_, rfl⟩
      have HSl : Hid (d.hseal (zs 128) = (e1, d1)) := he1
      clear he1 hl
      go_enter Try.func23, Try.ntmps23
      go_wp2_with fail
      refine HDk.out.mono ?_
      rintro e w1 ⟨rfl, hb1⟩
      have HW1 := Lib.hid (HW0.out.below hb1)
      clear hb1 HDk
      go_wp2_with fail
      refine (HDn.out _ HW1.out).mono ?_
      rintro e w2 ⟨rfl, rfl⟩
      obtain ⟨w4, hw4⟩ : ∃ w4, w2.alloc (.cells (cellsA (zs 128)) 5) = w4 := ⟨_, rfl⟩
      have hmk : (Instr.makeSlice 30 (.int .i64 128) (.int .i64 128)).run Try.prog w2 = .ok (.slice (some ⟨w2.heap.size, 0, none⟩) 128 128) w4 := by rw [make128 w2, hw4]
      have hB4 : Blk w4 w2.heap.size 5 (cellsA (zs 128)) := by rw [← hw4]; exact Blk.new _ _ _
      have hb4 : Below w2.heap.size w2 w4 := by rw [← hw4]; exact (Below.refl _ _).alloc (Nat.le_refl _) _
      have HW4 := Lib.hid (HW1.out.below hb4)
      have HH := Lib.hid (writeHead_any HW4.out.disk (zs 128) (some ⟨w2.heap.size, 0, none⟩) 128 (hB4.bsA (zs_lt _)) (zs_len _) HRm.out)
      rw [HSl.out] at HH
      clear hB4 hb4 hw4
      go_wp2_with fail
      refine (HLn.out _ HW1.out).mono ?_
      rintro e w3 ⟨rfl, rfl⟩
      go_wp2_with fail
      refine HH.out.mono ?_
      rintro e w5 ⟨rfl, S5, hD5, hc5, hf5⟩
      have HW5 := Lib.hid (HW4.out.step hD5 hc5 hf5)
      clear hD5 hc5 hf5 hmk
      go_wp2
      go_ret
      rw [HE.out, HSl.out]
      exact HW5.out.ret

theorem Arr.chgS {N : Nat} {w w' : World} {a : Option Addr} {l : List Value} {S : List Nat} (h : Arr N w a l) (hN : N ≤ w.heap.size) (hc : Chg S w w') (hn : ∀ g, a = some g → g.block ∉ S) : Arr N w' a l := by
  rcases h with h2 | ⟨b, o, ha, hb, hcell⟩
  · exact .inl h2
  · exact .inr ⟨b, o, ha, hb, fun i c hi => (hc.cell (b := b) (by omega) (hn _ ha)).trans (hcell i c hi)⟩
theorem EnIn.way {w W : World} {B : Nat} {S S' : List Nat} {d : DS} {e : En} (h : EnIn w S e) (hW : Way w W B S S' d) : EnIn W S' e := by
  refine ⟨?_, h.len, h.cap, h.max, fun g hg => ⟨hW.far (h.far g hg).2 (h.far g hg).1, Nat.lt_of_lt_of_le (h.far g hg).2 hW.chg.size⟩⟩
  rcases h.bs.2 with h2 | ⟨b, o, ha, hb, -⟩
  · exact ⟨h.bs.1, .inl h2⟩
  · have := h.bs
    rw [ha] at this ⊢
    exact (hW.bs this (Nat.le_refl _) (h.far _ ha).1).mono hW.chg.size

theorem EnIn.below {w W : World} {S : List Nat} {e : En} (h : EnIn w S e) (hb : Below w.heap.size w W) : EnIn W S e :=
  ⟨(h.bs.below hb).mono hb.size, h.len, h.cap, h.max, fun g hg => ⟨(h.far g hg).1, Nat.lt_of_lt_of_le (h.far g hg).2 hb.size⟩⟩

/-- Entries are saved. -/
def DS.save (d : DS) (L : List En) (pages : Int) : Nat × DS :=
  if (cntB (L.length : Int) && cntB pages) = true ∧ L.all En.ok = true then thenD (d.writes 1 1 (L.flatMap En.secs)) fun d1 => thenD (d1.sync 1) fun d2 => d2.hseal (headL L.length pages.toNat) else (1, d)
theorem secs_len5 (e : En) : e.secs.length = 5 := rfl
theorem flat5 (L : List En) : (L.flatMap En.secs).length = 5 * L.length := by
  induction L with
  | nil => rfl
  | cons e r ih => rw [List.flatMap_cons, List.length_append, ih, secs_len5, List.length_cons]; omega

set_option maxHeartbeats 8000000 in
theorem Save_any {w : World} {B : Nat} {S : List Nat} {d : DS} (h : IsDisk w B S d) (L : List En) (a : Option Addr) (n cap : Nat) (pages : Int) (hA : Arr w.heap.size w a (cellsE L)) (hn : n = L.length) (hnm : n ≤ 1000000) (hfar : ∀ g, a = some g → g.block ∉ S ∧ g.block < w.heap.size)
    (hE : ∀ e ∈ L, EnIn w S e) (hr : d.room (5 * L.length + 3)) :
    Calls Try.prog 22 #[.pointer (some ⟨B, 0, none⟩), .slice a n cap, .int .i64 pages] w (RetI w B S (d.save L pages)) := by
  have HDk := Lib.hid (isDisk_yes h)
  have HW0 := Lib.hid (Way.new h)
  have HHd := Lib.hid (fun W => head_any (n : Int) pages W)
  have HCo := Lib.hid (fun W (hb : Below w.heap.size w W) => containsE_any L a n cap W (hA.later (N := 0) hb) hn (by omega))
  have HN := Lib.hid hn
  have HA := Lib.hid hA
  have HFar := Lib.hid hfar
  have HE := Lib.hid hE
  have HRm := Lib.hid hr
  have HSl := Lib.hid h.lt
  clear h hA hfar hE hr
  have HBad : Hid (¬ ((cntB (n : Int) && cntB pages) = true ∧ L.all En.ok = true) → d.save L pages = (1, d)) := fun hh => if_neg (by rw [← hn]; exact hh)
  have HGood : Hid ((cntB (n : Int) && cntB pages) = true → L.all En.ok = true → d.save L pages = thenD (d.writes 1 1 (L.flatMap En.secs)) fun d1 => thenD (d1.sync 1) fun d2 => d2.hseal (headL n pages.toNat)) := fun h1 h2 => by
    rw [hn] at h1 ⊢; exact if_pos ⟨h1, h2⟩
  clear hn
  go_enter Try.func22, Try.ntmps22
  go_wp2_with fail
  refine HDk.out.mono ?_
  rintro e w1 ⟨rfl, hb1⟩
  have HB1 := Lib.hid hb1
  clear hb1 HDk
  go_wp2_with fail
  refine (HHd.out _).mono ?_
  rintro e w2 ⟨hb2, ⟨hc, rfl⟩ | ⟨g, hc, rfl, hg, hK⟩⟩
  · have HA1 := Lib.hid (HBad.out (fun hh => by rw [hc] at hh; cases hh.1))
    have HW2 := Lib.hid (HW0.out.below (HB1.out.trans (hb2.mono HB1.out.size)))
    clear hb2 hc HBad HGood
    go_wp2
    go_ret
    rw [HA1.out]
    exact HW2.out.ret (r := 1)
  · have HB2 := Lib.hid (HB1.out.trans (hb2.mono HB1.out.size))
    have HK := Lib.hid hK
    have HC := Lib.hid hc
    have HGl : Hid (w.heap.size ≤ g) := Nat.le_trans HB1.out.size hg
    clear hb2 hc hg hK
    go_wp2_with fail
    refine (HCo.out _ HB2.out).mono ?_
    rintro e w3 ⟨rfl, hb3⟩
    have HB3 := Lib.hid (HB2.out.trans (hb3.mono HB2.out.size))
    have HK3 := Lib.hid (HK.out.keep hb3)
    have HW3 := Lib.hid (HW0.out.below HB3.out)
    clear hb3 HK HCo HW0
    obtain ⟨al, hal⟩ : ∃ al, L.all En.ok = al := ⟨_, rfl⟩
    have HAl := Lib.hid hal
    rw [hal]
    cases al with
    | false =>
      have HA1 := Lib.hid (HBad.out (fun hh => by rw [hal] at hh; cases hh.2))
      clear hal HBad HGood
      go_wp2
      go_ret
      rw [HA1.out]
      exact HW3.out.ret (r := 1)
    | true =>
      have HRes := Lib.hid (HGood.out HC.out hal)
      have hn4 : n ≤ 4096 := by have := HC.out; unfold cntB at this; simp at this; omega
      have hgl : g < w3.heap.size := HK3.out.lt
      have HGS : Hid (g ∉ S) := fun hm => by have := HSl.out g hm; have := HGl.out; omega
      have HW0 := Lib.hid (Way.new HW3.out.disk)
      have HA3 := Lib.hid (HA.out.later (N := 0) HB3.out)
      have HF3 : Hid (∀ g, a = some g → g.block ∉ S ∧ g.block < w3.heap.size) := fun g hg => ⟨(HFar.out g hg).1, Nat.lt_of_lt_of_le (HFar.out g hg).2 HB3.out.size⟩
      have HE3 : Hid (∀ e ∈ L, EnIn w3 S e) := fun e he => (HE.out e he).below HB3.out
      have HOk : Hid (∀ e ∈ L, e.ok = true) := fun e he => List.all_eq_true.1 hal e he
      have HRn : Hid (d.room (5 * (n - 0) + 3)) := by show DS.room _ _; rw [HN.out]; exact HRm.out
      clear hal HBad HGood HC HA HFar HE HW3 HGl HSl HB1 HB2 HRm
      go_wp2
      go_loopw [31] (fun i wr => ∃ (k : Nat) (dk : DS) (S' : List Nat), k ≤ n ∧ i = .int .i64 (k : Int) ∧ Hid (d.writes 1 1 ((L.take k).flatMap En.secs) = (0, dk)) ∧ Hid (Way w3 wr B S S' dk) ∧ Hid (dk.room (5 * (n - k) + 3))) (fun i _ => n - (intOf i).toNat)
      case atStart => exact ⟨0, d, S, by omega, rfl, rfl, HW0, HRn⟩
      case round =>
        clear HW0 HRn
        obtain ⟨k, dk, S', hk, rfl, HD, HW, HR⟩ := hrel
        by_cases hlt : k < n
        · have hkl : k < L.length := by have := HN.out; omega
          obtain ⟨b, o, rfl, hbN, c0, c1⟩ := enAt (HA3.out.chgS (Nat.le_refl _) HW.out.chg (fun g hg => (HF3.out g hg).1)) hkl
          have hem := List.getElem_mem hkl
          have HEn := Lib.hid ((HE3.out _ hem).way HW.out)
          have HOke := Lib.hid (HOk.out _ hem)
          have HNx : Hid (d.writes 1 1 ((L.take (k + 1)).flatMap En.secs) = dk.writes 1 (1 + 5 * k) L[k].secs) := by
            show _ = _
            rw [List.take_succ_eq_append_getElem hkl, List.flatMap_append, writes_app, HD.out, thenD_ok rfl, flat5, List.length_take]
            have : 5 * min k L.length = 5 * k := by congr 1; omega
            rw [this]
            simp
          have HStop : Hid (∀ e' d', dk.writes 1 (1 + 5 * k) L[k].secs = (e', d') → e' ≠ 0 → d.writes 1 1 (L.flatMap En.secs) = (e', d')) := fun e' d' h1 h2 => by
            have hsp : L.flatMap En.secs = (L.take (k + 1)).flatMap En.secs ++ (L.drop (k + 1)).flatMap En.secs := by rw [← List.flatMap_append, List.take_append_drop]
            rw [hsp, writes_app, HNx.out, h1, thenD_bad h2]
          obtain ⟨y, hy⟩ : ∃ y, y = L[k] := ⟨_, rfl⟩
          rw [← hy] at c0 c1 HEn HOke HNx HStop
          have HRk : Hid (dk.room (y.secs.length + (5 * (n - (k + 1)) + 3))) := HR.out.mono (by rw [secs_len5]; omega)
          have HRn := Lib.hid (writes_room 1 y.secs dk (1 + 5 * k) _ HRk.out)
          have HWe := Lib.hid (fun W (hb : Below wr.heap.size wr W) => writeEntry_any (HW.out.below hb).disk k (by omega) y (HEn.out.below hb) HOke.out (HR.out.mono (by omega)))
          obtain ⟨⟨e1, d1⟩, he1⟩ : ∃ r, dk.writes 1 (1 + 5 * k) y.secs = r := ⟨_, rfl⟩
          rw [he1] at HWe HRn HNx HStop
          have HAl : Hid (Below wr.heap.size wr (wr.alloc (.cells #[.int .i64 y.p, .slice y.a y.n y.c] 63))) := (Below.refl _ _).alloc (Nat.le_refl _) _
          clear hy he1 hbN hem HRk HOke HEn
          go_wp2_with fail
          refine (HWe.out _ HAl.out).mono ?_
          rintro e w4 ⟨rfl, S4, hD4, hc4, hf4⟩
          have HW4 := Lib.hid ((HW.out.below HAl.out).step hD4 hc4 hf4)
          clear hD4 hc4 hf4 HWe HW HAl c0 c1
          by_cases h0 : e1 = 0
          · subst h0
            clear HStop
            go_wp2
            go_roundw
            case rel => exact ⟨k + 1, d1, S4, by omega, by go_num, HNx, HW4, HRn⟩
            case measure => simp [intOf]; omega
          · have q1 : ((e1 : Int) != 0) = true := by simp; omega
            have HE1 : Hid (d.save L pages = (e1, d1)) := by show _ = _; rw [HRes.out, HStop.out e1 d1 rfl h0, thenD_bad h0]
            clear HStop HNx h0
            go_wp2
            (try rw [Exit.noGoto_ret])
            go_ret
            rw [HE1.out]
            exact (HW4.out.back HB3.out).ret
        · have hke : k = n := by omega
          subst hke
          have hD : d.writes 1 1 (L.flatMap En.secs) = (0, dk) := by have := HD.out; rwa [List.take_of_length_le (by have := HN.out; omega)] at this
          have HS1 : Hid (d.save L pages = thenD (dk.sync 1) fun d2 => d2.hseal (headL k pages.toNat)) := by show _ = _; rw [HRes.out, hD, thenD_ok rfl]
          have HSy := Lib.hid (DSync HW.out.disk 1 (by have := HR.out.1; omega))
          have HR2 := Lib.hid (sync_room 1 (n := 2) (HR.out.mono (by omega)))
          obtain ⟨⟨e2, d2⟩, he2⟩ : ∃ r, dk.sync 1 = r := ⟨_, rfl⟩
          rw [he2] at HSy HS1 HR2
          clear hD he2 HD
          go_wp2_with fail
          refine HSy.out.mono ?_
          rintro e w4 ⟨rfl, S4, hD4, hc4, hf4⟩
          have HW4 := Lib.hid (HW.out.step hD4 hc4 hf4)
          clear hD4 hc4 hf4 HSy HW
          by_cases h0 : e2 = 0
          · subst h0
            have HS2 : Hid (d.save L pages = d2.hseal (headL k pages.toNat)) := HS1.out
            have hBk : Bs w4.heap.size w4 (some ⟨g, 0, none⟩) (headL k pages.toNat) := (HW4.out.bs (HK3.out.bsA (headL_lt _ _)) (Nat.le_refl _) HGS.out).mono HW4.out.chg.size
            have HH := Lib.hid (writeHead_any HW4.out.disk _ (some ⟨g, 0, none⟩) 128 hBk (headL_len _ _) HR2.out)
            obtain ⟨⟨e3, d3⟩, he3⟩ : ∃ r, d2.hseal (headL k pages.toNat) = r := ⟨_, rfl⟩
            have HS3 : Hid (d2.hseal (headL k pages.toNat) = (e3, d3)) := he3
            rw [HS3.out] at HH
            clear hBk he3 HS1
            go_wp2_with fail
            refine HH.out.mono ?_
            rintro e w5 ⟨rfl, S5, hD5, hc5, hf5⟩
            have HW5 := Lib.hid (HW4.out.step hD5 hc5 hf5)
            clear hD5 hc5 hf5 HH
            go_wp2
            (try rw [Exit.noGoto_ret])
            go_ret
            rw [HS2.out, HS3.out]
            exact (HW5.out.back HB3.out).ret
          · have q1 : ((e2 : Int) != 0) = true := by simp; omega
            have HS2 : Hid (d.save L pages = (e2, d2)) := by show _ = _; rw [HS1.out, thenD_bad h0]
            clear HS1 h0
            go_wp2
            (try rw [Exit.noGoto_ret])
            go_ret
            rw [HS2.out]
            exact (HW4.out.back HB3.out).ret
end Go.Proofs.Ythfgjkmfabmipaa

/- Journal: ReadHead, readSectors, ReadPage. -/
set_option linter.unusedSimpArgs false
set_option linter.unusedVariables false
set_option maxRecDepth 100000
namespace Go.Proofs.Ythfgjkmfabmipaa
open Go.RowKit

/-- 'b[k:m]' anywhere. -/
theorem cutAt (b o n cap k m : Nat) (hk : k < cap) (hkm : k ≤ m) (hm : m ≤ cap) (W : World) :
    (Instr.slice 30 (.slice (some ⟨b, o, none⟩) n cap) (some (.int .i64 (k : Int))) (some (.int .i64 (m : Int))) none).run Try.prog W = .ok (.slice (some ⟨b, o + k, none⟩) (m - k) (cap - k)) W := by
  have hu := Try.underlying30
  have ht' : Try.prog.underlying 30 = some (.slice (Try.prog.elem 30)) := by simp [Program.elem, hu]
  have hee : Try.prog.elem 30 = 5 := by simp [Program.elem, hu]
  rw [run_slice_lh (P := Try.prog) W 30 (some ⟨b, o, none⟩) n cap ht' .i64 .i64 (k : Int) (m : Int) (by omega) (by omega) (by omega), hee, Try.sizeOf5]
  simp only [Result.andThen, sliced, Int.toNat_natCast]
  rw [if_neg (by omega)]
  by_cases h0 : k = 0
  · subst h0; simp [Addr.add]
  · simp [Addr.add]; omega

/-- The numbers of a head, if it is one. -/
def readHeadL (l : List Nat) : Option (Nat × Nat) :=
  if l.length = 128 ∧ valL ((l.drop 4).take 4) ≤ 4096 ∧ valL ((l.drop 8).take 4) ≤ 4096 ∧ l = headL (valL ((l.drop 4).take 4)) (valL ((l.drop 8).take 4)) then some (valL ((l.drop 4).take 4), valL ((l.drop 8).take 4)) else none
def headV : Option (Nat × Nat) → Value
  | none => .tuple #[.int .i64 0, .int .i64 0, .bool false]
  | some (c, p) => .tuple #[.int .i64 (c : Int), .int .i64 (p : Int), .bool true]
theorem val4 (l : List Nat) (h : ∀ c ∈ l, c < 256) (k : Nat) : valL ((l.drop k).take 4) < 4294967296 := by
  have h1 := valL_lt ((l.drop k).take 4) (fun c hc => h c (List.mem_of_mem_drop (List.mem_of_mem_take hc)))
  have h2 : (256 : Nat) ^ ((l.drop k).take 4).length ≤ 256 ^ 4 := Nat.pow_le_pow_right (by omega) (by rw [List.length_take]; omega)
  have : (256 : Nat) ^ 4 = 4294967296 := rfl
  omega

set_option maxRecDepth 100000 in
set_option maxHeartbeats 4000000 in
theorem ReadHead_any (l : List Nat) (a : Option Addr) (n cap : Nat) (w : World) (hB : Bs w.heap.size w a l) (hn : n = l.length) (hc : n ≤ cap) (hcm : cap ≤ 9223372036854775807) :
    Calls Try.prog 17 #[.slice a n cap] w fun e w' => e = .returned (headV (readHeadL l)) ∧ Below w.heap.size w w' := by
  by_cases h8 : n = 128
  · subst h8
    have hne : l ≠ [] := by intro h0; rw [h0] at hn; cases hn
    obtain ⟨b, o, rfl, hbN, -⟩ := hB.2.resolve_left hne
    have hv1 := val4 l hB.1 4
    have hv2 := val4 l hB.1 8
    have HG1 := Lib.hid (fun W (hb : Below w.heap.size w W) => getB_any ((l.drop 4).take 4) (some ⟨b, o + 4, none⟩) 4 (cap - 4) W.heap.size W ((((hB.from_ 4).front 4).below hb).mono hb.size) (by rw [List.length_take, List.length_drop, ← hn]; rfl) (by omega))
    have HG2 := Lib.hid (fun W (hb : Below w.heap.size w W) => getB_any ((l.drop 8).take 4) (some ⟨b, o + 8, none⟩) 4 (cap - 8) W.heap.size W ((((hB.from_ 8).front 4).below hb).mono hb.size) (by rw [List.length_take, List.length_drop, ← hn]; rfl) (by omega))
    have HR : Hid (readHeadL l = if l.length = 128 ∧ valL ((l.drop 4).take 4) ≤ 4096 ∧ valL ((l.drop 8).take 4) ≤ 4096 ∧ l = headL (valL ((l.drop 4).take 4)) (valL ((l.drop 8).take 4)) then some (valL ((l.drop 4).take 4), valL ((l.drop 8).take 4)) else none) := rfl
    have hs1 : ∀ W, (Instr.slice 30 (.slice (some ⟨b, o, none⟩) 128 cap) (some (.int .i64 4)) (some (.int .i64 8)) none).run Try.prog W = .ok (.slice (some ⟨b, o + 4, none⟩) 4 (cap - 4)) W := fun W => by simpa using cutAt b o 128 cap 4 8 (by omega) (by omega) (by omega) W
    have hs2 : ∀ W, (Instr.slice 30 (.slice (some ⟨b, o, none⟩) 128 cap) (some (.int .i64 8)) (some (.int .i64 12)) none).run Try.prog W = .ok (.slice (some ⟨b, o + 8, none⟩) 4 (cap - 8)) W := fun W => by simpa using cutAt b o 128 cap 8 12 (by omega) (by omega) (by omega) W
    generalize valL ((l.drop 4).take 4) = c at *
    generalize valL ((l.drop 8).take 4) = p at *
    have HHd := Lib.hid (fun W => head_any (c : Int) (p : Int) W)
    have HSm := Lib.hid (fun g' W (hb : Below w.heap.size w W) (h2 : Blk W g' 5 (cellsA (headL c p))) => jsame_any l (headL c p) (some ⟨b, o, none⟩) (some ⟨g', 0, none⟩) cap 128 w.heap.size W.heap.size W (hB.below hb) hn.symm hb.size (h2.bsA (headL_lt _ _)) (headL_len _ _) (Nat.le_refl _))
    have HL : Hid (l.length = 128) := hn.symm
    clear hB hn hne hbN hc hcm
    go_enter Try.func17, Try.ntmps17
    go_wp2_with fail
    refine wp_region_ord [(0, true), (1, true), (3, true), (4, true), (2, false), (5, false), (6, true), (7, true)] (by kernel_rfl) (by kernel_rfl) (by kernel_rfl) (by kernel_rfl) ?_
    repeat (first | (refine wpO_F (v := ?_) rfl (by rfl) (fun w' hL => ?_) ?_; rotate_left; (solve | (go_simp; with_reducible rfl) | go_simp); try simp only [Act.put, List.setIfInBounds_toArray, List.set_cons_zero, List.set_cons_succ]) | (refine wpO_G rfl (by rfl) ?_; try simp only [Act.put, List.setIfInBounds_toArray, List.set_cons_zero, List.set_cons_succ]))
    refine wpO_C rfl (by rfl) ?_
    go_simp
    refine (HG1.out _ ((Below.refl _ _).drew)).mono ?_
    rintro e w1 ⟨rfl, rfl⟩
    refine ⟨Below.refl _ _, ?_⟩
    try simp only [Act.put, List.setIfInBounds_toArray, List.set_cons_zero, List.set_cons_succ]
    repeat (first | (refine wpO_F (v := ?_) rfl (by rfl) (fun w' hL => ?_) ?_; rotate_left; (solve | (go_simp; with_reducible rfl) | go_simp); try simp only [Act.put, List.setIfInBounds_toArray, List.set_cons_zero, List.set_cons_succ]) | (refine wpO_G rfl (by rfl) ?_; try simp only [Act.put, List.setIfInBounds_toArray, List.set_cons_zero, List.set_cons_succ]))
    refine wpO_C rfl (by rfl) ?_
    go_simp
    refine (HG2.out _ ((Below.refl _ _).drew)).mono ?_
    rintro e w2 ⟨rfl, rfl⟩
    refine ⟨Below.refl _ _, ?_⟩
    try simp only [Act.put, List.setIfInBounds_toArray, List.set_cons_zero, List.set_cons_succ]
    repeat (first | (refine wpO_F (v := ?_) rfl (by rfl) (fun w' hL => ?_) ?_; rotate_left; (solve | (go_simp; with_reducible rfl) | go_simp); try simp only [Act.put, List.setIfInBounds_toArray, List.set_cons_zero, List.set_cons_succ]) | (refine wpO_G rfl (by rfl) ?_; try simp only [Act.put, List.setIfInBounds_toArray, List.set_cons_zero, List.set_cons_succ]))
    refine wpO_nil ?_
    clear hs1 hs2 HG1 HG2
    go_wp2_with fail
    refine (HHd.out _).mono ?_
    rintro e w3 ⟨hb3, ⟨hcp, rfl⟩ | ⟨g, hcp, rfl, hg, hK⟩⟩
    · have HE : Hid (readHeadL l = none) := by
        show _ = _
        rw [HR.out, if_neg]
        rintro ⟨-, h1, h2, -⟩
        unfold cntB at hcp
        simp at hcp
        omega
      have HB3 : Hid (Below w.heap.size w w3) := Below.trans ((Below.refl _ _).drew) hb3
      clear hb3 hcp HHd HSm
      go_wp2
      go_ret3
      exact ⟨by rw [HE.out]; rfl, HB3.out⟩
    · have hcp2 : c ≤ 4096 ∧ p ≤ 4096 := by unfold cntB at hcp; simp at hcp; omega
      have HB3 : Hid (Below w.heap.size w w3) := Below.trans ((Below.refl _ _).drew) hb3
      have HS := Lib.hid (HSm.out g w3 HB3.out hK)
      obtain ⟨D, hD⟩ : ∃ D, decide (l = headL c p) = D := ⟨_, rfl⟩
      rw [hD] at HS
      have HE : Hid (readHeadL l = if D then some (c, p) else none) := by
        show _ = _
        rw [HR.out, ← hD]
        by_cases h : l = headL c p
        · rw [if_pos ⟨HL.out, hcp2.1, hcp2.2, h⟩]; simp [h]
        · rw [if_neg (fun hh => h hh.2.2.2)]; simp [h]
      clear hb3 hcp hcp2 HHd HSm hg hK hD HR HL
      go_wp2_with fail
      refine HS.out.mono ?_
      rintro e w4 ⟨rfl, rfl⟩
      clear HS
      cases D with
      | true =>
        go_wp2
        go_ret3
        exact ⟨by rw [HE.out]; rfl, HB3.out.drew⟩
      | false =>
        go_wp2
        go_ret3
        exact ⟨by rw [HE.out]; rfl, HB3.out.drew⟩
  · have HE : Hid (readHeadL l = none) := by
      show _ = _
      unfold readHeadL
      rw [if_neg (fun hh => h8 (by rw [hn]; exact hh.1))]
    have q : ((n : Int) != 128) = true := by simp; omega
    clear hB hn hc hcm h8
    go_enter Try.func17, Try.ntmps17
    go_wp2
    go_ret3
    exact ⟨by rw [HE.out]; rfl, Below.refl _ _⟩

theorem read_err {d : DS} {f s : Int} {n : Nat} (h : d.read f s = .error n) : n ≠ 0 := by
  unfold DS.read at h
  split at h
  · injection h with h; omega
  · split at h
    · injection h with h; omega
    · split at h
      · injection h with h; omega
      · cases h
/-- What reading k sectors tells: the bytes, and whether none is missing. -/
def DS.rdSecs (d : DS) (f : Int) (at_ : Nat) : Nat → Except Nat (List Nat × Bool)
  | 0 => .ok ([], true)
  | k + 1 => match d.rdSecs f at_ k with
    | .error e => .error e
    | .ok (l, wh) => match d.read f ((at_ + k : Nat) : Int) with
      | .ok b => .ok (l ++ b, wh)
      | .error n => if n = 4 then .ok (l ++ zs 128, false) else .error n
theorem rdSecs_stop {d : DS} {f : Int} {at_ k : Nat} {e : Nat} (h : d.rdSecs f at_ k = .error e) : ∀ m, k ≤ m → d.rdSecs f at_ m = .error e
  | 0, hm => by have : k = 0 := by omega
                subst this; exact h
  | m + 1, hm => by
    by_cases hk : k = m + 1
    · rw [← hk]; exact h
    · have := rdSecs_stop h m (by omega)
      simp only [DS.rdSecs, this]
/-- A call hands back a page that it made, whether it is whole, and an error. -/
def RetRdS (w : World) (r : Except Nat (List Nat × Bool)) (e : Ending) (w' : World) : Prop :=
  Below w.heap.size w w' ∧ ((∃ n : Nat, r = .error n ∧ e = .returned (.tuple #[.slice none 0 0, .bool false, .int .i64 (n : Int)])) ∨
    ∃ l wh g, r = .ok (l, wh) ∧ e = .returned (.tuple #[.slice (some ⟨g, 0, none⟩) 512 512, .bool wh, .int .i64 0]) ∧ w.heap.size ≤ g ∧ l.length = 512 ∧ (∀ c ∈ l, c < 256) ∧ Blk w' g 5 (cellsA l))
theorem zs_add (a b : Nat) : zs (a + b) = zs a ++ zs b := by unfold zs; rw [List.replicate_append_replicate]
theorem copySec (w : World) (g h k : Nat) (l b : List Nat) (T : TypeId) (hg : Blk w g 5 (cellsA (l ++ zs (512 - 128 * k)))) (hl : l.length = 128 * k) (hk : k < 4) (hb : b.length = 128) (hB : Blk w h T (cellsA b)) :
    ∃ w', (∀ ty, (Builtin.copy_ #[30, 30] ty #[.slice (some ⟨g, 128 * k, none⟩) 128 128, .slice (some ⟨h, 0, none⟩) 128 128]).run Try.prog w = .ok (.int .i64 128) w') ∧ Blk w' g 5 (cellsA ((l ++ b) ++ zs (512 - 128 * (k + 1)))) ∧ Chg [g] w w' := by
  have hu := Try.underlying30
  have hc : (cellsU b).length = 128 := by rw [cellsU_len, hb]
  have e : ((cellsA (l ++ zs (512 - 128 * k))).toList.take (0 + 128 * k) ++ cellsU b ++ (cellsA (l ++ zs (512 - 128 * k))).toList.drop (0 + 128 * k + (cellsU b).length)).toArray = cellsA ((l ++ b) ++ zs (512 - 128 * (k + 1))) := by
    rw [hc, Nat.zero_add]
    have hz : zs (512 - 128 * k) = zs 128 ++ zs (512 - 128 * (k + 1)) := by rw [← zs_add]; congr 1; omega
    rw [hz]
    unfold cellsA
    simp only [cellsU, List.map_append]
    congr 1
    have h1 : (l.map fun (c : Nat) => Value.int .u8 (c : Int)).length = 128 * k := by rw [List.length_map, hl]
    have h2 : ((zs 128).map fun (c : Nat) => Value.int .u8 (c : Int)).length = 128 := by rw [List.length_map, zs_len]
    rw [List.take_append_of_le_length (by omega), List.take_of_length_le (by omega)]
    congr 1
    rw [← List.append_assoc, List.drop_append, List.length_append, h1, h2, List.drop_eq_nil_of_le (by rw [List.length_append]; omega), Nat.sub_self]
    rfl
  refine ⟨w.setRow g (cellsA ((l ++ b) ++ zs (512 - 128 * (k + 1)))), fun ty => ?_, ?_, ?_⟩
  · have := run_copy_row (P := Try.prog) w 30 30 ty 5 g (0 + 128 * k) 128 128 ⟨h, 0, none⟩ 128 128 (cellsA (l ++ zs (512 - 128 * k))) 5 (cellsU b) hu (by kernel_rfl) hg (by rw [hc]; rfl) (fun j v hv => by
      have e0 : (⟨h, 0, none⟩ : Addr).add j = ⟨h, j, none⟩ := by unfold Addr.add; split <;> simp_all
      rw [e0, hB.cell]
      simpa [cellsA] using hv) (by rw [hc, cellsA_size, List.length_append, zs_len, hl]; omega) (one_B b)
    rw [e, hc, Nat.zero_add] at this
    exact this
  · exact setRow_heap w g _ _ _ _ hg
  · refine ⟨rfl, rfl, rfl, by simp [World.setRow], fun j _ hn => ?_⟩
    simp only [List.mem_singleton] at hn
    exact setRow_other w g j _ hn
theorem make512 (V : World) : (Instr.makeSlice 30 (.int .i64 512) (.int .i64 512)).run Try.prog V = .ok (.slice (some ⟨V.heap.size, 0, none⟩) 512 512) (V.alloc (.cells (cellsA (zs 512)) 5)) := by
  simpa using makeZ 512 (by omega) V

set_option maxRecDepth 100000 in
set_option maxHeartbeats 4000000 in
theorem readSectors_any {w : World} {B : Nat} {S : List Nat} {d : DS} (h : IsDisk w B S d) (f : Int) (at_ : Nat) (hat : at_ ≤ 1000000) :
    Calls Try.prog 51 #[.pointer (some ⟨B, 0, none⟩), .int .i64 f, .int .i64 (at_ : Int)] w (RetRdS w (d.rdSecs f at_ 4)) := by
  obtain ⟨w0, hw0⟩ : ∃ w0, w.alloc (.cells (cellsA (zs 512)) 5) = w0 := ⟨_, rfl⟩
  have hB0 : Blk w0 w.heap.size 5 (cellsA (zs 512)) := by rw [← hw0]; exact Blk.new _ _ _
  have hb0 : Below w.heap.size w w0 := by rw [← hw0]; exact (Below.refl _ _).alloc (Nat.le_refl _) _
  have hmk : (Instr.makeSlice 30 (.int .i64 512) (.int .i64 512)).run Try.prog w = .ok (.slice (some ⟨w.heap.size, 0, none⟩) 512 512) w0 := by rw [make512 w, hw0]
  have HRd := Lib.hid (fun (s : Int) W (hb : Below w.heap.size w W) => DRead (h.chg (T := []) (Below.chg0 hb []) (by simp)) f s)
  have HB0 : Hid (Blk w0 w.heap.size 5 (cellsA ([] ++ zs (512 - 128 * 0)))) := hB0
  have Hb0 := Lib.hid hb0
  have hct := fun k (hk : k < 4) W => cut_any w.heap.size 0 512 k hk (by omega) (by omega) W
  simp only [Nat.zero_add] at hct
  have HCt := Lib.hid hct
  clear h hct hw0 hB0 hb0
  go_enter Try.func51, Try.ntmps51
  go_wp2
  clear hmk
  go_loopw [10, 15] (fun v i wr => ∃ (k : Nat) (l : List Nat) (wh : Bool), k ≤ 4 ∧ i = .int .i64 (k : Int) ∧ v = .bool wh ∧ Hid (d.rdSecs f at_ k = .ok (l, wh)) ∧ Hid (Blk wr w.heap.size 5 (cellsA (l ++ zs (512 - 128 * k)))) ∧ Hid (l.length = 128 * k ∧ ∀ c ∈ l, c < 256) ∧ Hid (Below w.heap.size w wr)) (fun _ i _ => 4 - (intOf i).toNat)
  case atStart => exact ⟨0, [], true, by omega, rfl, rfl, rfl, HB0, ⟨rfl, by simp⟩, Hb0⟩
  case round =>
    clear HB0 Hb0
    obtain ⟨k, l, wh, hk, rfl, rfl, HD, HBl, HL, HBw⟩ := hrel
    by_cases hlt : k < 4
    · have HR := Lib.hid (HRd.out ((at_ + k : Nat) : Int) wr HBw.out)
      have HNx : Hid (d.rdSecs f at_ (k + 1) = match d.read f ((at_ + k : Nat) : Int) with | .ok b => .ok (l ++ b, wh) | .error n => if n = 4 then .ok (l ++ zs 128, false) else .error n) := by
        show _ = _
        simp only [DS.rdSecs, HD.out]
      have HEr := Lib.hid (fun n => read_err (d := d) (f := f) (s := ((at_ + k : Nat) : Int)) (n := n))
      rw [show ((at_ + k : Nat) : Int) = (at_ : Int) + (k : Int) by omega] at HR HNx HEr
      obtain ⟨rr, hrr⟩ : ∃ rr, d.read f ((at_ : Int) + (k : Int)) = rr := ⟨_, rfl⟩
      rw [hrr] at HR HNx
      have HRr := Lib.hid hrr
      have HC := Lib.hid (fun W => HCt.out k hlt W)
      clear hrr
      go_wp2_with fail
      refine HR.out.mono ?_
      rintro e w1 ⟨hb1, ⟨n, rfl, rfl⟩ | ⟨b, g, rfl, rfl, hg, hok, hK⟩⟩
      · have HB1 := Lib.hid (HBw.out.trans (hb1.mono HBw.out.size))
        have HK1 := Lib.hid (HBl.out.keep hb1)
        by_cases hn4 : n = 4
        · subst hn4
          have HN4 : Hid (d.rdSecs f at_ (k + 1) = .ok (l ++ zs 128, false)) := HNx.out
          have HK2 : Hid (Blk w1 w.heap.size 5 (cellsA ((l ++ zs 128) ++ zs (512 - 128 * (k + 1))))) := by
            have := HK1.out
            rw [show 512 - 128 * k = 128 + (512 - 128 * (k + 1)) by omega, zs_add, ← List.append_assoc] at this
            exact this
          have HL2 : Hid ((l ++ zs 128).length = 128 * (k + 1) ∧ ∀ c ∈ l ++ zs 128, c < 256) := ⟨by rw [List.length_append, zs_len, HL.out.1]; omega, fun c hc => by
            rcases List.mem_append.1 hc with hc | hc
            · exact HL.out.2 c hc
            · exact zs_lt _ c hc⟩
          clear hb1 HR HNx HC HK1 HBl HL
          go_wp2
          go_roundw
          case rel => exact ⟨k + 1, l ++ zs 128, false, by omega, by go_num, rfl, HN4, HK2, HL2, HB1⟩
          case measure => simp [intOf]; omega
        · have hn0 := HEr.out n HRr.out
          have q1 : ((n : Int) == 4) = false := by simp; omega
          have q2 : ((n : Int) != 0) = true := by simp; omega
          have HE : Hid (d.rdSecs f at_ 4 = .error n) := rdSecs_stop (k := k + 1) (by rw [HNx.out]; exact if_neg hn4) 4 (by omega)
          clear hb1 HR HNx HC HK1 HBl HL hn4 hn0
          go_wp2
          (try rw [Exit.noGoto_ret])
          go_ret3
          exact ⟨HB1.out, .inl ⟨n, HE.out, rfl⟩⟩
      · have HB1 := Lib.hid (HBw.out.trans (hb1.mono HBw.out.size))
        obtain ⟨w2, hcp, hK2, hc2⟩ := copySec w1 w.heap.size g k l b _ (HBl.out.keep hb1) HL.out.1 hlt hok.1 hK
        have HCp := Lib.hid hcp
        have HK2 := Lib.hid hK2
        have HB2 := Lib.hid (HB1.out.trans (hc2.below HB1.out.size (by simp)))
        have HN4 : Hid (d.rdSecs f at_ (k + 1) = .ok (l ++ b, wh)) := HNx.out
        have HL2 : Hid ((l ++ b).length = 128 * (k + 1) ∧ ∀ c ∈ l ++ b, c < 256) := ⟨by rw [List.length_append, hok.1, HL.out.1]; omega, fun c hc => by
          rcases List.mem_append.1 hc with hc | hc
          · exact HL.out.2 c hc
          · exact hok.2 c hc⟩
        clear hb1 HR HNx HBl HL hg hok hK hcp hK2 hc2
        go_wp2_with fail
        refine (HC.out _).mono ?_
        rintro e' wx ⟨rfl, rfl⟩
        go_wp2_with (first | (guard_target =~ wpList _ _ _ (Oper.mk _ (Op.call _) _ _ _ _ :: _) _ _; refine wpList_val rfl (exec_copyS rfl rfl rfl (HCp.out _)) ?_))
        go_roundw
        case rel => exact ⟨k + 1, l ++ b, wh, by omega, by go_num, rfl, HN4, HK2, HL2, HB2⟩
        case measure => simp [intOf]; omega
    · have hk4 : k = 4 := by omega
      subst hk4
      have HK2 : Hid (Blk wr w.heap.size 5 (cellsA l)) := by
        have := HBl.out
        rw [show l ++ zs (512 - 128 * 4) = l by simp [zs]] at this
        exact this
      clear HBl
      go_wp2
      (try rw [Exit.noGoto_ret])
      go_ret3
      exact ⟨HBw.out, .inr ⟨l, wh, _, HD.out, rfl, Nat.le_refl _, HL.out.1, HL.out.2, HK2.out⟩⟩

/-- A page. -/
def DS.readPage (d : DS) (p : Int) : Except Nat (List Nat) := if pgB p = true then (match d.rdSecs 0 (4 * p.toNat) 4 with | .error e => .error e | .ok (l, _) => .ok l) else .error 1
def RetPg (w : World) (r : Except Nat (List Nat)) (e : Ending) (w' : World) : Prop :=
  Below w.heap.size w w' ∧ ((∃ n : Nat, r = .error n ∧ e = .returned (.tuple #[.slice none 0 0, .int .i64 (n : Int)])) ∨
    ∃ l g, r = .ok l ∧ e = .returned (.tuple #[.slice (some ⟨g, 0, none⟩) 512 512, .int .i64 0]) ∧ w.heap.size ≤ g ∧ l.length = 512 ∧ (∀ c ∈ l, c < 256) ∧ Blk w' g 5 (cellsA l))
set_option maxHeartbeats 2000000 in
theorem ReadPage_any {w : World} {B : Nat} {S : List Nat} {d : DS} (h : IsDisk w B S d) (p : Int) :
    Calls Try.prog 19 #[.pointer (some ⟨B, 0, none⟩), .int .i64 p] w (RetPg w (d.readPage p)) := by
  have HDk := Lib.hid (isDisk_yes h)
  have HP := Lib.hid (fun W => isPage_any p W)
  have hdef : d.readPage p = if pgB p = true then (match d.rdSecs 0 (4 * p.toNat) 4 with | .error e => .error e | .ok (l, _) => .ok l) else .error 1 := rfl
  by_cases hp : pgB p = true
  · rw [hp] at HP
    rw [if_pos hp] at hdef
    obtain ⟨m, rfl⟩ : ∃ m : Nat, p = m := ⟨p.toNat, by unfold pgB at hp; simp at hp; omega⟩
    have hm : m < 4096 := by unfold pgB at hp; simp at hp; omega
    have HRd := Lib.hid (fun W (hb : Below w.heap.size w W) => readSectors_any (h.chg (T := []) (Below.chg0 hb []) (by simp)) 0 (4 * m) (by omega))
    rw [Int.toNat_natCast] at hdef
    obtain ⟨rr, hrr⟩ : ∃ rr, d.rdSecs 0 (4 * m) 4 = rr := ⟨_, rfl⟩
    rw [hrr] at HRd hdef
    have HDf := Lib.hid hdef
    clear h hp hrr hdef
    go_enter Try.func19, Try.ntmps19
    go_wp2_with fail
    refine HDk.out.mono ?_
    rintro e w1 ⟨rfl, hb1⟩
    have HB1 := Lib.hid hb1
    clear hb1 HDk
    go_wp2_with fail
    refine (HP.out _).mono ?_
    rintro e w2 ⟨rfl, rfl⟩
    go_wp2_with fail
    refine (HRd.out _ HB1.out).mono ?_
    rintro e w3 ⟨hb3, ⟨n, rfl, rfl⟩ | ⟨l, wh, g, rfl, rfl, hg, hl, hlt, hK⟩⟩
    · have HB3 := Lib.hid (HB1.out.trans (hb3.mono HB1.out.size))
      clear hb3
      go_wp2
      go_ret2
      exact ⟨HB3.out, .inl ⟨n, HDf.out, rfl⟩⟩
    · have HB3 := Lib.hid (HB1.out.trans (hb3.mono HB1.out.size))
      have HK := Lib.hid hK
      have HG : Hid (w.heap.size ≤ g) := Nat.le_trans HB1.out.size hg
      have HLl := Lib.hid hl
      have HLt := Lib.hid hlt
      clear hb3 hK hg hl hlt
      go_wp2
      go_ret2
      exact ⟨HB3.out, .inr ⟨l, g, HDf.out, rfl, HG.out, HLl.out, HLt.out, HK.out⟩⟩
  · have hp2 : pgB p = false := by simpa using hp
    rw [hp2] at HP
    rw [if_neg hp] at hdef
    have HDf := Lib.hid hdef
    clear h hp hp2 hdef
    go_enter Try.func19, Try.ntmps19
    go_wp2_with fail
    refine HDk.out.mono ?_
    rintro e w1 ⟨rfl, hb1⟩
    have HB1 := Lib.hid hb1
    clear hb1 HDk
    go_wp2_with fail
    refine (HP.out _).mono ?_
    rintro e w2 ⟨rfl, rfl⟩
    go_wp2
    go_ret2
    exact ⟨HB1.out, .inl ⟨1, HDf.out, rfl⟩⟩
end Go.Proofs.Ythfgjkmfabmipaa

/- A variable as a whole: handed back, stored. -/
set_option linter.unusedSimpArgs false
set_option linter.unusedVariables false
set_option maxRecDepth 100000
namespace Go.Proofs.Ythfgjkmfabmipaa
open Go.RowKit

/-- What a call hands back: a variable as a whole, and a temporary. -/
theorem results_cell_tmp {P : Program} {fn : Func} {p t : Tmp} {ty : TypeId} (h : fn.results = #[.cell p ty, .tmp t]) (tmps : Array Value) (w : World) {ad : Addr} {v u : Value}
    (hp : tmps.getD p undef = .pointer (some ad)) (ht : tmps.getD t undef = u) (hl : (loadVar ty ad).run P w = .ok v w) : (results fn tmps).run P w = .ok (.tuple #[v, u]) w := by
  have hp' : tmps[p]?.getD undef = .pointer (some ad) := by simpa using hp
  have ht' : tmps[t]?.getD undef = u := by simpa using ht
  simp [results, h, hp', ht', asAddr, hl]

theorem Blk.setRow {w : World} {b : Nat} {T : TypeId} {old new : Array Value} (h : Blk w b T old) : Blk (w.setRow b new) b T new := setRow_heap w b old new T _ h
theorem Chg.setRow {S : List Nat} {a w : World} (h : Chg S a w) {b : Nat} (hb : b ∈ S ∨ a.heap.size ≤ b) (cs : Array Value) : Chg S a (w.setRow b cs) :=
  ⟨h.os, h.tape, h.output, by rw [size_setRow]; exact h.size, fun k hk hn => by
    have hne : k ≠ b := fun e => by
      subst e
      rcases hb with hb | hb
      · exact hn hb
      · omega
    exact (setRow_other w b k cs hne).trans (h.block k hk hn)⟩
end Go.Proofs.Ythfgjkmfabmipaa

/- Journal: readEntry. (Made by wip/gen/genj7.py.) -/
set_option linter.unusedSimpArgs false
set_option linter.unusedVariables false
set_option maxRecDepth 100000
namespace Go.Proofs.Ythfgjkmfabmipaa
open Go.RowKit

/-- An entry that is read. -/
def entS (p : Nat) : Except Nat (List Nat × Bool) → Except Nat (Nat × List Nat)
  | .error n => .error n
  | .ok (l, wh) => if wh then .ok (p, l) else .error 52
def entT (rs : Except Nat (List Nat × Bool)) (t : Nat × Bool) : Except Nat (Nat × List Nat) := if t.2 = false then .error 52 else entS t.1 rs
def entU (rs : Except Nat (List Nat × Bool)) : Except Nat (List Nat) → Except Nat (Nat × List Nat)
  | .error n => .error (if n = 4 then 52 else n)
  | .ok b => entT rs (readTitleL b)
def DS.entry (d : DS) (i : Nat) : Except Nat (Nat × List Nat) := entU (d.rdSecs 1 (1 + 5 * i + 1) 4) (d.read 1 ((1 + 5 * i : Nat) : Int))
/-- A call hands back an entry and an error. -/
def RetEn (w : World) (r : Except Nat (Nat × List Nat)) (e : Ending) (w' : World) : Prop :=
  Below w.heap.size w w' ∧ ((∃ n : Nat, r = .error n ∧ n ≠ 0 ∧ e = .returned (.tuple #[.agg #[.int .i64 0, .slice none 0 0], .int .i64 (n : Int)])) ∨
    ∃ (p : Nat) (l : List Nat) (g : Nat), r = .ok (p, l) ∧ p < 4096 ∧ e = .returned (.tuple #[.agg #[.int .i64 (p : Int), .slice (some ⟨g, 0, none⟩) 512 512], .int .i64 0]) ∧ w.heap.size ≤ g ∧ l.length = 512 ∧ (∀ c ∈ l, c < 256) ∧ Blk w' g 5 (cellsA l))
theorem entry_store (w : World) (b : Nat) (old : Array Value) (x y : Value) (h : Blk w b 63 old) (hsz : old.size = 2) (h1 : x.oneCell' = true) (h2 : y.oneCell' = true) :
    ∃ W, (storeVar 63 ⟨b, 0, none⟩ (.agg #[x, y])).run Try.prog w = .ok () W ∧ Blk W b 63 #[x, y] ∧ Chg [b] w W := by
  have hsz2 : (Try.prog.info? 63).map (·.size) = some 2 := by kernel_rfl
  exact ⟨_, run_storeVar_row _ _ _ 63 _ _ h (by rw [hsz2]; simp) (by rw [hsz]; rfl) (by simp [h1, h2]), Blk.setRow h, (Chg.refl _ _).setRow (.inl (by simp)) _⟩
theorem entry_load (w : World) (b : Nat) (x y : Value) (h : Blk w b 63 #[x, y]) :
    (loadVar 63 ⟨b, 0, none⟩).run Try.prog w = .ok (.agg #[x, y]) w := by
  have hsz2 : (Try.prog.info? 63).map (·.size) = some 2 := by kernel_rfl
  exact run_loadVar_row _ _ _ 63 _ (0, 0) _ h Try.underlying63 rfl (by rw [hsz2]; rfl)
theorem rdSecs_err {d : DS} {f : Int} {at_ : Nat} : ∀ {k n : Nat}, d.rdSecs f at_ k = .error n → n ≠ 0
  | 0, n, h => by cases h
  | k + 1, n, h => by
    cases hk : d.rdSecs f at_ k with
    | error e =>
      simp only [DS.rdSecs, hk] at h
      injection h with h
      subst h
      exact rdSecs_err hk
    | ok r =>
      obtain ⟨l, wh⟩ := r
      simp only [DS.rdSecs, hk] at h
      cases hr : d.read f ((at_ + k : Nat) : Int) with
      | ok b => rw [hr] at h; cases h
      | error m =>
        rw [hr] at h
        dsimp only at h
        split at h
        · cases h
        · injection h with h
          subst h
          exact read_err hr
theorem readTitleL_lt (l : List Nat) : (readTitleL l).1 < 4096 := by
  unfold readTitleL
  split
  · rename_i h; exact h.1
  · show 0 < 4096; omega

set_option maxRecDepth 100000 in
set_option maxHeartbeats 4000000 in
theorem readEntry_any {w : World} {B : Nat} {S : List Nat} {d : DS} (h : IsDisk w B S d) (i : Nat) (hi : i ≤ 100000) :
    Calls Try.prog 53 #[.pointer (some ⟨B, 0, none⟩), .int .i64 (i : Int)] w (RetEn w (d.entry i)) := by
  have HDf : Hid (d.entry i = entU (d.rdSecs 1 (1 + 5 * i + 1) 4) (d.read 1 ((1 + 5 * i : Nat) : Int))) := rfl
  obtain ⟨w0, hw0⟩ : ∃ w0, w.alloc (.cells #[.int .i64 0, .slice none 0 0] 63) = w0 := ⟨_, rfl⟩
  have hX0 : Blk w0 w.heap.size 63 #[.int .i64 0, .slice none 0 0] := by rw [← hw0]; exact Blk.new _ _ _
  have hb0 : Below w.heap.size w w0 := by rw [← hw0]; exact (Below.refl _ _).alloc (Nat.le_refl _) _
  have HX0 := Lib.hid hX0
  have HB0 := Lib.hid hb0
  have HW0 := Lib.hid hw0
  have HD := Lib.hid (fun W (hb : Below w.heap.size w W) => h.chg (T := []) (Below.chg0 hb []) (by simp))
  have HRd := Lib.hid (fun W (hb : Below w.heap.size w W) => DRead (HD.out W hb) 1 ((1 + 5 * i : Nat) : Int))
  have hrs := fun W (hb : Below w.heap.size w W) => readSectors_any (HD.out W hb) 1 (1 + 5 * i + 1) (by omega)
  rw [show ((1 + 5 * i + 1 : Nat) : Int) = ((1 + 5 * i : Nat) : Int) + 1 by omega] at hrs
  have HRs := Lib.hid hrs
  have HEr := Lib.hid (fun n => read_err (d := d) (f := 1) (s := ((1 + 5 * i : Nat) : Int)) (n := n))
  have HEs := Lib.hid (fun n => rdSecs_err (d := d) (f := 1) (at_ := 1 + 5 * i + 1) (k := 4) (n := n))
  have HEa := Lib.hid (fun W => entryAt_any i hi W)
  have hwr : IntKind.i64.wrap (((1 + 5 * i : Nat) : Int) + 1) = ((1 + 5 * i : Nat) : Int) + 1 := IntWalk.i64_in _ ⟨by omega, by omega⟩
  obtain ⟨rr, hrr⟩ : ∃ rr, d.read 1 ((1 + 5 * i : Nat) : Int) = rr := ⟨_, rfl⟩
  obtain ⟨rs, hrs2⟩ : ∃ rs, d.rdSecs 1 (1 + 5 * i + 1) 4 = rs := ⟨_, rfl⟩
  rw [hrr] at HDf HRd HEr
  rw [hrs2] at HDf HRs HEs
  generalize 1 + 5 * i = at1 at *
  clear h hX0 hb0 hw0 hrs hrr hrs2 HD
  go_enter Try.func53, Try.ntmps53
  go_upto_region 1 with (fail)
  rw [HW0.out]
  go_wp2_with fail
  refine (HEa.out _).mono ?_
  rintro e wx ⟨rfl, rfl⟩
  go_wp2_with fail
  refine (HRd.out _ HB0.out).mono ?_
  rintro e w1 ⟨hb1, ⟨n, rfl, rfl⟩ | ⟨b, g, rfl, rfl, hg, hok, hK⟩⟩
  · have HB1 := Lib.hid (HB0.out.trans (hb1.mono HB0.out.size))
    have HX1 := Lib.hid (HX0.out.keep hb1)
    have hn0 := HEr.out n rfl
    clear hb1 HX0 HB0
    by_cases hn4 : n = 4
    · subst hn4
      obtain ⟨W9, hS, hR9, hC9⟩ := entry_store w1 _ _ (.int .i64 0) (.slice none 0 0) HX1.out rfl rfl rfl
      have HS := Lib.hid hS
      have HL := Lib.hid (entry_load W9 _ _ _ hR9)
      have HB9 := Lib.hid (HB1.out.trans (hC9.below HB1.out.size (by simp)))
      
      clear hS hR9 hC9
      go_wp2_with (first | (guard_target =~ wpList _ _ _ (Oper.mk _ (Op.store 63 _ _) _ _ _ _ :: _) _ _; refine wpList_skp rfl (exec_store rfl rfl rfl HS.out) ?_))
      refine bodyPost_ret (v := .tuple #[.agg #[.int .i64 0, .slice none 0 0], .int .i64 52]) (results_cell_tmp Try.results53 _ _ rfl rfl HL.out) rfl ⟨HB9.out, ?_⟩
      exact .inl ⟨52, by rw [HDf.out]; rfl, by omega, rfl⟩
    · have q1 : ((n : Int) == 4) = false := by simp; omega
      have q2 : ((n : Int) != 0) = true := by simp; omega
      have HN : Hid (d.entry i = .error n) := by show _ = _; rw [HDf.out]; show Except.error (if n = 4 then 52 else n) = _; rw [if_neg hn4]
      have HN0 := Lib.hid hn0
      clear hn4 hn0
      obtain ⟨W9, hS, hR9, hC9⟩ := entry_store w1 _ _ (.int .i64 0) (.slice none 0 0) HX1.out rfl rfl rfl
      have HS := Lib.hid hS
      have HL := Lib.hid (entry_load W9 _ _ _ hR9)
      have HB9 := Lib.hid (HB1.out.trans (hC9.below HB1.out.size (by simp)))
      
      clear hS hR9 hC9
      go_wp2_with (first | (guard_target =~ wpList _ _ _ (Oper.mk _ (Op.store 63 _ _) _ _ _ _ :: _) _ _; refine wpList_skp rfl (exec_store rfl rfl rfl HS.out) ?_))
      refine bodyPost_ret (v := .tuple #[.agg #[.int .i64 0, .slice none 0 0], .int .i64 (n : Int)]) (results_cell_tmp Try.results53 _ _ rfl rfl HL.out) rfl ⟨HB9.out, ?_⟩
      exact .inl ⟨n, HN.out, HN0.out, rfl⟩
  · have HB1 := Lib.hid (HB0.out.trans (hb1.mono HB0.out.size))
    have HX1 := Lib.hid (HX0.out.keep hb1)
    have HT := Lib.hid (readTitle_any b g w1.heap.size w1 (Blk.bs hK hok.2) (Nat.le_refl _) hok.1)
    have HTl := Lib.hid (readTitleL_lt b)
    have HDb : Hid (d.entry i = entT rs (readTitleL b)) := HDf.out
    obtain ⟨⟨p, tk⟩, htp⟩ : ∃ r, readTitleL b = r := ⟨_, rfl⟩
    rw [htp] at HT HDb HTl
    clear hb1 HX0 HB0 hg hok hK HDf HRd HEr htp
    go_wp2_with fail
    refine HT.out.mono ?_
    rintro e w2 ⟨rfl, hb2⟩
    have HB2 := Lib.hid (HB1.out.trans (hb2.mono HB1.out.size))
    have HX2 := Lib.hid (HX1.out.keep hb2)
    clear hb2 HX1 HB1 HT
    cases tk with
    | false =>
      obtain ⟨W9, hS, hR9, hC9⟩ := entry_store w2 _ _ (.int .i64 0) (.slice none 0 0) HX2.out rfl rfl rfl
      have HS := Lib.hid hS
      have HL := Lib.hid (entry_load W9 _ _ _ hR9)
      have HB9 := Lib.hid (HB2.out.trans (hC9.below HB2.out.size (by simp)))
      
      clear hS hR9 hC9
      go_wp2_with (first | (guard_target =~ wpList _ _ _ (Oper.mk _ (Op.store 63 _ _) _ _ _ _ :: _) _ _; refine wpList_skp rfl (exec_store rfl rfl rfl HS.out) ?_))
      refine bodyPost_ret (v := .tuple #[.agg #[.int .i64 0, .slice none 0 0], .int .i64 52]) (results_cell_tmp Try.results53 _ _ rfl rfl HL.out) rfl ⟨HB9.out, ?_⟩
      exact .inl ⟨52, HDb.out, by omega, rfl⟩
    | true =>
      have HDc : Hid (d.entry i = entS p rs) := HDb.out
      clear HDb
      go_wp2_with fail
      refine (HEa.out _).mono ?_
      rintro e wy ⟨rfl, rfl⟩
      go_wp2_with fail
      refine (HRs.out _ HB2.out).mono ?_
      rintro e w3 ⟨hb3, ⟨n, rfl, rfl⟩ | ⟨l, wh, g2, rfl, rfl, hg2, hl, hlt, hK2⟩⟩
      · have HB3 := Lib.hid (HB2.out.trans (hb3.mono HB2.out.size))
        have HX3 := Lib.hid (HX2.out.keep hb3)
        have hn0 := HEs.out n rfl
        have q2 : ((n : Int) != 0) = true := by simp; omega
        have HN0 := Lib.hid hn0
        clear hb3 HX2 HB2 hn0
        obtain ⟨W9, hS, hR9, hC9⟩ := entry_store w3 _ _ (.int .i64 0) (.slice none 0 0) HX3.out rfl rfl rfl
        have HS := Lib.hid hS
        have HL := Lib.hid (entry_load W9 _ _ _ hR9)
        have HB9 := Lib.hid (HB3.out.trans (hC9.below HB3.out.size (by simp)))
        
        clear hS hR9 hC9
        go_wp2_with (first | (guard_target =~ wpList _ _ _ (Oper.mk _ (Op.store 63 _ _) _ _ _ _ :: _) _ _; refine wpList_skp rfl (exec_store rfl rfl rfl HS.out) ?_))
        refine bodyPost_ret (v := .tuple #[.agg #[.int .i64 0, .slice none 0 0], .int .i64 (n : Int)]) (results_cell_tmp Try.results53 _ _ rfl rfl HL.out) rfl ⟨HB9.out, ?_⟩
        exact .inl ⟨n, HDc.out, HN0.out, rfl⟩
      · have HB3 := Lib.hid (HB2.out.trans (hb3.mono HB2.out.size))
        have HX3 := Lib.hid (HX2.out.keep hb3)
        have HG2 : Hid (wy.heap.size ≤ g2) := hg2
        have HLl := Lib.hid hl
        have HLt := Lib.hid hlt
        have HK2 := Lib.hid hK2
        have HX2l := Lib.hid HX2.out.lt
        clear hb3 hg2 hl hlt hK2 HX2
        cases wh with
        | false =>
          obtain ⟨W9, hS, hR9, hC9⟩ := entry_store w3 _ _ (.int .i64 0) (.slice none 0 0) HX3.out rfl rfl rfl
          have HS := Lib.hid hS
          have HL := Lib.hid (entry_load W9 _ _ _ hR9)
          have HB9 := Lib.hid (HB3.out.trans (hC9.below HB3.out.size (by simp)))
          
          clear hS hR9 hC9
          go_wp2_with (first | (guard_target =~ wpList _ _ _ (Oper.mk _ (Op.store 63 _ _) _ _ _ _ :: _) _ _; refine wpList_skp rfl (exec_store rfl rfl rfl HS.out) ?_))
          refine bodyPost_ret (v := .tuple #[.agg #[.int .i64 0, .slice none 0 0], .int .i64 52]) (results_cell_tmp Try.results53 _ _ rfl rfl HL.out) rfl ⟨HB9.out, ?_⟩
          exact .inl ⟨52, HDc.out, by omega, rfl⟩
        | true =>
          obtain ⟨W9, hS, hR9, hC9⟩ := entry_store w3 _ _ (.int .i64 (p : Int)) (.slice (some ⟨g2, 0, none⟩) 512 512) HX3.out rfl rfl rfl
          have HS := Lib.hid hS
          have HL := Lib.hid (entry_load W9 _ _ _ hR9)
          have HB9 := Lib.hid (HB3.out.trans (hC9.below HB3.out.size (by simp)))
          have HC9 := Lib.hid hC9
          clear hS hR9 hC9
          go_wp2_with (first | (guard_target =~ wpList _ _ _ (Oper.mk _ (Op.store 63 _ _) _ _ _ _ :: _) _ _; refine wpList_skp rfl (exec_store rfl rfl rfl HS.out) ?_))
          refine bodyPost_ret (v := .tuple #[.agg #[.int .i64 (p : Int), .slice (some ⟨g2, 0, none⟩) 512 512], .int .i64 0]) (results_cell_tmp Try.results53 _ _ rfl rfl HL.out) rfl ⟨HB9.out, ?_⟩
          refine .inr ⟨p, l, g2, HDc.out, HTl.out, rfl, Nat.le_trans HB2.out.size HG2.out, HLl.out, HLt.out, HK2.out.chg HC9.out ?_⟩
          intro hm
          rw [List.mem_singleton] at hm
          have := HX2l.out
          have := HG2.out
          omega
end Go.Proofs.Ythfgjkmfabmipaa

/- Journal: Load. -/
set_option linter.unusedSimpArgs false
set_option linter.unusedVariables false
set_option maxRecDepth 100000
namespace Go.Proofs.Ythfgjkmfabmipaa
open Go.RowKit

theorem results_tmp4 {fn : Func} {t u v x : Tmp} (h : fn.results = #[.tmp t, .tmp u, .tmp v, .tmp x]) (tmps : Array Value) (P : Program) (w : World) :
    (results fn tmps).run P w = .ok (.tuple #[tmps.getD t undef, tmps.getD u undef, tmps.getD v undef, tmps.getD x undef]) w := by
  simp [results, h]

def DS.entries (d : DS) : Nat → Except Nat (List (Nat × List Nat))
  | 0 => .ok []
  | k + 1 => match d.entries k with
    | .error n => .error n
    | .ok L => match d.entry k with
      | .error n => .error n
      | .ok e => .ok (L ++ [e])
theorem entries_stop {d : DS} {k : Nat} {e : Nat} (h : d.entries k = .error e) : ∀ m, k ≤ m → d.entries m = .error e
  | 0, hm => by have : k = 0 := by omega
                subst this; exact h
  | m + 1, hm => by
    by_cases hk : k = m + 1
    · rw [← hk]; exact h
    · have := entries_stop h m (by omega)
      simp only [DS.entries, this]
def loadE (p : Nat) : Except Nat (List (Nat × List Nat)) → Except Nat (Option (List (Nat × List Nat) × Nat))
  | .error n => .error n
  | .ok L => .ok (some (L, p))
def loadH (d : DS) : Option (Nat × Nat) → Except Nat (Option (List (Nat × List Nat) × Nat))
  | none => .ok none
  | some (c, p) => loadE p (d.entries c)
def loadR (d : DS) : Except Nat (List Nat) → Except Nat (Option (List (Nat × List Nat) × Nat))
  | .error n => if n = 4 then .ok none else .error n
  | .ok b => loadH d (readHeadL b)
/-- What Load tells. -/
def DS.load (d : DS) : Except Nat (Option (List (Nat × List Nat) × Nat)) := loadR d (d.read 1 0)

/-- An entry in memory that a call made. -/
def EnGood (N : Nat) (W : World) (e : En) : Prop := ∃ g, e.a = some ⟨g, 0, none⟩ ∧ e.n = 512 ∧ e.c = 512 ∧ N ≤ g ∧ (0 ≤ e.p ∧ e.p < 4096) ∧ e.l.length = 512 ∧ (∀ c ∈ e.l, c < 256) ∧ Blk W g 5 (cellsA e.l)
def enX (e : En) : Nat × List Nat := (e.p.toNat, e.l)
theorem EnGood.keep {N : Nat} {W W' : World} {e : En} (h : EnGood N W e) (hb : Below W.heap.size W W') : EnGood N W' e := by
  obtain ⟨g, h1, h2, h3, h4, h5, h6, h7, h8⟩ := h
  exact ⟨g, h1, h2, h3, h4, h5, h6, h7, h8.keep hb⟩
theorem EnGood.own {N base : Nat} {W W' : World} {e : En} {v : Value} {n : Nat} {xs : List Value} (h : EnGood N W e) (hown : W.ownsRow base 63 2 v n xs) (hc : Chg v.ownBlock.toList W W') : EnGood N W' e := by
  obtain ⟨g, h1, h2, h3, h4, h5, h6, h7, h8⟩ := h
  exact ⟨g, h1, h2, h3, h4, h5, h6, h7, h8.chg hc (fun hm => own_ne hown h8 (by decide) (by simpa using hm))⟩
/-- What Load hands back. -/
def RetLd (w : World) (r : Except Nat (Option (List (Nat × List Nat) × Nat))) (e : Ending) (w' : World) : Prop :=
  Below w.heap.size w w' ∧ ((∃ n : Nat, r = .error n ∧ n ≠ 0 ∧ e = .returned (.tuple #[.slice none 0 0, .int .i64 0, .bool false, .int .i64 (n : Int)])) ∨
    (r = .ok none ∧ e = .returned (.tuple #[.slice none 0 0, .int .i64 0, .bool false, .int .i64 0])) ∨
    ∃ (E : List En) (p : Nat) (a : Option Addr) (cap : Nat), r = .ok (some (E.map enX, p)) ∧ E.length ≤ 4096 ∧ e = .returned (.tuple #[.slice a E.length cap, .int .i64 (p : Int), .bool true, .int .i64 0]) ∧ w'.ownsRow w.heap.size 63 2 (.slice a E.length cap) E.length (cellsE E) ∧ ∀ e ∈ E, EnGood w.heap.size w' e)
theorem infoE : (Try.prog.info? 63).map (fun i => (i.zero, i.size, i.bytes)) = some (some (.agg #[.int .i64 0, .slice none 0 0]), 2, 32) := by kernel_rfl
theorem cellsE_snoc (E : List En) (e : En) : cellsE (E ++ [e]) = cellsE E ++ e.vals := cellsOf_snoc _ _ _

set_option maxRecDepth 100000 in
set_option maxHeartbeats 8000000 in
theorem Load_any {w : World} {B : Nat} {S : List Nat} {d : DS} (h : IsDisk w B S d) :
    Calls Try.prog 20 #[.pointer (some ⟨B, 0, none⟩)] w (RetLd w d.load) := by
  obtain ⟨iE, hiE, hzE, hsE, hbE⟩ := info_parts infoE
  have HRd := Lib.hid (DRead h 1 0)
  have HEn := Lib.hid (fun (k : Nat) (hk : k ≤ 100000) W (hb : Below w.heap.size w W) => readEntry_any (h.chg (T := []) (Below.chg0 hb []) (by simp)) k hk)
  have HDf : Hid (d.load = loadR d (d.read 1 0)) := rfl
  have HEr := Lib.hid (fun n => read_err (d := d) (f := 1) (s := 0) (n := n))
  obtain ⟨rr, hrr⟩ : ∃ rr, d.read 1 0 = rr := ⟨_, rfl⟩
  rw [hrr] at HRd HDf HEr
  clear h hrr
  go_enter Try.func20, Try.ntmps20
  go_wp2_with fail
  refine HRd.out.mono ?_
  rintro e w1 ⟨hb1, ⟨n, rfl, rfl⟩ | ⟨b, g, rfl, rfl, hg, hok, hK⟩⟩
  · have HB1 := Lib.hid hb1
    by_cases hn4 : n = 4
    · subst hn4
      have HH := Lib.hid (ReadHead_any [] none 0 0 w1 ⟨by simp, .inl rfl⟩ rfl (Nat.le_refl _) (by omega))
      rw [show readHeadL [] = none from if_neg (fun hh => by cases hh.1)] at HH
      have HE : Hid (d.load = .ok none) := HDf.out
      clear hb1 HRd HDf HEr
      go_wp2_with fail
      refine HH.out.mono ?_
      rintro e w2 ⟨rfl, hb2⟩
      have HB2 := Lib.hid (HB1.out.trans (hb2.mono HB1.out.size))
      unfold headV
      clear hb2 HH
      go_wp2
      (try simp only [Exit.inBlock, Exit.then])
      refine bodyPost_ret (results_tmp4 rfl _ _ _) rfl ?_
      exact ⟨HB2.out, .inr (.inl ⟨HE.out, rfl⟩)⟩
    · have hn0 := HEr.out n rfl
      have q1 : ((n : Int) != 4) = true := by simp; omega
      have q2 : ((n : Int) != 0) = true := by simp; omega
      have HE : Hid (d.load = .error n) := by show _ = _; rw [HDf.out]; exact if_neg hn4
      have HN0 := Lib.hid hn0
      clear hb1 HRd HDf HEr hn4 hn0
      go_wp2
      (try simp only [Exit.inBlock, Exit.then])
      refine bodyPost_ret (results_tmp4 rfl _ _ _) rfl ?_
      exact ⟨HB1.out, .inl ⟨n, HE.out, HN0.out, rfl⟩⟩
  · have HB1 := Lib.hid hb1
    have HH := Lib.hid (ReadHead_any b (some ⟨g, 0, none⟩) 128 128 w1 (Blk.bs hK hok.2) hok.1.symm (Nat.le_refl _) (by omega))
    have HDh : Hid (d.load = loadH d (readHeadL b)) := HDf.out
    have HCl : Hid (∀ c p, readHeadL b = some (c, p) → c ≤ 4096) := fun c p hh => by
      unfold readHeadL at hh
      split at hh
      · rename_i h4; injection hh with hh; injection hh with h1 h2; subst h1; exact h4.2.1
      · cases hh
    obtain ⟨rh, hrh⟩ : ∃ rh, readHeadL b = rh := ⟨_, rfl⟩
    rw [hrh] at HH HDh HCl
    clear hb1 HRd HDf HEr hg hok hK hrh
    go_wp2_with fail
    refine HH.out.mono ?_
    rintro e w2 ⟨rfl, hb2⟩
    have HB2 := Lib.hid (HB1.out.trans (hb2.mono HB1.out.size))
    clear hb2 HH HB1
    cases rh with
    | none =>
      have HE : Hid (d.load = .ok none) := HDh.out
      unfold headV
      clear HDh HCl
      go_wp2
      (try simp only [Exit.inBlock, Exit.then])
      refine bodyPost_ret (results_tmp4 rfl _ _ _) rfl ?_
      exact ⟨HB2.out, .inr (.inl ⟨HE.out, rfl⟩)⟩
    | some cp =>
      obtain ⟨c, p⟩ := cp
      have hc : c ≤ 4096 := HCl.out c p rfl
      have HDe : Hid (d.load = loadE p (d.entries c)) := HDh.out
      unfold headV
      clear HDh HCl
      go_wp2
      go_loopw [11, 36] (fun v0 i wr => ∃ (k : Nat) (v : Value) (E : List En), k ≤ c ∧ i = .int .i64 (k : Int) ∧ v = v0 ∧ Hid (E.length = k) ∧ Hid (d.entries k = .ok (E.map enX)) ∧ Hid (wr.ownsRow w.heap.size 63 2 v k (cellsE E)) ∧ Hid (∀ e ∈ E, EnGood w.heap.size wr e) ∧ Hid (Below w.heap.size w wr)) (fun _ i _ => c - (intOf i).toNat)
      case atStart => exact ⟨0, _, [], by omega, rfl, rfl, rfl, rfl, World.ownsRow_nil _ _ _ _, (by intro e he; cases he), HB2⟩
      case round =>
        clear HB2
        obtain ⟨k, v, E, hk, rfl, rfl, HEl, HEs, HOw, HGd, HBw⟩ := hrel
        by_cases hlt : k < c
        · have HRe := Lib.hid (HEn.out k (by omega) wr HBw.out)
          have HNx : Hid (d.entries (k + 1) = match d.entry k with | .error n => .error n | .ok e => .ok (E.map enX ++ [e])) := by
            show _ = _
            simp only [DS.entries, HEs.out]
          obtain ⟨re, hre⟩ : ∃ re, d.entry k = re := ⟨_, rfl⟩
          rw [hre] at HRe HNx
          clear hre
          go_wp2_with fail
          refine HRe.out.mono ?_
          rintro e w3 ⟨hb3, ⟨n, rfl, hn0, rfl⟩ | ⟨q, l, g3, rfl, hq, rfl, hg3, hl, hlt3, hK3⟩⟩
          · have HB3 := Lib.hid (HBw.out.trans (hb3.mono HBw.out.size))
            have q2 : ((n : Int) != 0) = true := by simp; omega
            have HN0 := Lib.hid hn0
            have HE : Hid (d.load = .error n) := by
              show _ = _
              rw [HDe.out, entries_stop (k := k + 1) HNx.out c (by omega)]; rfl
            clear hb3 HRe HNx hn0
            go_wp2
            (try rw [Exit.noGoto_ret])
            (try simp only [Exit.inBlock, Exit.then])
            refine bodyPost_ret (results_tmp4 rfl _ _ _) rfl ?_
            exact ⟨HB3.out.alloc HB3.out.size _, .inl ⟨n, HE.out, HN0.out, rfl⟩⟩
          · have HB3 := Lib.hid (HBw.out.trans (hb3.mono HBw.out.size))
            have HN4 : Hid (d.entries (k + 1) = .ok ((E ++ [En.mk (q : Int) (some (Addr.mk g3 0 none)) 512 512 l]).map enX)) := by
              show _ = _
              rw [HNx.out, List.map_append]; rfl
            have HGe : Hid (EnGood w.heap.size w3 (En.mk (q : Int) (some (Addr.mk g3 0 none)) 512 512 l)) := by
              show EnGood _ _ _
              exact ⟨g3, rfl, rfl, rfl, Nat.le_trans HBw.out.size hg3, ⟨by show (0 : Int) ≤ q; omega, by show (q : Int) < 4096; omega⟩, hl, hlt3, hK3⟩
            have HOw3 := Lib.hid (own_below HOw.out (Nat.le_refl _) hb3)
            have HGd3 : Hid (∀ e ∈ E, EnGood w.heap.size w3 e) := fun e he => (HGd.out e he).keep hb3
            have HBa : Hid (Below w3.heap.size w3 (w3.alloc (.cells #[.int .i64 (q : Int), .slice (some ⟨g3, 0, none⟩) 512 512] 63))) := (Below.refl _ _).alloc (Nat.le_refl _) _
            have HOw4 := Lib.hid (own_below HOw3.out (Nat.le_refl _) HBa.out)
            have HBb : Hid (Below (w3.alloc (.cells #[.int .i64 (q : Int), .slice (some ⟨g3, 0, none⟩) 512 512] 63)).heap.size (w3.alloc (.cells #[.int .i64 (q : Int), .slice (some ⟨g3, 0, none⟩) 512 512] 63)) ((w3.alloc (.cells #[.int .i64 (q : Int), .slice (some ⟨g3, 0, none⟩) 512 512] 63)).alloc (.cells #[.int .i64 (q : Int), .slice (some ⟨g3, 0, none⟩) 512 512] 63))) := (Below.refl _ _).alloc (Nat.le_refl _) _
            have hbs : w.heap.size ≤ (w3.alloc (.cells #[.int .i64 (q : Int), .slice (some ⟨g3, 0, none⟩) 512 512] 63)).heap.size := Nat.le_trans HB3.out.size HBa.out.size
            have HBs := Lib.hid hbs
            have HSz : Hid ((w3.alloc (.cells #[.int .i64 (q : Int), .slice (some ⟨g3, 0, none⟩) 512 512] 63)).heap.size = w3.heap.size + 1) := by show _ = _; simp
            clear hb3 HRe HNx hg3 hl hlt3 hK3 HGd HBw HOw hbs hq
            go_wp2_with (first | (at_builtin; refine wpList_appC rfl _ _ 46 rfl w.heap.size 63 iE (.agg #[.int .i64 0, .slice none 0 0]) 2 32 Try.underlying46 hiE hzE rfl hsE (by omega) hbE (by omega) v k _ [.int .i64 (q : Int), .slice (some ⟨g3, 0, none⟩) 512 512] (w3.alloc (.cells #[.int .i64 (q : Int), .slice (some ⟨g3, 0, none⟩) 512 512] 63)) HOw4.out rfl _ rfl rfl (by simp [Value.oneCell']) (by rw [HSz.out]; rfl) (by omega) HBs.out ?_; intro v5 w5 hown5 hc5 hsz5; have HO5 := Lib.hid hown5; have HC5 := Lib.hid hc5; clear hown5 hc5 hsz5))
            have HOn : Hid (w5.ownsRow w.heap.size 63 2 v5 (k + 1) (cellsE (E ++ [⟨(q : Int), some ⟨g3, 0, none⟩, 512, 512, l⟩]))) := by
              have := HO5.out
              rw [cellsE_snoc]
              exact this
            have hown6 := own_below HOw4.out (Nat.le_refl _) HBb.out
            have HGn : Hid (∀ e ∈ E ++ [⟨(q : Int), some ⟨g3, 0, none⟩, 512, 512, l⟩], EnGood w.heap.size w5 e) := fun e he => by
              have hx : EnGood w.heap.size w3 e := by
                rcases List.mem_append.1 he with he | he
                · exact HGd3.out e he
                · rw [List.mem_singleton.1 he]; exact HGe.out
              exact ((hx.keep HBa.out).keep HBb.out).own hown6 HC5.out
            have HBn : Hid (Below w.heap.size w w5) := HB3.out.trans ((HBa.out.trans (HBb.out.mono HBa.out.size)).mono HB3.out.size |>.trans (HC5.out.below (Nat.le_trans HBs.out HBb.out.size) (fun g hg => by
              rw [Option.mem_toList] at hg
              exact (hown6.lt g hg).1)))
            have HEl2 : Hid ((E ++ [⟨(q : Int), some ⟨g3, 0, none⟩, 512, 512, l⟩] : List En).length = k + 1) := by show _ = _; rw [List.length_append, HEl.out]; rfl
            clear hown6
            go_roundw
            case rel => exact ⟨k + 1, v5, _, by omega, by go_num, rfl, HEl2, HN4, HOn, HGn, HBn⟩
            case measure => simp [intOf]; omega
        · have hke : k = c := by omega
          subst hke
          obtain ⟨a9, c9, hv9, -, -, -⟩ := own_slice HOw.out
          subst hv9
          have HE : Hid (d.load = .ok (some (E.map enX, p))) := by show _ = _; rw [HDe.out, HEs.out]; rfl
          have HOe := HOw
          rw [← HEl.out] at HOe
          clear HDe
          go_wp2
          (try rw [Exit.noGoto_ret])
          (try simp only [Exit.inBlock, Exit.then])
          refine bodyPost_ret (results_tmp4 rfl _ _ _) rfl ?_
          exact ⟨HBw.out, .inr (.inr ⟨E, p, a9, c9, HE.out, by rw [HEl.out]; exact hc, by rw [HEl.out]; rfl, HOe.out, HGd.out⟩)⟩
end Go.Proofs.Ythfgjkmfabmipaa

/- Journal: restorePage, Restore. -/
set_option linter.unusedSimpArgs false
set_option linter.unusedVariables false
set_option maxRecDepth 100000
namespace Go.Proofs.Ythfgjkmfabmipaa
open Go.RowKit

/-- The first k sectors of a page are put back. -/
def DS.backK (d : DS) (p : Nat) (l : List Nat) : Nat → Nat × DS
  | 0 => (0, d)
  | k + 1 => thenD (d.backK p l k) fun d' => if d'.lenI 0 ≤ ((4 * p + k : Nat) : Int) ∧ sec l k = zs 128 then (0, d') else d'.write 0 ((4 * p + k : Nat) : Int) (sec l k)
theorem backK_room {p : Nat} {l : List Nat} : ∀ {k n : Nat} {d : DS}, d.room (k + n) → (d.backK p l k).2.room n
  | 0, n, d, h => by simpa [DS.backK] using h
  | k + 1, n, d, h => by
    have h2 : k + 1 + n = k + (n + 1) := by omega
    rw [h2] at h
    have h1 : (d.backK p l k).2.room (n + 1) := backK_room h
    unfold DS.backK
    by_cases h0 : (d.backK p l k).1 = 0
    · rw [thenD_ok h0]
      split
      · exact h1.mono (by omega)
      · exact write_room _ _ _ h1
    · rw [thenD_bad h0]; exact h1.mono (by omega)
theorem backK_stop {d d' : DS} {p : Nat} {l : List Nat} {k e : Nat} (h : d.backK p l k = (e, d')) (he : e ≠ 0) : ∀ m, k ≤ m → d.backK p l m = (e, d')
  | 0, hm => by have : k = 0 := by omega
                subst this; exact h
  | m + 1, hm => by
    by_cases hk : k = m + 1
    · rw [← hk]; exact h
    · have := backK_stop h he m (by omega)
      unfold DS.backK
      rw [this, thenD_bad he]

set_option maxRecDepth 100000 in
set_option maxHeartbeats 8000000 in
theorem restorePage_any {w : World} {B : Nat} {S : List Nat} {d : DS} (h : IsDisk w B S d) (p : Nat) (hp : p < 4096) (l : List Nat) (b : Nat) (hB : Bs w.heap.size w (some ⟨b, 0, none⟩) l) (hl : l.length = 512) (hS : b ∉ S) (hr : d.room 4) :
    Calls Try.prog 54 #[.pointer (some ⟨B, 0, none⟩), .agg #[.int .i64 (p : Int), .slice (some ⟨b, 0, none⟩) 512 512]] w (RetI w B S (d.backK p l 4)) := by
  have hbl : b < w.heap.size := hB.blk_lt (by intro h0; rw [h0] at hl; cases hl)
  obtain ⟨w0, hw0⟩ : ∃ w0, w.alloc (.cells #[.int .i64 (p : Int), .slice (some ⟨b, 0, none⟩) 512 512] 63) = w0 := ⟨_, rfl⟩
  have hs0 : w0.heap.size = w.heap.size + 1 := by rw [← hw0]; simp
  have hX0 : Blk w0 w.heap.size 63 #[.int .i64 (p : Int), .slice (some ⟨b, 0, none⟩) 512 512] := by rw [← hw0]; exact Blk.new _ _ _
  have hb0 : Below w.heap.size w w0 := by rw [← hw0]; exact (Below.refl _ _).alloc (Nat.le_refl _) _
  obtain ⟨w1, hw1⟩ : ∃ w1, w0.alloc (.cells (cellsA (zs 128)) 5) = w1 := ⟨_, rfl⟩
  have hmk : (Instr.makeSlice 30 (.int .i64 128) (.int .i64 128)).run Try.prog w0 = .ok (.slice (some ⟨w0.heap.size, 0, none⟩) 128 128) w1 := by rw [make128 w0, hw1]
  have hZ1 : Blk w1 w0.heap.size 5 (cellsA (zs 128)) := by rw [← hw1]; exact Blk.new _ _ _
  have hb1 : Below w0.heap.size w0 w1 := by rw [← hw1]; exact (Below.refl _ _).alloc (Nat.le_refl _) _
  have hb01 : Below w.heap.size w w1 := hb0.trans (hb1.mono hb0.size)
  have HX1 := Lib.hid (hX0.keep hb1)
  have HZ1 := Lib.hid hZ1
  have HB1 := Lib.hid hb01
  have HW1 := Lib.hid (Way.new (h.chg (T := []) (Below.chg0 hb01 []) (by simp)))
  have HBs := Lib.hid ((hB.below hb01).mono hb01.size)
  have HxS : Hid (w.heap.size ∉ S) := fun hm => by have := h.lt _ hm; omega
  have HzS : Hid (w0.heap.size ∉ S) := fun hm => by have := h.lt _ hm; omega
  have HxL : Hid (w.heap.size < w1.heap.size) := HX1.out.lt
  have HzL : Hid (w0.heap.size < w1.heap.size) := HZ1.out.lt
  have HbL : Hid (b < w1.heap.size) := by show _ < _; have := hb01.size; omega
  have HbS := Lib.hid hS
  have HL := Lib.hid hl
  have HR := Lib.hid hr
  have HCt := Lib.hid (fun k (hk : k < 4) W => cut_any b 0 512 k hk (by omega) (by omega) W)
  have HW0 := Lib.hid hw0
  generalize hzb : w0.heap.size = zb at *
  clear h hB hl hS hr hbl hX0 hb0 hw1 hZ1 hb1 hb01 hw0 hs0
  go_enter Try.func54, Try.ntmps54
  go_upto_region 1 with (fail)
  rw [HW0.out]
  go_wp2
  clear hmk hzb
  go_loopw [11] (fun i wr => ∃ (k : Nat) (dk : DS) (S' : List Nat), k ≤ 4 ∧ i = .int .i64 (k : Int) ∧ Hid (d.backK p l k = (0, dk)) ∧ Hid (Way w1 wr B S S' dk) ∧ Hid (dk.room (4 - k))) (fun i _ => 4 - (intOf i).toNat)
  case atStart => exact ⟨0, d, S, by omega, rfl, rfl, HW1, HR⟩
  case round =>
    clear HW1 HR
    obtain ⟨k, dk, S', hk, rfl, HD, HW, HR⟩ := hrel
    by_cases hlt : k < 4
    · have HXr := Lib.hid (HX1.out.chg HW.out.chg HxS.out)
      have HZr := Lib.hid (HZ1.out.chg HW.out.chg HzS.out)
      have HC := Lib.hid (fun W => HCt.out k hlt W)
      have HWd : Hid (Way w1 wr.drew B S S' dk) := HW.out.below (Below.refl _ _).drew
      have HLn := Lib.hid (DLen HWd.out.disk 0)
      have HBk : Hid (Bs w1.heap.size wr.drew (some ⟨b, 0 + 128 * k, none⟩) (sec l k)) := (HWd.out.bs HBs.out (Nat.le_refl _) HbS.out).sec k
      have HNx : Hid (d.backK p l (k + 1) = if dk.lenI 0 ≤ ((4 * p + k : Nat) : Int) ∧ sec l k = zs 128 then (0, dk) else dk.write 0 ((4 * p + k : Nat) : Int) (sec l k)) := by
        show _ = _
        rw [DS.backK, HD.out, thenD_ok rfl]
      have HRk : Hid (dk.room (4 - (k + 1) + 1)) := HR.out.mono (by omega)
      have HWr := Lib.hid (fun W (hW : Way w1 W B S S' dk) => DWrite hW.disk 0 ((4 * p + k : Nat) : Int) (sec l k) (some ⟨b, 0 + 128 * k, none⟩) 128 128 w1.heap.size ((hW.bs HBs.out (Nat.le_refl _) HbS.out).sec k) hW.chg.size (sec_len l k HL.out hlt).symm (by omega) (by have := HRk.out.1; omega) (by have := HRk.out.2; omega))
      have HRn := Lib.hid (write_room 0 ((4 * p + k : Nat) : Int) (sec l k) HRk.out)
      have HSm := Lib.hid (jsame_any (sec l k) (zs 128) (some ⟨b, 0 + 128 * k, none⟩) (some ⟨zb, 0, none⟩) 128 128 w1.heap.size wr.drew.heap.size wr.drew HBk.out (sec_len l k HL.out hlt) HW.out.chg.size ((HZr.out.keep (Below.refl _ _).drew).bsA (zs_lt _)) (zs_len _) (Nat.le_refl _))
      obtain ⟨ln, hln⟩ : ∃ ln, dk.lenI 0 = ln := ⟨_, rfl⟩
      rw [hln] at HLn HNx
      have HSz : Hid (sec l k = zs 128 ↔ decide (sec l k = zs 128) = true) := by show _ ↔ _; simp
      generalize decide (sec l k = zs 128) = D at *
      obtain ⟨⟨e1, d1⟩, he1⟩ : ∃ r, dk.write 0 ((4 * p + k : Nat) : Int) (sec l k) = r := ⟨_, rfl⟩
      rw [he1] at HWr HRn HNx
      have HRkk := Lib.hid (HR.out.mono (m := 4 - (k + 1)) (by omega))
      have e0 : ∀ W, Later wr.drew W → W.cell? ⟨w.heap.size, 0, none⟩ = some (.int .i64 (p : Int)) := fun W hW => ((Later.undrew hW).cell (p := ⟨w.heap.size, 0, none⟩) HXr.out.lt).trans ((HXr.out.cell 0).trans rfl)
      have e1' : ∀ W, Later wr.drew W → W.cell? ⟨w.heap.size, 1, none⟩ = some (.slice (some ⟨b, 0, none⟩) 512 512) := fun W hW => ((Later.undrew hW).cell (p := ⟨w.heap.size, 1, none⟩) HXr.out.lt).trans ((HXr.out.cell 1).trans rfl)
      have hw4 : IntKind.i64.wrap (4 * (p : Int)) = 4 * (p : Int) := IntWalk.i64_in _ ⟨by omega, by omega⟩
      have hw5 : IntKind.i64.wrap (4 * (p : Int) + (k : Int)) = 4 * (p : Int) + (k : Int) := IntWalk.i64_in _ ⟨by omega, by omega⟩
      rw [show ((4 * p + k : Nat) : Int) = 4 * (p : Int) + (k : Int) by omega] at HNx HWr
      simp only [Nat.zero_add] at HWr HSm HC
      clear he1 HRk hln HW HBk HXr HZr HR
      go_wp2_with fail
      refine wp_region_ord [(0, true), (1, true), (2, true), (4, true), (5, true), (6, true), (7, true), (8, true), (3, false), (9, true), (10, true)] (by kernel_rfl) (by kernel_rfl) (by kernel_rfl) (by kernel_rfl) ?_
      repeat (first | (refine wpO_F (v := ?_) rfl (by rfl) (fun w' hL => ?_) ?_; rotate_left; (solve | (go_simp; with_reducible rfl) | go_simp); try simp only [Act.put, List.setIfInBounds_toArray, List.set_cons_zero, List.set_cons_succ]) | (refine wpO_G rfl (by rfl) ?_; try simp only [Act.put, List.setIfInBounds_toArray, List.set_cons_zero, List.set_cons_succ]))
      refine wpO_C rfl (by rfl) ?_
      go_simp
      refine (HC.out _).mono ?_
      rintro e wx ⟨rfl, rfl⟩
      refine ⟨Below.refl _ _, ?_⟩
      try simp only [Act.put, List.setIfInBounds_toArray, List.set_cons_zero, List.set_cons_succ]
      repeat (first | (refine wpO_F (v := ?_) rfl (by rfl) (fun w' hL => ?_) ?_; rotate_left; (solve | (go_simp; with_reducible rfl) | go_simp); try simp only [Act.put, List.setIfInBounds_toArray, List.set_cons_zero, List.set_cons_succ]) | (refine wpO_G rfl (by rfl) ?_; try simp only [Act.put, List.setIfInBounds_toArray, List.set_cons_zero, List.set_cons_succ]))
      refine wpO_nil ?_
      clear e0 e1' hw4 hw5
      go_wp2_with fail
      refine HLn.out.mono ?_
      rintro e wy ⟨rfl, rfl⟩
      by_cases hge : ln ≤ 4 * (p : Int) + (k : Int)
      · have q : decide (ln ≤ 4 * (p : Int) + (k : Int)) = true := by simpa using hge
        have HWe : Hid (Way w1 wr.drew.drew B S S' dk) := HWd.out.below (Below.refl _ _).drew
        go_wp2_with fail
        refine HSm.out.mono ?_
        rintro e wz ⟨rfl, rfl⟩
        clear HSm HWd
        cases D with
        | true =>
          have HNy : Hid (d.backK p l (k + 1) = (0, dk)) := by show _ = _; rw [HNx.out, if_pos ⟨hge, HSz.out.2 (by trivial)⟩]
          clear HNx HSz hge HWr
          go_wp2
          go_roundw
          case rel => exact ⟨k + 1, dk, S', by omega, by go_num, HNy, HWe, HRkk⟩
          case measure => simp [intOf]; omega
        | false =>
          have HNy : Hid (d.backK p l (k + 1) = (e1, d1)) := by show _ = _; rw [HNx.out, if_neg (fun hh => by have := HSz.out.1 hh.2; cases this)]
          clear HNx HSz hge
          go_wp2_with fail
          refine (HWr.out _ HWe.out).mono ?_
          rintro e w4 ⟨rfl, S4, hD4, hc4, hf4⟩
          have HW4 := Lib.hid (HWe.out.step hD4 hc4 hf4)
          clear hD4 hc4 hf4 HWr
          by_cases h0 : e1 = 0
          · subst h0
            go_wp2
            go_roundw
            case rel => exact ⟨k + 1, d1, S4, by omega, by go_num, HNy, HW4, HRn⟩
            case measure => simp [intOf]; omega
          · have q1 : ((e1 : Int) != 0) = true := by simp; omega
            have HE := Lib.hid (backK_stop HNy.out h0 4 (by omega))
            clear h0
            go_wp2
            (try rw [Exit.noGoto_ret])
            go_ret
            rw [HE.out]
            exact (HW4.out.back HB1.out).ret
      · have q : decide (ln ≤ 4 * (p : Int) + (k : Int)) = false := by simpa using hge
        have HNy : Hid (d.backK p l (k + 1) = (e1, d1)) := by show _ = _; rw [HNx.out, if_neg (fun hh => hge hh.1)]
        clear HNx HSz hge HSm
        go_wp2_with fail
        refine (HWr.out _ HWd.out).mono ?_
        rintro e w4 ⟨rfl, S4, hD4, hc4, hf4⟩
        have HW4 := Lib.hid (HWd.out.step hD4 hc4 hf4)
        clear hD4 hc4 hf4 HWr
        by_cases h0 : e1 = 0
        · subst h0
          go_wp2
          go_roundw
          case rel => exact ⟨k + 1, d1, S4, by omega, by go_num, HNy, HW4, HRn⟩
          case measure => simp [intOf]; omega
        · have q1 : ((e1 : Int) != 0) = true := by simp; omega
          have HE := Lib.hid (backK_stop HNy.out h0 4 (by omega))
          clear h0
          go_wp2
          (try rw [Exit.noGoto_ret])
          go_ret
          rw [HE.out]
          exact (HW4.out.back HB1.out).ret
    · have hk4 : k = 4 := by omega
      subst hk4
      go_wp2
      (try rw [Exit.noGoto_ret])
      go_ret
      rw [HD.out]
      exact (HW.out.back HB1.out).ret (r := 0)
end Go.Proofs.Ythfgjkmfabmipaa
