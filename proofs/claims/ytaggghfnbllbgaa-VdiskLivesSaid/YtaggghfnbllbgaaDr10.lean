/- One call of both disks. -/
import Derived.Test.YtaggghfnbllbgaaDr9
import Derived.Deep.Cut
namespace Go.Proofs.Ytaggghfnbllbgaa
set_option linter.unusedSimpArgs false
open Go.RowKit

def RetOne (w0 w : World) (B D c : Nat) (e : Ending) (w' : World) : Prop :=
  e = .returned (.bool true) ∧ w.heap.size < w'.heap.size ∧ ∃ d' x' S' lv' M', Pair w0 w' B D d' x' S' lv' M' ∧ Twin d' x' ∧ d'.calls ≤ c + 1 ∧ x'.L.length ≤ c + 1

set_option maxRecDepth 100000 in
set_option maxHeartbeats 16000000 in
theorem one_any {w0 w : World} {B D : Nat} {d : DS} {x : RS} {S : List Nat} {lv : Value} {M : List MR} {c : Nat} (h : Pair w0 w B D d x S lv M) (ht : Twin d x) (hc : d.calls ≤ c) (hl : x.L.length ≤ c) (hcm : c ≤ 1000) (o : DOp) (ho : o.fair w0) (hlen : o.len ≤ 100) :
    Calls Try.prog 14 #[.pointer (some ⟨B, 0, none⟩), .pointer (some ⟨D, 0, none⟩), .agg o.cells.toArray] w (RetOne w0 w B D c) := by
  obtain ⟨kind, file, sect, n, by_, oa, ol, oc, obs⟩ := o
  have hnb := ho.n
  have hby := ho.by_
  have hol := ho.len
  simp only at hnb hby hol hlen
  unfold DOp.cells
  simp only
  obtain ⟨w1, hw1⟩ : ∃ W, w.alloc (.cells #[.int .i64 kind, .int .i64 file, .int .i64 sect, .int .i64 n, .int .u8 (by_ : Int), .slice oa ol oc] 32) = W := ⟨_, rfl⟩
  have hb1 : Below w.heap.size w w1 := by rw [← hw1]; exact (Below.refl _ _).alloc (Nat.le_refl _) _
  have HP1 := Lib.hid (h.below hb1)
  have hblk1 : Blk w1 w.heap.size 32 #[.int .i64 kind, .int .i64 file, .int .i64 sect, .int .i64 n, .int .u8 (by_ : Int), .slice oa ol oc] := by rw [← hw1]; exact Blk.new _ _ _
  have hboS : w.heap.size ∉ S := fun hm => by have := h.disk.lt _ hm; omega
  have hboR : w.heap.size ∉ footR D lv M := fun hm => by have := h.ref.lt _ hm; omega
  have hboD : w.heap.size ≠ D := fun e => hboR (by rw [e]; simp [footR])
  have hbo := hblk1.lt
  have HOL := Lib.hid hol
  have HLn : Hid (ol ≤ 100) := hlen
  clear hol h hlen
  go_enter Try.func14, Try.ntmps14
  go_upto_region 1 with fail
  obtain ⟨bo, hboe⟩ : ∃ bo, w.heap.size = bo := ⟨_, rfl⟩
  rw [hboe]
  rw [hboe] at hblk1 hboS hboR hboD hbo
  have OC : ∀ j v, (#[.int .i64 kind, .int .i64 file, .int .i64 sect, .int .i64 n, .int .u8 (by_ : Int), .slice oa ol oc] : Array Value)[j]? = some v → w1.cell? ⟨bo, j, none⟩ = some v := fun j v hv => (hblk1.cell j).trans hv
  have OC2 : ∀ W, Below w1.heap.size w1 W → ∀ j v, (#[.int .i64 kind, .int .i64 file, .int .i64 sect, .int .i64 n, .int .u8 (by_ : Int), .slice oa ol oc] : Array Value)[j]? = some v → W.cell? ⟨bo, j, none⟩ = some v := fun W hW j v hv => (hW.cell (p := ⟨bo, j, none⟩) hbo).trans (OC j v hv)
  have o0 := OC 0 _ rfl
  have HBO := Lib.hid hboe
  clear hw1 hb1 hboe
  by_cases hk0 : kind = 0
  · as_aux_lemma =>
      subst hk0
      rcases hdw : d.write file sect (List.replicate (fullLen n) by_) with ⟨r, d'⟩
      rcases hxw : x.write file sect (List.replicate (fullLen n) by_) with ⟨r', x'⟩
      have htw := ht.write file sect (List.replicate (fullLen n) by_)
      have hcl := d.write_calls file sect (List.replicate (fullLen n) by_)
      have hxl := x.write_len file sect (List.replicate (fullLen n) by_)
      rw [hdw, hxw] at htw
      rw [hdw] at hcl
      rw [hxw] at hxl
      simp only at htw hcl hxl
      obtain ⟨rfl, htw⟩ := htw
      have HT := Lib.hid htw
      have HCL := Lib.hid (And.intro hcl hxl)
      have HDW := Lib.hid hdw
      have HXW := Lib.hid hxw
      have hfull := fullLen_le n
      have hrb : ∀ c ∈ List.replicate (fullLen n) by_, c < 256 := fun c hc => by have := List.eq_of_mem_replicate hc; omega
      clear htw hcl hxl hdw hxw
      have hboT : bo ∉ S ++ footR D lv M := fun hm => by rcases List.mem_append.1 hm with h | h; exact hboS h; exact hboR h
      have o1 := fun W (h : Chg (S ++ footR D lv M) w1.drew W) => (h.cell (b := bo) (o := 1) hbo hboT).trans (OC 1 _ rfl)
      have o2 := fun W (h : Chg (S ++ footR D lv M) w1.drew W) => (h.cell (b := bo) (o := 2) hbo hboT).trans (OC 2 _ rfl)
      have o3 := fun W (h : Chg (S ++ footR D lv M) w1.drew W) => (h.cell (b := bo) (o := 3) hbo hboT).trans (OC 3 _ rfl)
      have o4 := fun W (h : Chg (S ++ footR D lv M) w1.drew W) => (h.cell (b := bo) (o := 4) hbo hboT).trans (OC 4 _ rfl)
      go_wp2_with fail
      clear o0
      refine wp_region_ordS (S ++ footR D lv M) [(0, true), (1, true), (2, true), (3, true), (4, true), (5, true), (6, true), (7, true), (8, true), (11, true), (12, true), (13, true), (14, true), (15, true), (16, true), (17, true), (18, true), (19, true), (9, false), (10, false), (20, false), (21, false), (22, true), (23, true)] (by kernel_rfl) (by kernel_rfl) (by kernel_rfl) (by kernel_rfl) ?_
      repeat (first | (refine wpO_F (v := ?_) rfl (by rfl) (fun w' hL => ?_) ?_; rotate_left; (solve | (go_simp; with_reducible rfl) | go_simp); try simp only [Act.put, List.setIfInBounds_toArray, List.set_cons_zero, List.set_cons_succ]) | (refine wpO_G' (Chg.refl _) rfl (by rfl) ?_; try simp only [Act.put, List.setIfInBounds_toArray, List.set_cons_zero, List.set_cons_succ]))
      refine wpO_C rfl (by rfl) ?_
      go_simp
      refine (Full_any by_ hby n _).mono ?_
      rintro e w2 ⟨g2, rfl, hg2, b2, B2⟩
      have HP2 := Lib.hid (HP1.out.below (((Below.refl _ _).drew).trans b2))
      have hbs2 := B2.bs hrb
      refine ⟨Below.chg0 b2 _, ?_⟩
      try simp only [Act.put, List.setIfInBounds_toArray, List.set_cons_zero, List.set_cons_succ]
      repeat (first | (refine wpO_F (v := ?_) rfl (by rfl) (fun w' hL => ?_) ?_; rotate_left; (solve | (go_simp; with_reducible rfl) | go_simp); try simp only [Act.put, List.setIfInBounds_toArray, List.set_cons_zero, List.set_cons_succ]) | (refine wpO_G' (Chg.refl _) rfl (by rfl) ?_; try simp only [Act.put, List.setIfInBounds_toArray, List.set_cons_zero, List.set_cons_succ]))
      refine wpO_C rfl (by rfl) ?_
      go_simp
      refine (DWrite HP2.out.disk file sect (List.replicate (fullLen n) by_) _ _ _ _ hbs2 (Nat.le_refl _) (by simp) (by omega) (by omega) (by have := pend_len ht; omega)).mono ?_
      rintro e w3 hr3
      rw [HDW.out] at hr3
      obtain ⟨rfl, S3, hP3, hc3⟩ := HP2.out.dstep hr3
      have HP3 := Lib.hid hP3
      refine ⟨hc3.sub (fun k hk => List.mem_append.2 (.inl hk)), ?_⟩
      try simp only [Act.put, List.setIfInBounds_toArray, List.set_cons_zero, List.set_cons_succ]
      have s2 : w1.heap.size ≤ w2.heap.size := b2.size
      have s3 := hc3.size
      clear b2 B2 hbs2 hP3
      repeat (first | (refine wpO_F (v := ?_) rfl (by rfl) (fun w' hL => ?_) ?_; rotate_left; (solve | (go_simp; with_reducible rfl) | go_simp); try simp only [Act.put, List.setIfInBounds_toArray, List.set_cons_zero, List.set_cons_succ]) | (refine wpO_G' (Chg.refl _) rfl (by rfl) ?_; try simp only [Act.put, List.setIfInBounds_toArray, List.set_cons_zero, List.set_cons_succ]))
      refine wpO_C rfl (by rfl) ?_
      go_simp
      refine (Full_any by_ hby n _).mono ?_
      rintro e w4 ⟨g4, rfl, hg4, b4, B4⟩
      have HP4 := Lib.hid (HP3.out.below b4)
      have hbs4 := B4.bs hrb
      have hg4D : g4 ≠ D := fun e => B4.ne_ HP4.out.ref.blk (by decide) e
      have hns : ∀ W, Chg [D] w4 W → Bs W.heap.size W (some ⟨g4, 0, none⟩) (List.replicate (fullLen n) by_) := fun W hW => (B4.chg hW (by simpa using hg4D)).bs hrb
      refine ⟨Below.chg0 b4 _, ?_⟩
      try simp only [Act.put, List.setIfInBounds_toArray, List.set_cons_zero, List.set_cons_succ]
      repeat (first | (refine wpO_F (v := ?_) rfl (by rfl) (fun w' hL => ?_) ?_; rotate_left; (solve | (go_simp; with_reducible rfl) | go_simp); try simp only [Act.put, List.setIfInBounds_toArray, List.set_cons_zero, List.set_cons_succ]) | (refine wpO_G' (Chg.refl _) rfl (by rfl) ?_; try simp only [Act.put, List.setIfInBounds_toArray, List.set_cons_zero, List.set_cons_succ]))
      refine wpO_C rfl (by rfl) ?_
      go_simp
      refine (RWrite HP4.out.ref file sect (List.replicate (fullLen n) by_) _ _ _ _ hbs4 (Nat.le_refl _) hns (by simp) (by omega) (by rw [ht.calls]; omega) (by have h1 := HP4.out.ref.list; have h2 := congrArg List.length h1; rw [List.length_map] at h2; omega)).mono ?_
      rintro e w5 hr5
      rw [HXW.out] at hr5
      obtain ⟨rfl, lv5, M5, hP5, hc5⟩ := HP4.out.rstep hr5
      have HP5 := Lib.hid hP5
      refine ⟨hc5.sub (fun k hk => List.mem_append.2 (.inr hk)), ?_⟩
      try simp only [Act.put, List.setIfInBounds_toArray, List.set_cons_zero, List.set_cons_succ]
      have s4 := b4.size
      have s5 := hc5.size
      clear B4 hbs4 hns hP5 b4
      repeat (first | (refine wpO_F (v := ?_) rfl (by rfl) (fun w' hL => ?_) ?_; rotate_left; (solve | (go_simp; with_reducible rfl) | go_simp); try simp only [Act.put, List.setIfInBounds_toArray, List.set_cons_zero, List.set_cons_succ]) | (refine wpO_G' (Chg.refl _) rfl (by rfl) ?_; try simp only [Act.put, List.setIfInBounds_toArray, List.set_cons_zero, List.set_cons_succ]))
      refine wpO_nil ?_
      try simp only [NoPanic]
      go_wp2
      go_ret
      exact ⟨rfl, by have e0 := HBO.out; omega, _, _, _, _, _, HP5.out, HT.out, by have := HCL.out.1; omega, by have := HCL.out.2; omega⟩
  · have e0 : (kind == 0) = false := by simpa using hk0
    by_cases hk1 : kind = 1
    · as_aux_lemma =>
        subst hk1
        have o1 := OC 1 _ rfl
        have o2 := OC 2 _ rfl
        go_wp2_with fail
        clear o0
        refine (DRead HP1.out.disk file sect).mono ?_
        rintro e w2 hr2
        have hb2 := hr2.1
        have HP2 := Lib.hid (HP1.out.below hb2)
        have o1 := OC2 w2 hb2 1 _ rfl
        have o2 := OC2 w2 hb2 2 _ rfl
        have HRR := Lib.hid (RRead HP2.out.ref file sect)
        rw [ht.read file sect] at HRR
        rcases hr2.2 with ⟨en, hen, rfl⟩ | ⟨b, g, hok, rfl, hg, hsec, hB⟩
        · rw [hen] at HRR
          clear hr2 hen
          go_wp2_with fail
          refine HRR.out.mono ?_
          rintro e w3 ⟨hb3, ⟨en', hen', rfl⟩ | ⟨b', a', cap', hno, _⟩⟩
          rotate_left
          · cases hno
          obtain rfl : en = en' := by injection hen'
          have HP3 := Lib.hid (HP2.out.below hb3)
          have z0 := (show Bs 0 w3 none [] from ⟨by simp, .inl rfl⟩).conv 30 5 Try.underlying30 Try.underlying5 9 Try.underlying9 0 0 rfl
          clear HRR
          go_wp2
          go_ret
          have s2 := hb2.size
          have s3 := hb3.size
          exact ⟨rfl, by have e0 := HBO.out; omega, _, _, _, _, _, HP3.out, ht, by omega, by omega⟩
        · rw [hok] at HRR
          have HBd := Lib.hid hB
          have HS := Lib.hid hsec
          clear hr2 hok hB hsec
          go_wp2_with fail
          refine HRR.out.mono ?_
          rintro e w3 ⟨hb3, ⟨en', hen', _⟩ | ⟨b', a', cap', hok', rfl, hl', hB'⟩⟩
          · cases hen'
          obtain rfl : b = b' := by injection hok'
          have HP3 := Lib.hid (HP2.out.below hb3)
          have z1 := ((Blk.bs HBd.out HS.out.2).below hb3).conv 30 5 Try.underlying30 Try.underlying5 9 Try.underlying9 128 128 HS.out.1.symm
          have z2 := hB'.conv 30 5 Try.underlying30 Try.underlying5 9 Try.underlying9 128 cap' hl'.symm
          clear HRR hB' hok'
          go_wp2
          go_ret
          have s2 := hb2.size
          have s3 := hb3.size
          exact ⟨rfl, by have e0 := HBO.out; omega, _, _, _, _, _, HP3.out, ht, by omega, by omega⟩
    · have e1 : (kind == 1) = false := by simpa using hk1
      by_cases hk2 : kind = 2
      · as_aux_lemma =>
          subst hk2
          rcases hdw : d.sync file with ⟨r, d'⟩
          rcases hxw : x.sync file with ⟨r', x'⟩
          have htw := ht.sync file
          have hcl := d.sync_calls file
          have hxl := x.sync_len file
          rw [hdw, hxw] at htw
          rw [hdw] at hcl
          rw [hxw] at hxl
          simp only at htw hcl hxl
          obtain ⟨rfl, htw⟩ := htw
          have HT := Lib.hid htw
          have HCL := Lib.hid (And.intro hcl hxl)
          have HDW := Lib.hid hdw
          have HXW := Lib.hid hxw
          clear htw hcl hxl hdw hxw
          have hboT : bo ∉ S ++ footR D lv M := fun hm => by rcases List.mem_append.1 hm with h | h; exact hboS h; exact hboR h
          have o1 := fun W (h : Chg (S ++ footR D lv M) w1.drew W) => (h.cell (b := bo) (o := 1) hbo hboT).trans (OC 1 _ rfl)
          go_wp2_with fail
          clear o0
          refine wp_region_ordS (S ++ footR D lv M) [(0, true), (1, true), (2, true), (4, true), (5, true), (6, true), (3, false), (7, false), (8, true), (9, true)] (by kernel_rfl) (by kernel_rfl) (by kernel_rfl) (by kernel_rfl) ?_
          repeat (first | (refine wpO_F (v := ?_) rfl (by rfl) (fun w' hL => ?_) ?_; rotate_left; (solve | (go_simp; with_reducible rfl) | go_simp); try simp only [Act.put, List.setIfInBounds_toArray, List.set_cons_zero, List.set_cons_succ]) | (refine wpO_G' (Chg.refl _) rfl (by rfl) ?_; try simp only [Act.put, List.setIfInBounds_toArray, List.set_cons_zero, List.set_cons_succ]))
          refine wpO_C rfl (by rfl) ?_
          go_simp
          refine (DSync (HP1.out.below ((Below.refl _ _).drew)).disk file (by omega)).mono ?_
          rintro e w3 hr3
          rw [HDW.out] at hr3
          obtain ⟨rfl, S3, hP3, hc3⟩ := (HP1.out.below ((Below.refl _ _).drew)).dstep hr3
          have HP3 := Lib.hid hP3
          refine ⟨hc3.sub (fun k hk => List.mem_append.2 (.inl hk)), ?_⟩
          try simp only [Act.put, List.setIfInBounds_toArray, List.set_cons_zero, List.set_cons_succ]
          clear hP3
          repeat (first | (refine wpO_F (v := ?_) rfl (by rfl) (fun w' hL => ?_) ?_; rotate_left; (solve | (go_simp; with_reducible rfl) | go_simp); try simp only [Act.put, List.setIfInBounds_toArray, List.set_cons_zero, List.set_cons_succ]) | (refine wpO_G' (Chg.refl _) rfl (by rfl) ?_; try simp only [Act.put, List.setIfInBounds_toArray, List.set_cons_zero, List.set_cons_succ]))
          refine wpO_C rfl (by rfl) ?_
          go_simp
          refine (RSync HP3.out.ref file (by rw [ht.calls]; omega)).mono ?_
          rintro e w5 hr5
          rw [HXW.out] at hr5
          obtain ⟨rfl, lv5, M5, hP5, hc5⟩ := HP3.out.rstep hr5
          have HP5 := Lib.hid hP5
          refine ⟨hc5.sub (fun k hk => List.mem_append.2 (.inr hk)), ?_⟩
          try simp only [Act.put, List.setIfInBounds_toArray, List.set_cons_zero, List.set_cons_succ]
          clear hP5
          repeat (first | (refine wpO_F (v := ?_) rfl (by rfl) (fun w' hL => ?_) ?_; rotate_left; (solve | (go_simp; with_reducible rfl) | go_simp); try simp only [Act.put, List.setIfInBounds_toArray, List.set_cons_zero, List.set_cons_succ]) | (refine wpO_G' (Chg.refl _) rfl (by rfl) ?_; try simp only [Act.put, List.setIfInBounds_toArray, List.set_cons_zero, List.set_cons_succ]))
          refine wpO_nil ?_
          try simp only [NoPanic]
          go_wp2
          go_ret
          have s3 : w1.heap.size ≤ w3.heap.size := hc3.size
          have s5 := hc5.size
          exact ⟨rfl, by have e0 := HBO.out; omega, _, _, _, _, _, HP5.out, HT.out, by have := HCL.out.1; omega, by have := HCL.out.2; omega⟩
      · have e2 : (kind == 2) = false := by simpa using hk2
        by_cases hk3 : kind = 3
        · as_aux_lemma =>
            subst hk3
            have o3 := OC 3 _ rfl
            have HFl := Lib.hid (fun (W : World) (S' : List Nat) (hI : IsDisk W B S' d) => DFail hI n hnb.2)
            by_cases hneg : n < 0
            · have q1 : decide (n < 0) = true := by rw [decide_eq_true_eq]; exact hneg
              have hfe : d.fail n = (1, d) := by unfold DS.fail; rw [if_pos hneg]
              rw [hfe] at HFl
              go_wp2_with fail
              refine (HFl.out _ _ HP1.out.disk).mono ?_
              rintro e w3 hr3
              obtain ⟨rfl, S3, hP3, hc3⟩ := HP1.out.dstep hr3
              have HP3 := Lib.hid hP3
              clear hr3 hP3 HFl
              go_wp2
              go_ret
              have s3 := hc3.size
              exact ⟨rfl, by have e0 := HBO.out; omega, _, _, _, _, _, HP3.out, ht, by omega, by omega⟩
            · have q1 : decide (n < 0) = false := by rw [decide_eq_false_iff_not]; exact hneg
              have hfe : d.fail n = (0, { d with left := some n.toNat }) := by unfold DS.fail; rw [if_neg hneg]
              rw [hfe] at HFl
              have HP2 := Lib.hid (HP1.out.setN (x' := { x with plan := n }) 3 (.int .i64 n) rfl rfl rfl (by simp only; omega) HP1.out.ref.quota)
              have HT2 : Hid (Twin { d with left := some n.toNat } { x with plan := n }) := ⟨ht.quota, ht.calls, by show n = ((n.toNat : Nat) : Int); omega, ht.down, ht.pend, ht.vget, ht.vlen, ht.dget, ht.dlen, ht.order⟩
              have y3 := HP1.out.ref.cells.2.2.2.1
              have z3 := HP1.out.ref.blk.frozen 3
              have zl := HP1.out.ref.blk.lt
              have o3' : (w1.setCell ⟨D, 3, none⟩ (.int .i64 n)).cell? ⟨bo, 3, none⟩ = some (.int .i64 n) := (((Chg.refl [D] w1).setCell (b := D) (o := 3) (.inl (by simp)) (.int .i64 n)).cell (b := bo) hbo (by simpa using hboD)).trans o3
              go_wp2_with fail
              refine (HFl.out _ _ HP2.out.disk).mono ?_
              rintro e w3 hr3
              obtain ⟨rfl, S3, hP3, hc3⟩ := HP2.out.dstep hr3
              have HP3 := Lib.hid hP3
              clear hr3 hP3 HFl
              go_wp2
              go_ret
              have s3 : w1.heap.size ≤ w3.heap.size := by have := hc3.size; simpa [World.setCell] using this
              exact ⟨rfl, by have e0 := HBO.out; omega, _, _, _, _, _, HP3.out, HT2.out, by show d.calls ≤ _; omega, by show x.L.length ≤ _; omega⟩
        · have e3 : (kind == 3) = false := by simpa using hk3
          by_cases hk4 : kind = 4
          · as_aux_lemma =>
              subst hk4
              have o5 := OC 5 _ rfl
              have HBk := Lib.hid (fun (W : World) (hW : Below w0.heap.size w0 W) => (ho.bs.below hW).mono hW.size)
              have HRC := Lib.hid (RCrash HP1.out.ref obs oa ol oc (HBk.out _ HP1.out.bel) HOL.out (by have := HLn.out; omega))
              go_wp2_with fail
              refine HRC.out.mono ?_
              rintro e w2 ⟨rfl, lv2, M2, hR2, hc2, hf2⟩
              obtain ⟨hP2, hcf⟩ := HP1.out.rstep' hR2 hc2 hf2
              have HP2 := Lib.hid hP2
              have HT2 := Lib.hid (ht.crash obs)
              have HDC := Lib.hid (DCrash HP2.out.disk obs oa ol oc _ (HBk.out _ HP2.out.bel) (Nat.le_refl _) HOL.out (by have := HLn.out; omega))
              have o5' := (hcf.cell (b := bo) hbo hboR).trans o5
              have s2 := hcf.size
              clear hR2 hc2 hf2 hP2 HRC hcf
              go_wp2_with fail
              refine HDC.out.mono ?_
              rintro e w3 hr3
              obtain ⟨rfl, S3, hP3, hc3⟩ := HP2.out.dstep hr3
              have HP3 := Lib.hid hP3
              clear hr3 hP3 HDC
              go_wp2
              go_ret
              have s3 := hc3.size
              exact ⟨rfl, by have e0 := HBO.out; omega, _, _, _, _, _, HP3.out, HT2.out, by show d.calls ≤ _; omega, by show (crashL obs x.L 0).length ≤ _; have := crashL_len obs x.L 0; omega⟩
          · have e4 : (kind == 4) = false := by simpa using hk4
            by_cases hk5 : kind = 5
            · as_aux_lemma =>
                subst hk5
                have o3 := OC 3 _ rfl
                have HQ := Lib.hid (fun (W : World) (S' : List Nat) (hI : IsDisk W B S' d) => DQuota hI n)
                have hways : (isQuotaB n = false ∧ (decide (n < 1) = true ∨ (decide (n < 1) = false ∧ decide ((65536 : Int) < n) = true))) ∨ (isQuotaB n = true ∧ decide (n < 1) = false ∧ decide ((65536 : Int) < n) = false ∧ 1 ≤ n ∧ n ≤ 65536) := by
                  unfold isQuotaB
                  simp only [decide_eq_true_eq, decide_eq_false_iff_not, Bool.and_eq_true, Bool.and_eq_false_iff]
                  omega
                rcases hways with ⟨hq, hqq⟩ | ⟨hq, q1, q2, hq1, hq2⟩
                · have hfe : d.setQuota n = (1, d) := by unfold DS.setQuota; rw [hq]; rfl
                  rw [hfe] at HQ
                  clear hq hfe
                  rcases hqq with q1 | ⟨q1, q2⟩
                  all_goals
                    go_wp2_with fail
                    refine (HQ.out _ _ HP1.out.disk).mono ?_
                    rintro e w3 hr3
                    obtain ⟨rfl, S3, hP3, hc3⟩ := HP1.out.dstep hr3
                    have HP3 := Lib.hid hP3
                    clear hr3 hP3 HQ
                    go_wp2
                    go_ret
                    have s3 := hc3.size
                    exact ⟨rfl, by have e0 := HBO.out; omega, _, _, _, _, _, HP3.out, ht, by omega, by omega⟩
                · have hfe : d.setQuota n = (0, { d with quota := n.toNat }) := by unfold DS.setQuota; rw [hq]; rfl
                  rw [hfe] at HQ
                  have HP2 := Lib.hid (HP1.out.setN (x' := { x with quota := n }) 0 (.int .i64 n) rfl rfl rfl HP1.out.ref.plan (by simp only; omega))
                  have HT2 : Hid (Twin { d with quota := n.toNat } { x with quota := n }) := ⟨by show n = ((n.toNat : Nat) : Int); omega, ht.calls, ht.plan, ht.down, ht.pend, ht.vget, ht.vlen, ht.dget, ht.dlen, ht.order⟩
                  have y3 := HP1.out.ref.cells.1
                  have z3 := HP1.out.ref.blk.frozen 0
                  have zl := HP1.out.ref.blk.lt
                  have o3' : (w1.setCell ⟨D, 0, none⟩ (.int .i64 n)).cell? ⟨bo, 3, none⟩ = some (.int .i64 n) := (((Chg.refl [D] w1).setCell (b := D) (o := 0) (.inl (by simp)) (.int .i64 n)).cell (b := bo) hbo (by simpa using hboD)).trans o3
                  clear hq hfe
                  go_wp2_with fail
                  refine (HQ.out _ _ HP2.out.disk).mono ?_
                  rintro e w3 hr3
                  obtain ⟨rfl, S3, hP3, hc3⟩ := HP2.out.dstep hr3
                  have HP3 := Lib.hid hP3
                  clear hr3 hP3 HQ
                  go_wp2
                  go_ret
                  have s3 : w1.heap.size ≤ w3.heap.size := by have := hc3.size; simpa [World.setCell] using this
                  exact ⟨rfl, by have e0 := HBO.out; omega, _, _, _, _, _, HP3.out, HT2.out, by show d.calls ≤ _; omega, by show x.L.length ≤ _; omega⟩
            · have e5 : (kind == 5) = false := by simpa using hk5
              as_aux_lemma =>
                go_wp2
                go_ret
                exact ⟨rfl, by have e0 := HBO.out; omega, _, _, _, _, _, HP1.out, ht, by omega, by omega⟩
end Go.Proofs.Ytaggghfnbllbgaa
