/- VdiskShows: the walk. -/
import Derived.Test.YtaggghfnbllbgaaDk20
namespace Go.Proofs.Ytaggghfnbllbgaa
set_option linter.unusedSimpArgs false
open Go.RowKit

def showA (sh : Nat → Nat → Nat) : Array Value := #[.int .u8 (sh 0 0 : Int), .int .u8 (sh 0 1 : Int), .int .u8 (sh 0 2 : Int), .int .u8 (sh 0 3 : Int), .int .u8 (sh 1 0 : Int), .int .u8 (sh 1 1 : Int), .int .u8 (sh 1 2 : Int), .int .u8 (sh 1 3 : Int)]
def sizeA (d : DS) : Array Value := #[.int .i64 (d.vis.len 0 : Int), .int .i64 (d.vis.len 1 : Int)]
theorem showA_get (sh : Nat → Nat → Nat) (f s : Nat) (hf : f < 2) (hs : s < 4) : (showA sh)[f * 4 + s]? = some (.int .u8 (sh f s : Int)) := by
  match f, hf, s, hs with
  | 0, _, 0, _ => rfl
  | 0, _, 1, _ => rfl
  | 0, _, 2, _ => rfl
  | 0, _, 3, _ => rfl
  | 1, _, 0, _ => rfl
  | 1, _, 1, _ => rfl
  | 1, _, 2, _ => rfl
  | 1, _, 3, _ => rfl
theorem showA_set (sh : Nat → Nat → Nat) (f s c : Nat) (hf : f < 2) (hs : s < 4) : (showA sh).setIfInBounds (f * 4 + s) (.int .u8 (c : Int)) = showA (updS sh f s c) := by
  match f, hf, s, hs with
  | 0, _, 0, _ => rfl
  | 0, _, 1, _ => rfl
  | 0, _, 2, _ => rfl
  | 0, _, 3, _ => rfl
  | 1, _, 0, _ => rfl
  | 1, _, 1, _ => rfl
  | 1, _, 2, _ => rfl
  | 1, _, 3, _ => rfl
theorem sizeA_get (d : DS) (f : Nat) (hf : f < 2) : (sizeA d)[f]? = some (.int .i64 (d.vis.len f : Int)) := by
  match f, hf with
  | 0, _ => rfl
  | 1, _ => rfl

/-- What holds at the beginning of a round. -/
structure ShowI (w0 w : World) (B SB ZB : Nat) (d : DS) (sh : Nat → Nat → Nat) (k : Nat) : Prop where
  own : OwnK w0 w B d [ZB, SB]
  sb : Blk w SB 56 (showA sh)
  zb : Blk w ZB 42 (sizeA d)
  rel : ShowR d sh k

theorem ShowI.below {w0 w w' : World} {B SB ZB : Nat} {d : DS} {sh : Nat → Nat → Nat} {k : Nat} (h : ShowI w0 w B SB ZB d sh k) (hb : Below w.heap.size w w') : ShowI w0 w' B SB ZB d sh k :=
  ⟨h.own.below hb, (h.own.keep hb).blk h.sb (by simp), (h.own.keep hb).blk h.zb (by simp), h.rel⟩
theorem ShowI.mono {w0 w : World} {B SB ZB : Nat} {d : DS} {sh : Nat → Nat → Nat} {k : Nat} (h : ShowI w0 w B SB ZB d sh k) : ShowI w0 w B SB ZB d sh (k + 1) := ⟨h.own, h.sb, h.zb, h.rel.mono⟩
theorem ShowI.ne {w0 w : World} {B SB ZB : Nat} {d : DS} {sh : Nat → Nat → Nat} {k : Nat} (h : ShowI w0 w B SB ZB d sh k) : SB ≠ ZB := h.sb.ne_ h.zb (by decide)
/-- Behind a write and the store of its byte. -/
theorem ShowI.wrote {w0 w w' : World} {B SB ZB : Nat} {d d' : DS} {sh : Nat → Nat → Nat} {k f s c : Nat} (h : ShowI w0 w B SB ZB d sh k) (ho : OwnK w0 w' B d' [ZB, SB]) (hk : Keep [ZB, SB] w w') (hr : ShowR d' (updS sh f s c) (k + 1)) (hf : f < 2) (hs : s < 4) :
    OwnK w0 (w'.setCell ⟨SB, f * 4 + s, none⟩ (.int .u8 (c : Int))) B d' [ZB, SB] ∧ Blk (w'.setCell ⟨SB, f * 4 + s, none⟩ (.int .u8 (c : Int))) SB 56 (showA (updS sh f s c)) ∧ Blk (w'.setCell ⟨SB, f * 4 + s, none⟩ (.int .u8 (c : Int))) ZB 42 (sizeA d) := by
  refine ⟨ho.set_ (by simp) _ _, ?_, (hk.blk h.zb (by simp)).far (fun e => h.ne e.symm) _⟩
  have := (hk.blk h.sb (by simp)).set_ (f * 4 + s) (.int .u8 (c : Int))
  rw [showA_set sh f s c hf hs] at this
  exact this
theorem sizeA_grow {d d' : DS} {f s : Nat} (hf : f < 2) (hl : ∀ g, d'.vis.len g = if g = f then max (d.vis.len g) (s + 1) else d.vis.len g) (hge : d.vis.len f ≤ s) : (sizeA d).setIfInBounds f (.int .i64 ((s : Int) + 1)) = sizeA d' := by
  have h0 := hl 0
  have h1 := hl 1
  unfold sizeA
  match f, hf with
  | 0, _ => simp at h0 h1 ⊢; rw [h0, h1]; simp; omega
  | 1, _ => simp at h0 h1 ⊢; rw [h0, h1]; simp; omega
theorem sizeA_same {d d' : DS} {f s : Nat} (hl : ∀ g, d'.vis.len g = if g = f then max (d.vis.len g) (s + 1) else d.vis.len g) (hge : ¬ d.vis.len f ≤ s) : sizeA d = sizeA d' := by
  have hg : ∀ g, d'.vis.len g = d.vis.len g := fun g => by
    rw [hl g]
    split
    · rename_i e; subst e; omega
    · rfl
  unfold sizeA
  rw [hg, hg]

theorem KWriteR {w0 w : World} {B : Nat} {d d' : DS} {K : List Nat} {r : Nat} (h : OwnK w0 w B d K) (f s : Int) (c g : Nat) (hB : Bs w.heap.size w (some ⟨g, 0, none⟩) (List.replicate 128 c)) (hr : d.write f s (List.replicate 128 c) = (r, d')) (hcs : d.calls < 1000000000) (hwt : d.pend.length < 1000000000) :
    Calls Try.prog 22 #[.pointer (some ⟨B, 0, none⟩), .int .i64 f, .int .i64 s, .slice (some ⟨g, 0, none⟩) 128 128] w fun e w' => e = .returned (.int .i64 (r : Int)) ∧ OwnK w0 w' B d' K ∧ Keep K w w' := by
  have := KWrite h f s _ _ 128 128 _ hB (Nat.le_refl _) (by simp) (by omega) hcs hwt
  rw [hr] at this
  exact this
theorem KSyncR {w0 w : World} {B : Nat} {d d' : DS} {K : List Nat} {r : Nat} (h : OwnK w0 w B d K) (f : Int) (hr : d.sync f = (r, d')) (hcs : d.calls < 1000000000) :
    Calls Try.prog 23 #[.pointer (some ⟨B, 0, none⟩), .int .i64 f] w fun e w' => e = .returned (.int .i64 (r : Int)) ∧ OwnK w0 w' B d' K ∧ Keep K w w' := by
  have := KSync h f hcs
  rw [hr] at this
  exact this
theorem lenI_nat (d : DS) (f : Nat) (hf : f < 2) : d.lenI (f : Int) = (d.vis.len f : Int) := by
  unfold DS.lenI
  match f, hf with
  | 0, _ => rfl
  | 1, _ => rfl

set_option maxRecDepth 100000 in
set_option maxHeartbeats 8000000 in
theorem shows_main (a : Option Addr) (len cap : Nat) (L : List DOp) (w : World) (hO : OpsIn w a len cap L) :
    Calls Try.prog 6 #[.slice a len cap] w fun e w' => e = .returned (.bool true) ∧ Below w.heap.size w w' := by
  have HAl := Lib.hid alive7_any
  have HO := Lib.hid hO
  have hlen : len ≤ 9223372036854775807 := Nat.le_trans hO.2.1 hO.2.2.1
  clear hO
  have HN := Lib.hid (ONew 20 (by decide) w w (Below.refl _ _))
  go_enter Try.func6, Try.ntmps6
  go_wp2_with fail
  refine HN.out.mono ?_
  rintro e w1 ⟨B, rfl, h1⟩
  have h2 := (h1.toK.add (.cells (showA fun _ _ => 0) 56))
  have h3 := h2.add (.cells (sizeA (DS.new 20)) 42)
  have hsz : (w1.alloc (.cells (showA fun _ _ => 0) 56)).heap.size = w1.heap.size + 1 := by simp
  rw [hsz] at h3
  have HI : Hid (ShowI w ((w1.alloc (.cells (showA fun _ _ => 0) 56)).alloc (.cells (sizeA (DS.new 20)) 42)) B w1.heap.size (w1.heap.size + 1) (DS.new 20) (fun _ _ => 0) 0) :=
    ⟨h3, (Blk.new w1 _ _).alloc _, by have := Blk.new (w1.alloc (.cells (showA fun _ _ => 0) 56)) 42 (sizeA (DS.new 20)); rw [hsz] at this; exact this, ShowR.new⟩
  clear h1 h2 h3 HN hsz
  go_wp2
  obtain ⟨SB, hSB⟩ : ∃ SB, w1.heap.size = SB := ⟨_, rfl⟩
  rw [hSB] at HI ⊢
  obtain ⟨ZB, hZB⟩ : ∃ ZB, SB + 1 = ZB := ⟨_, rfl⟩
  rw [hZB] at HI ⊢
  clear hSB hZB
  go_loopw [7] (fun iv wr => ∃ (k : Nat) (d : DS) (sh : Nat → Nat → Nat), k ≤ len ∧ k ≤ 100 ∧ iv = .int .i64 k ∧ Hid (ShowI w wr B SB ZB d sh k)) (fun iv _ => len - (intOf iv).toNat)
  case atStart => exact ⟨0, _, _, by omega, by omega, rfl, HI.out⟩
  case round =>
    obtain ⟨k, d, sh, hk, hk2, rfl, HI0⟩ := hrel
    clear HI
    by_cases hlt : k < len
    · by_cases hlt2 : k < 100
      · have hkL : k < L.length := by have := HO.out.1; omega
        obtain ⟨o, ho⟩ : ∃ o, L[k]? = some o := ⟨_, List.getElem?_eq_getElem hkL⟩
        have hfair := HO.out.2.2.2.2 o (List.mem_of_getElem? ho)
        obtain ⟨b, off, rfl, hbN, hcells⟩ : ∃ b off, a = some ⟨b, off, none⟩ ∧ b < w.heap.size ∧ ∀ (j : Nat) (v : Value), o.cells[j]? = some v → w.cell? ⟨b, off + k * 6 + j, none⟩ = some v := by
          rcases HO.out.2.2.2.1 with h | ⟨b, off, h1, h2, h3⟩
          · rw [h] at hkL; simp at hkL
          · exact ⟨b, off, h1, h2, h3 k o ho⟩
        obtain ⟨kind, file, sect, n, by_, oa, ol, oc, obs⟩ := o
        have hby_ : by_ < 256 := hfair.by_
        have hcl : ∀ (W : World), Below w.heap.size w W → ∀ (j : Nat) (v : Value), (DOp.cells ⟨kind, file, sect, n, by_, oa, ol, oc, obs⟩)[j]? = some v → W.cell? ⟨b, off + k * 6 + j, none⟩ = some v := fun W hW j v hv => (hW.cell (p := ⟨b, off + k * 6 + j, none⟩) hbN).trans (hcells j v hv)
        have HCL := Lib.hid hcl
        clear hcells hfair ho hkL hcl
        obtain ⟨f, hf, ef⟩ := and_mask1 file
        obtain ⟨s, hs, es⟩ := and_mask3 sect
        have hb0 := HI0.out.own.1
        have c1 := fun W (h : Later wr.drew W) => HCL.out W (hb0.drew.trans (Below.mono h hb0.size)) 1 _ rfl
        have c2 := fun W (h : Later wr.drew W) => HCL.out W (hb0.drew.trans (Below.mono h hb0.size)) 2 _ rfl
        go_wp2_with fail
        refine wp_region_ord [(0, true), (1, true), (2, true), (3, true), (4, true), (5, true), (6, true), (7, true), (8, true), (9, true), (10, true), (11, true), (12, true), (13, true)] (by kernel_rfl) (by kernel_rfl) (by kernel_rfl) (by kernel_rfl) ?_
        repeat (first | (refine wpO_F (v := ?_) rfl (by rfl) (fun w' hL => ?_) ?_; rotate_left; (solve | (go_simp; with_reducible rfl) | go_simp); try simp only [Act.put, List.setIfInBounds_toArray, List.set_cons_zero, List.set_cons_succ]) | (refine wpO_G rfl (by rfl) ?_; try simp only [Act.put, List.setIfInBounds_toArray, List.set_cons_zero, List.set_cons_succ]))
        refine wpO_nil ?_
        try simp only [NoPanic]
        clear c1 c2
        have HI1 : Hid (ShowI w wr.drew B SB ZB d sh k) := HI0.out.below ((Below.refl _ _).drew)
        clear HI0 hb0
        generalize hwr : wr.drew = wq at HI1 ⊢
        clear hwr
        have c0 : wq.cell? ⟨b, off + k * 6, none⟩ = some (.int .i64 kind) := HCL.out wq HI1.out.own.1 0 _ rfl
        by_cases hk0 : kind = 0
        · subst hk0
          have c4 := HCL.out wq HI1.out.own.1 4 _ rfl
          obtain ⟨d', hw2, hrel2, hlen2⟩ := HI1.out.rel.write f s by_ hf hs hby_
          have hcs := HI1.out.rel.calls
          have hpd := HI1.out.rel.pend
          go_wp2_with fail
          refine (Full_sec by_ hby_ wq).mono ?_
          rintro e w2 ⟨g2, rfl, hg2, b2, B2⟩
          have HI2 : Hid (ShowI w w2 B SB ZB d sh k) := HI1.out.below b2
          have HWr := Lib.hid (KWriteR HI2.out.own f s by_ g2 B2 hw2 (by omega) (by omega))
          clear hw2 B2 b2 hg2 c0 c4 hcs hpd HI1
          go_wp2_with fail
          refine HWr.out.mono ?_
          rintro e w3 ⟨rfl, ho3, hk3⟩
          have HP := Lib.hid (HI2.out.wrote (w' := w3.drew) (ho3.below ((Below.refl _ _).drew)) hk3 hrel2 hf hs)
          have hSBw : w.heap.size ≤ SB := by
            obtain ⟨_, S, _, _, h4⟩ := ho3
            exact (h4 SB (by simp)).2.2
          have hSBl : SB < w3.heap.size := by
            obtain ⟨_, S, _, _, h4⟩ := ho3
            exact (h4 SB (by simp)).2.1
          have hsb3 : Blk w3.drew SB 56 (showA sh) := hk3.blk HI2.out.sb (by simp)
          have t1 := (hsb3.cell (f * 4 + s)).trans (showA_get sh f s hf hs)
          have t2 := hsb3.frozen (f * 4 + s)
          have hb3 := ho3.1
          have c4 := fun W (h : Chg [SB] w3.drew W) => HCL.out W (hb3.trans ((Chg.undrew h).below hb3.size (by simp; omega))) 4 _ rfl
          have hfl : (f : Int) < 2 := by omega
          have hsl4 : (s : Int) < 4 := by omega
          have HRel := Lib.hid hrel2
          have HLen := Lib.hid hlen2
          clear HWr ho3 hk3 hsb3 hb3 hrel2 hlen2
          go_wp2_with fail
          refine wp_region_ordX [SB] 9 [(0, true), (1, true), (2, true), (3, true), (4, true), (5, true), (6, true), (7, true), (8, true)] (by kernel_rfl) (by kernel_rfl) (by kernel_rfl) (by kernel_rfl) ?_
          repeat (first | (refine wpOX_F (v := ?_) rfl (by rfl) (fun w' hL => ?_) ?_; rotate_left; (solve | (go_simp; with_reducible rfl) | go_simp); try simp only [Act.put, List.setIfInBounds_toArray, List.set_cons_zero, List.set_cons_succ]) | (refine wpOX_G (Chg.refl _) rfl (by rfl) ?_; try simp only [Act.put, List.setIfInBounds_toArray, List.set_cons_zero, List.set_cons_succ]))
          refine wpOX_end rfl (by rfl) ?_
          go_simp
          try simp only [NoPanic, Act.put]
          have hp4 := HP.out
          have hdr : w3.drew.setCell ⟨SB, f * 4 + s, none⟩ (.int .u8 (by_ : Int)) = (w3.setCell ⟨SB, f * 4 + s, none⟩ (.int .u8 (by_ : Int))).drew := rfl
          rw [hdr] at hp4
          clear hdr
          generalize hw4 : (w3.setCell ⟨SB, f * 4 + s, none⟩ (.int .u8 (by_ : Int))).drew = w4 at hp4 ⊢
          obtain ⟨HO4, HS4, HZ4⟩ := hp4
          clear HP hw4 t1 t2 c4 hSBl
          have z1 := (HZ4.cell f).trans (sizeA_get d f hf)
          have z2 := HZ4.frozen f
          have z3 := HZ4.lt
          by_cases hge : d.vis.len f ≤ s
          · have q3 : decide ((d.vis.len f : Int) ≤ (s : Int)) = true := by simp; omega
            have q4 : decide (d.vis.len f ≤ s) = true := by simp; omega
            have hsum : IntKind.i64.wrap ((s : Int) + 1) = (s : Int) + 1 := by simp [IntKind.wrap, IntKind.bits, IntKind.signed]; omega
            obtain ⟨dt, sht, HT⟩ : ∃ dt sht, Hid (ShowI w (w4.setCell ⟨ZB, f, none⟩ (.int .i64 ((s : Int) + 1))) B SB ZB dt sht (k + 1)) := ⟨d', _, by
              refine ⟨HO4.set_ (by simp) _ _, HS4.far HI2.out.ne _, ?_, HRel.out⟩
              have := HZ4.set_ f (.int .i64 ((s : Int) + 1))
              rw [sizeA_grow hf HLen.out hge] at this
              exact this⟩
            have c0 : (w4.setCell ⟨ZB, f, none⟩ (.int .i64 ((s : Int) + 1))).cell? ⟨b, off + k * 6, none⟩ = some (.int .i64 0) := HCL.out _ HT.out.own.1 0 _ rfl
            clear HO4 HS4 HZ4 HI2 HRel HLen
            go_wp2_with fail
            generalize hwt : (w4.setCell ⟨ZB, f, none⟩ (.int .i64 ((s : Int) + 1))) = wt at HT c0 ⊢
            clear hwt z1 z2 z3 q3 q4 hsum
            have hl4 := HT.out.rel.len f
            by_cases hsl : s < dt.vis.len f
            · have HRd := Lib.hid (OReadR HT.out.own.toD (f : Int) (s : Int) (HT.out.rel.readOk f s hf hsl))
              refine HRd.out.mono ?_
              rintro e w5 ⟨g3, rfl, hg3, b5, hsec, B5⟩
              have HI3 : Hid (ShowI w w5 B SB ZB dt sht (k + 1)) := HT.out.below b5
              have hby := HI3.out.rel.byte f s
              have HBs : Hid (Bs w5.heap.size w5 (some ⟨g3, 0, none⟩) (List.replicate 128 (sht f s))) := Blk.bs B5 hsec.2
              have z1 := fun W (h : Later w5.drew W) => ((HI3.out.below ((Below.refl _ _).drew.trans h)).zb.cell f).trans (sizeA_get dt f hf)
              have z2 := fun W (h : Later w5.drew W) => ((HI3.out.below ((Below.refl _ _).drew.trans h)).sb.cell (f * 4 + s)).trans (showA_get sht f s hf hs)
              have z3 := fun W (h : Later w5.drew W) => (HBs.out.below (((Below.refl w5.heap.size w5).drew).trans h)).conv 30 5 Try.underlying30 Try.underlying5 9 Try.underlying9 128 128 (by simp)
              have hfl : (f : Int) < 2 := by omega
              have hsl4 : (s : Int) < 4 := by omega
              have q9 : decide ((s : Int) < (dt.vis.len f : Int)) = true := by simp; omega
              have q10 : decide (s < dt.vis.len f) = true := by simp; omega
              have HLn := Lib.hid (OLen (HI3.out.below ((Below.refl _ _).drew)).own.toD (f : Int))
              rw [lenI_nat dt f hf] at HLn
              clear B5 hsec b5 HRd HT
              go_wp2_with fail
              refine wp_region_ord [(0, true), (1, true), (3, true), (4, true), (5, true), (2, false), (6, true), (7, true), (8, true), (9, true), (10, true), (11, true), (12, true), (13, true), (14, true), (15, true), (16, true), (17, true), (18, true), (19, true), (20, true), (21, true), (22, true), (23, true), (24, true), (25, true), (26, true), (27, true), (28, false), (29, true), (30, true), (31, true), (32, true)] (by kernel_rfl) (by kernel_rfl) (by kernel_rfl) (by kernel_rfl) ?_
              repeat (first | (refine wpO_F (v := ?_) rfl (by rfl) (fun w' hL => ?_) ?_; rotate_left; (solve | (go_simp; with_reducible rfl) | go_simp); try simp only [Act.put, List.setIfInBounds_toArray, List.set_cons_zero, List.set_cons_succ]) | (refine wpO_G rfl (by rfl) ?_; try simp only [Act.put, List.setIfInBounds_toArray, List.set_cons_zero, List.set_cons_succ]))
              refine wpO_C rfl (by rfl) ?_
              go_simp
              refine (HLn.out).mono ?_
              rintro e W ⟨rfl, hW⟩
              refine ⟨(by subst hW; exact Later.refl _), ?_⟩
              try simp only [Act.put, List.setIfInBounds_toArray, List.set_cons_zero, List.set_cons_succ]
              subst hW
              repeat (first | (refine wpO_F (v := ?_) rfl (by rfl) (fun w' hL => ?_) ?_; rotate_left; (solve | (go_simp; with_reducible rfl) | go_simp); try simp only [Act.put, List.setIfInBounds_toArray, List.set_cons_zero, List.set_cons_succ]) | (refine wpO_G rfl (by rfl) ?_; try simp only [Act.put, List.setIfInBounds_toArray, List.set_cons_zero, List.set_cons_succ]))
              refine wpO_C rfl (by rfl) ?_
              go_simp
              refine (Full_sec (sht f s) hby _).mono ?_
              rintro e w6 ⟨g6, rfl, hg6, b6, B6⟩
              refine ⟨b6, ?_⟩
              try simp only [Act.put, List.setIfInBounds_toArray, List.set_cons_zero, List.set_cons_succ]
              have z4 := fun W (h : Later w6 W) => (B6.below h).conv 30 5 Try.underlying30 Try.underlying5 9 Try.underlying9 128 128 (by simp)
              repeat (first | (refine wpO_F (v := ?_) rfl (by rfl) (fun w' hL => ?_) ?_; rotate_left; (solve | (go_simp; with_reducible rfl) | go_simp); try simp only [Act.put, List.setIfInBounds_toArray, List.set_cons_zero, List.set_cons_succ]) | (refine wpO_G rfl (by rfl) ?_; try simp only [Act.put, List.setIfInBounds_toArray, List.set_cons_zero, List.set_cons_succ]))
              refine wpO_nil ?_
              go_wp2
              go_roundw
              case rel => exact ⟨k + 1, dt, sht, by omega, by omega, by go_num, HI3.out.below ((Below.refl _ _).drew.trans b6)⟩
              case measure => simp [intOf]; omega
            · have HRd := Lib.hid (ORead HT.out.own.toD (f : Int) (s : Int))
              rw [HT.out.rel.readNo f s hf (by omega)] at HRd
              refine HRd.out.mono ?_
              rintro e w5 ⟨b5, ⟨en, hen, rfl⟩ | ⟨b', g', hno, _⟩⟩
              rotate_left
              · cases hno
              obtain rfl : 4 = en := by injection hen
              have HI3 : Hid (ShowI w w5 B SB ZB dt sht (k + 1)) := HT.out.below b5
              have z1 := fun W (h : Later w5.drew W) => ((HI3.out.below ((Below.refl _ _).drew.trans h)).zb.cell f).trans (sizeA_get dt f hf)
              have hfl : (f : Int) < 2 := by omega
              have q9 : decide ((s : Int) < (dt.vis.len f : Int)) = false := by simp; omega
              have q10 : decide (s < dt.vis.len f) = false := by simp; omega
              have HLn := Lib.hid (OLen (HI3.out.below ((Below.refl _ _).drew)).own.toD (f : Int))
              rw [lenI_nat dt f hf] at HLn
              clear b5 HRd HT
              go_wp2_with fail
              refine wp_region_ord [(0, true), (1, true), (3, true), (4, true), (5, true), (2, false), (6, true), (7, true), (8, true), (9, true), (10, true), (11, true), (12, true), (13, true), (14, true), (15, true), (16, true), (17, true), (18, true), (19, true), (20, true), (21, true), (22, true), (23, true), (24, true), (25, true), (26, true), (27, true), (28, false), (29, true), (30, true), (31, true), (32, true)] (by kernel_rfl) (by kernel_rfl) (by kernel_rfl) (by kernel_rfl) ?_
              repeat (first | (refine wpO_F (v := ?_) rfl (by rfl) (fun w' hL => ?_) ?_; rotate_left; (solve | (go_simp; with_reducible rfl) | go_simp); try simp only [Act.put, List.setIfInBounds_toArray, List.set_cons_zero, List.set_cons_succ]) | (refine wpO_G rfl (by rfl) ?_; try simp only [Act.put, List.setIfInBounds_toArray, List.set_cons_zero, List.set_cons_succ]))
              refine wpO_C rfl (by rfl) ?_
              go_simp
              refine (HLn.out).mono ?_
              rintro e W ⟨rfl, hW⟩
              refine ⟨(by subst hW; exact Later.refl _), ?_⟩
              try simp only [Act.put, List.setIfInBounds_toArray, List.set_cons_zero, List.set_cons_succ]
              subst hW
              repeat (first | (refine wpO_F (v := ?_) rfl (by rfl) (fun w' hL => ?_) ?_; rotate_left; (solve | (go_simp; with_reducible rfl) | go_simp); try simp only [Act.put, List.setIfInBounds_toArray, List.set_cons_zero, List.set_cons_succ]) | (refine wpO_G rfl (by rfl) ?_; try simp only [Act.put, List.setIfInBounds_toArray, List.set_cons_zero, List.set_cons_succ]))
              refine wpO_nil ?_
              go_wp2
              go_roundw
              case rel => exact ⟨k + 1, dt, sht, by omega, by omega, by go_num, HI3.out.below ((Below.refl _ _).drew)⟩
              case measure => simp [intOf]; omega
          · have q3 : decide ((d.vis.len f : Int) ≤ (s : Int)) = false := by simp; omega
            have q4 : decide (d.vis.len f ≤ s) = false := by simp; omega
            obtain ⟨dt, sht, HT⟩ : ∃ dt sht, Hid (ShowI w w4 B SB ZB dt sht (k + 1)) := ⟨d', _, by
              refine ⟨HO4, HS4, ?_, HRel.out⟩
              rw [← sizeA_same HLen.out hge]
              exact HZ4⟩
            have c0 : w4.cell? ⟨b, off + k * 6, none⟩ = some (.int .i64 0) := HCL.out _ HT.out.own.1 0 _ rfl
            clear HO4 HS4 HZ4 HI2 HRel HLen
            go_wp2_with fail
            clear z1 z2 z3 q3 q4
            have hl4 := HT.out.rel.len f
            by_cases hsl : s < dt.vis.len f
            · have HRd := Lib.hid (OReadR HT.out.own.toD (f : Int) (s : Int) (HT.out.rel.readOk f s hf hsl))
              refine HRd.out.mono ?_
              rintro e w5 ⟨g3, rfl, hg3, b5, hsec, B5⟩
              have HI3 : Hid (ShowI w w5 B SB ZB dt sht (k + 1)) := HT.out.below b5
              have hby := HI3.out.rel.byte f s
              have HBs : Hid (Bs w5.heap.size w5 (some ⟨g3, 0, none⟩) (List.replicate 128 (sht f s))) := Blk.bs B5 hsec.2
              have z1 := fun W (h : Later w5.drew W) => ((HI3.out.below ((Below.refl _ _).drew.trans h)).zb.cell f).trans (sizeA_get dt f hf)
              have z2 := fun W (h : Later w5.drew W) => ((HI3.out.below ((Below.refl _ _).drew.trans h)).sb.cell (f * 4 + s)).trans (showA_get sht f s hf hs)
              have z3 := fun W (h : Later w5.drew W) => (HBs.out.below (((Below.refl w5.heap.size w5).drew).trans h)).conv 30 5 Try.underlying30 Try.underlying5 9 Try.underlying9 128 128 (by simp)
              have hfl : (f : Int) < 2 := by omega
              have hsl4 : (s : Int) < 4 := by omega
              have q9 : decide ((s : Int) < (dt.vis.len f : Int)) = true := by simp; omega
              have q10 : decide (s < dt.vis.len f) = true := by simp; omega
              have HLn := Lib.hid (OLen (HI3.out.below ((Below.refl _ _).drew)).own.toD (f : Int))
              rw [lenI_nat dt f hf] at HLn
              clear B5 hsec b5 HRd HT
              go_wp2_with fail
              refine wp_region_ord [(0, true), (1, true), (3, true), (4, true), (5, true), (2, false), (6, true), (7, true), (8, true), (9, true), (10, true), (11, true), (12, true), (13, true), (14, true), (15, true), (16, true), (17, true), (18, true), (19, true), (20, true), (21, true), (22, true), (23, true), (24, true), (25, true), (26, true), (27, true), (28, false), (29, true), (30, true), (31, true), (32, true)] (by kernel_rfl) (by kernel_rfl) (by kernel_rfl) (by kernel_rfl) ?_
              repeat (first | (refine wpO_F (v := ?_) rfl (by rfl) (fun w' hL => ?_) ?_; rotate_left; (solve | (go_simp; with_reducible rfl) | go_simp); try simp only [Act.put, List.setIfInBounds_toArray, List.set_cons_zero, List.set_cons_succ]) | (refine wpO_G rfl (by rfl) ?_; try simp only [Act.put, List.setIfInBounds_toArray, List.set_cons_zero, List.set_cons_succ]))
              refine wpO_C rfl (by rfl) ?_
              go_simp
              refine (HLn.out).mono ?_
              rintro e W ⟨rfl, hW⟩
              refine ⟨(by subst hW; exact Later.refl _), ?_⟩
              try simp only [Act.put, List.setIfInBounds_toArray, List.set_cons_zero, List.set_cons_succ]
              subst hW
              repeat (first | (refine wpO_F (v := ?_) rfl (by rfl) (fun w' hL => ?_) ?_; rotate_left; (solve | (go_simp; with_reducible rfl) | go_simp); try simp only [Act.put, List.setIfInBounds_toArray, List.set_cons_zero, List.set_cons_succ]) | (refine wpO_G rfl (by rfl) ?_; try simp only [Act.put, List.setIfInBounds_toArray, List.set_cons_zero, List.set_cons_succ]))
              refine wpO_C rfl (by rfl) ?_
              go_simp
              refine (Full_sec (sht f s) hby _).mono ?_
              rintro e w6 ⟨g6, rfl, hg6, b6, B6⟩
              refine ⟨b6, ?_⟩
              try simp only [Act.put, List.setIfInBounds_toArray, List.set_cons_zero, List.set_cons_succ]
              have z4 := fun W (h : Later w6 W) => (B6.below h).conv 30 5 Try.underlying30 Try.underlying5 9 Try.underlying9 128 128 (by simp)
              repeat (first | (refine wpO_F (v := ?_) rfl (by rfl) (fun w' hL => ?_) ?_; rotate_left; (solve | (go_simp; with_reducible rfl) | go_simp); try simp only [Act.put, List.setIfInBounds_toArray, List.set_cons_zero, List.set_cons_succ]) | (refine wpO_G rfl (by rfl) ?_; try simp only [Act.put, List.setIfInBounds_toArray, List.set_cons_zero, List.set_cons_succ]))
              refine wpO_nil ?_
              go_wp2
              go_roundw
              case rel => exact ⟨k + 1, dt, sht, by omega, by omega, by go_num, HI3.out.below ((Below.refl _ _).drew.trans b6)⟩
              case measure => simp [intOf]; omega
            · have HRd := Lib.hid (ORead HT.out.own.toD (f : Int) (s : Int))
              rw [HT.out.rel.readNo f s hf (by omega)] at HRd
              refine HRd.out.mono ?_
              rintro e w5 ⟨b5, ⟨en, hen, rfl⟩ | ⟨b', g', hno, _⟩⟩
              rotate_left
              · cases hno
              obtain rfl : 4 = en := by injection hen
              have HI3 : Hid (ShowI w w5 B SB ZB dt sht (k + 1)) := HT.out.below b5
              have z1 := fun W (h : Later w5.drew W) => ((HI3.out.below ((Below.refl _ _).drew.trans h)).zb.cell f).trans (sizeA_get dt f hf)
              have hfl : (f : Int) < 2 := by omega
              have q9 : decide ((s : Int) < (dt.vis.len f : Int)) = false := by simp; omega
              have q10 : decide (s < dt.vis.len f) = false := by simp; omega
              have HLn := Lib.hid (OLen (HI3.out.below ((Below.refl _ _).drew)).own.toD (f : Int))
              rw [lenI_nat dt f hf] at HLn
              clear b5 HRd HT
              go_wp2_with fail
              refine wp_region_ord [(0, true), (1, true), (3, true), (4, true), (5, true), (2, false), (6, true), (7, true), (8, true), (9, true), (10, true), (11, true), (12, true), (13, true), (14, true), (15, true), (16, true), (17, true), (18, true), (19, true), (20, true), (21, true), (22, true), (23, true), (24, true), (25, true), (26, true), (27, true), (28, false), (29, true), (30, true), (31, true), (32, true)] (by kernel_rfl) (by kernel_rfl) (by kernel_rfl) (by kernel_rfl) ?_
              repeat (first | (refine wpO_F (v := ?_) rfl (by rfl) (fun w' hL => ?_) ?_; rotate_left; (solve | (go_simp; with_reducible rfl) | go_simp); try simp only [Act.put, List.setIfInBounds_toArray, List.set_cons_zero, List.set_cons_succ]) | (refine wpO_G rfl (by rfl) ?_; try simp only [Act.put, List.setIfInBounds_toArray, List.set_cons_zero, List.set_cons_succ]))
              refine wpO_C rfl (by rfl) ?_
              go_simp
              refine (HLn.out).mono ?_
              rintro e W ⟨rfl, hW⟩
              refine ⟨(by subst hW; exact Later.refl _), ?_⟩
              try simp only [Act.put, List.setIfInBounds_toArray, List.set_cons_zero, List.set_cons_succ]
              subst hW
              repeat (first | (refine wpO_F (v := ?_) rfl (by rfl) (fun w' hL => ?_) ?_; rotate_left; (solve | (go_simp; with_reducible rfl) | go_simp); try simp only [Act.put, List.setIfInBounds_toArray, List.set_cons_zero, List.set_cons_succ]) | (refine wpO_G rfl (by rfl) ?_; try simp only [Act.put, List.setIfInBounds_toArray, List.set_cons_zero, List.set_cons_succ]))
              refine wpO_nil ?_
              go_wp2
              go_roundw
              case rel => exact ⟨k + 1, dt, sht, by omega, by omega, by go_num, HI3.out.below ((Below.refl _ _).drew)⟩
              case measure => simp [intOf]; omega
        · have e0 : (kind == 0) = false := by simpa using hk0
          by_cases hk2' : kind = 2
          · subst hk2'
            obtain ⟨d', hw2, hrel2, hlen2⟩ := HI1.out.rel.sync f hf
            have hcs := HI1.out.rel.calls
            have HWr := Lib.hid (KSyncR HI1.out.own f hw2 (by omega))
            clear hw2 hcs
            go_wp2_with fail
            refine HWr.out.mono ?_
            rintro e w3 ⟨rfl, ho3, hk3⟩
            obtain ⟨dt, sht, HT⟩ : ∃ dt sht, Hid (ShowI w w3 B SB ZB dt sht (k + 1)) := ⟨d', _, by
              refine ⟨ho3, hk3.blk HI1.out.sb (by simp), ?_, hrel2⟩
              have : sizeA d' = sizeA d := by unfold sizeA; rw [hlen2, hlen2]
              rw [this]
              exact hk3.blk HI1.out.zb (by simp)⟩
            clear HWr ho3 hk3 hrel2 hlen2 HI1 c0
            go_wp2_with fail
            have hl4 := HT.out.rel.len f
            by_cases hsl : s < dt.vis.len f
            · have HRd := Lib.hid (OReadR HT.out.own.toD (f : Int) (s : Int) (HT.out.rel.readOk f s hf hsl))
              refine HRd.out.mono ?_
              rintro e w5 ⟨g3, rfl, hg3, b5, hsec, B5⟩
              have HI3 : Hid (ShowI w w5 B SB ZB dt sht (k + 1)) := HT.out.below b5
              have hby := HI3.out.rel.byte f s
              have HBs : Hid (Bs w5.heap.size w5 (some ⟨g3, 0, none⟩) (List.replicate 128 (sht f s))) := Blk.bs B5 hsec.2
              have z1 := fun W (h : Later w5.drew W) => ((HI3.out.below ((Below.refl _ _).drew.trans h)).zb.cell f).trans (sizeA_get dt f hf)
              have z2 := fun W (h : Later w5.drew W) => ((HI3.out.below ((Below.refl _ _).drew.trans h)).sb.cell (f * 4 + s)).trans (showA_get sht f s hf hs)
              have z3 := fun W (h : Later w5.drew W) => (HBs.out.below (((Below.refl w5.heap.size w5).drew).trans h)).conv 30 5 Try.underlying30 Try.underlying5 9 Try.underlying9 128 128 (by simp)
              have hfl : (f : Int) < 2 := by omega
              have hsl4 : (s : Int) < 4 := by omega
              have q9 : decide ((s : Int) < (dt.vis.len f : Int)) = true := by simp; omega
              have q10 : decide (s < dt.vis.len f) = true := by simp; omega
              have HLn := Lib.hid (OLen (HI3.out.below ((Below.refl _ _).drew)).own.toD (f : Int))
              rw [lenI_nat dt f hf] at HLn
              clear B5 hsec b5 HRd HT
              go_wp2_with fail
              refine wp_region_ord [(0, true), (1, true), (3, true), (4, true), (5, true), (2, false), (6, true), (7, true), (8, true), (9, true), (10, true), (11, true), (12, true), (13, true), (14, true), (15, true), (16, true), (17, true), (18, true), (19, true), (20, true), (21, true), (22, true), (23, true), (24, true), (25, true), (26, true), (27, true), (28, false), (29, true), (30, true), (31, true), (32, true)] (by kernel_rfl) (by kernel_rfl) (by kernel_rfl) (by kernel_rfl) ?_
              repeat (first | (refine wpO_F (v := ?_) rfl (by rfl) (fun w' hL => ?_) ?_; rotate_left; (solve | (go_simp; with_reducible rfl) | go_simp); try simp only [Act.put, List.setIfInBounds_toArray, List.set_cons_zero, List.set_cons_succ]) | (refine wpO_G rfl (by rfl) ?_; try simp only [Act.put, List.setIfInBounds_toArray, List.set_cons_zero, List.set_cons_succ]))
              refine wpO_C rfl (by rfl) ?_
              go_simp
              refine (HLn.out).mono ?_
              rintro e W ⟨rfl, hW⟩
              refine ⟨(by subst hW; exact Later.refl _), ?_⟩
              try simp only [Act.put, List.setIfInBounds_toArray, List.set_cons_zero, List.set_cons_succ]
              subst hW
              repeat (first | (refine wpO_F (v := ?_) rfl (by rfl) (fun w' hL => ?_) ?_; rotate_left; (solve | (go_simp; with_reducible rfl) | go_simp); try simp only [Act.put, List.setIfInBounds_toArray, List.set_cons_zero, List.set_cons_succ]) | (refine wpO_G rfl (by rfl) ?_; try simp only [Act.put, List.setIfInBounds_toArray, List.set_cons_zero, List.set_cons_succ]))
              refine wpO_C rfl (by rfl) ?_
              go_simp
              refine (Full_sec (sht f s) hby _).mono ?_
              rintro e w6 ⟨g6, rfl, hg6, b6, B6⟩
              refine ⟨b6, ?_⟩
              try simp only [Act.put, List.setIfInBounds_toArray, List.set_cons_zero, List.set_cons_succ]
              have z4 := fun W (h : Later w6 W) => (B6.below h).conv 30 5 Try.underlying30 Try.underlying5 9 Try.underlying9 128 128 (by simp)
              repeat (first | (refine wpO_F (v := ?_) rfl (by rfl) (fun w' hL => ?_) ?_; rotate_left; (solve | (go_simp; with_reducible rfl) | go_simp); try simp only [Act.put, List.setIfInBounds_toArray, List.set_cons_zero, List.set_cons_succ]) | (refine wpO_G rfl (by rfl) ?_; try simp only [Act.put, List.setIfInBounds_toArray, List.set_cons_zero, List.set_cons_succ]))
              refine wpO_nil ?_
              go_wp2
              go_roundw
              case rel => exact ⟨k + 1, dt, sht, by omega, by omega, by go_num, HI3.out.below ((Below.refl _ _).drew.trans b6)⟩
              case measure => simp [intOf]; omega
            · have HRd := Lib.hid (ORead HT.out.own.toD (f : Int) (s : Int))
              rw [HT.out.rel.readNo f s hf (by omega)] at HRd
              refine HRd.out.mono ?_
              rintro e w5 ⟨b5, ⟨en, hen, rfl⟩ | ⟨b', g', hno, _⟩⟩
              rotate_left
              · cases hno
              obtain rfl : 4 = en := by injection hen
              have HI3 : Hid (ShowI w w5 B SB ZB dt sht (k + 1)) := HT.out.below b5
              have z1 := fun W (h : Later w5.drew W) => ((HI3.out.below ((Below.refl _ _).drew.trans h)).zb.cell f).trans (sizeA_get dt f hf)
              have hfl : (f : Int) < 2 := by omega
              have q9 : decide ((s : Int) < (dt.vis.len f : Int)) = false := by simp; omega
              have q10 : decide (s < dt.vis.len f) = false := by simp; omega
              have HLn := Lib.hid (OLen (HI3.out.below ((Below.refl _ _).drew)).own.toD (f : Int))
              rw [lenI_nat dt f hf] at HLn
              clear b5 HRd HT
              go_wp2_with fail
              refine wp_region_ord [(0, true), (1, true), (3, true), (4, true), (5, true), (2, false), (6, true), (7, true), (8, true), (9, true), (10, true), (11, true), (12, true), (13, true), (14, true), (15, true), (16, true), (17, true), (18, true), (19, true), (20, true), (21, true), (22, true), (23, true), (24, true), (25, true), (26, true), (27, true), (28, false), (29, true), (30, true), (31, true), (32, true)] (by kernel_rfl) (by kernel_rfl) (by kernel_rfl) (by kernel_rfl) ?_
              repeat (first | (refine wpO_F (v := ?_) rfl (by rfl) (fun w' hL => ?_) ?_; rotate_left; (solve | (go_simp; with_reducible rfl) | go_simp); try simp only [Act.put, List.setIfInBounds_toArray, List.set_cons_zero, List.set_cons_succ]) | (refine wpO_G rfl (by rfl) ?_; try simp only [Act.put, List.setIfInBounds_toArray, List.set_cons_zero, List.set_cons_succ]))
              refine wpO_C rfl (by rfl) ?_
              go_simp
              refine (HLn.out).mono ?_
              rintro e W ⟨rfl, hW⟩
              refine ⟨(by subst hW; exact Later.refl _), ?_⟩
              try simp only [Act.put, List.setIfInBounds_toArray, List.set_cons_zero, List.set_cons_succ]
              subst hW
              repeat (first | (refine wpO_F (v := ?_) rfl (by rfl) (fun w' hL => ?_) ?_; rotate_left; (solve | (go_simp; with_reducible rfl) | go_simp); try simp only [Act.put, List.setIfInBounds_toArray, List.set_cons_zero, List.set_cons_succ]) | (refine wpO_G rfl (by rfl) ?_; try simp only [Act.put, List.setIfInBounds_toArray, List.set_cons_zero, List.set_cons_succ]))
              refine wpO_nil ?_
              go_wp2
              go_roundw
              case rel => exact ⟨k + 1, dt, sht, by omega, by omega, by go_num, HI3.out.below ((Below.refl _ _).drew)⟩
              case measure => simp [intOf]; omega
          · have e2 : (kind == 2) = false := by simpa using hk2'
            obtain ⟨dt, sht, HT⟩ : ∃ dt sht, Hid (ShowI w wq B SB ZB dt sht (k + 1)) := ⟨d, sh, HI1.out.mono⟩
            clear HI1
            go_wp2_with fail
            have hl4 := HT.out.rel.len f
            by_cases hsl : s < dt.vis.len f
            · have HRd := Lib.hid (OReadR HT.out.own.toD (f : Int) (s : Int) (HT.out.rel.readOk f s hf hsl))
              refine HRd.out.mono ?_
              rintro e w5 ⟨g3, rfl, hg3, b5, hsec, B5⟩
              have HI3 : Hid (ShowI w w5 B SB ZB dt sht (k + 1)) := HT.out.below b5
              have hby := HI3.out.rel.byte f s
              have HBs : Hid (Bs w5.heap.size w5 (some ⟨g3, 0, none⟩) (List.replicate 128 (sht f s))) := Blk.bs B5 hsec.2
              have z1 := fun W (h : Later w5.drew W) => ((HI3.out.below ((Below.refl _ _).drew.trans h)).zb.cell f).trans (sizeA_get dt f hf)
              have z2 := fun W (h : Later w5.drew W) => ((HI3.out.below ((Below.refl _ _).drew.trans h)).sb.cell (f * 4 + s)).trans (showA_get sht f s hf hs)
              have z3 := fun W (h : Later w5.drew W) => (HBs.out.below (((Below.refl w5.heap.size w5).drew).trans h)).conv 30 5 Try.underlying30 Try.underlying5 9 Try.underlying9 128 128 (by simp)
              have hfl : (f : Int) < 2 := by omega
              have hsl4 : (s : Int) < 4 := by omega
              have q9 : decide ((s : Int) < (dt.vis.len f : Int)) = true := by simp; omega
              have q10 : decide (s < dt.vis.len f) = true := by simp; omega
              have HLn := Lib.hid (OLen (HI3.out.below ((Below.refl _ _).drew)).own.toD (f : Int))
              rw [lenI_nat dt f hf] at HLn
              clear B5 hsec b5 HRd HT
              go_wp2_with fail
              refine wp_region_ord [(0, true), (1, true), (3, true), (4, true), (5, true), (2, false), (6, true), (7, true), (8, true), (9, true), (10, true), (11, true), (12, true), (13, true), (14, true), (15, true), (16, true), (17, true), (18, true), (19, true), (20, true), (21, true), (22, true), (23, true), (24, true), (25, true), (26, true), (27, true), (28, false), (29, true), (30, true), (31, true), (32, true)] (by kernel_rfl) (by kernel_rfl) (by kernel_rfl) (by kernel_rfl) ?_
              repeat (first | (refine wpO_F (v := ?_) rfl (by rfl) (fun w' hL => ?_) ?_; rotate_left; (solve | (go_simp; with_reducible rfl) | go_simp); try simp only [Act.put, List.setIfInBounds_toArray, List.set_cons_zero, List.set_cons_succ]) | (refine wpO_G rfl (by rfl) ?_; try simp only [Act.put, List.setIfInBounds_toArray, List.set_cons_zero, List.set_cons_succ]))
              refine wpO_C rfl (by rfl) ?_
              go_simp
              refine (HLn.out).mono ?_
              rintro e W ⟨rfl, hW⟩
              refine ⟨(by subst hW; exact Later.refl _), ?_⟩
              try simp only [Act.put, List.setIfInBounds_toArray, List.set_cons_zero, List.set_cons_succ]
              subst hW
              repeat (first | (refine wpO_F (v := ?_) rfl (by rfl) (fun w' hL => ?_) ?_; rotate_left; (solve | (go_simp; with_reducible rfl) | go_simp); try simp only [Act.put, List.setIfInBounds_toArray, List.set_cons_zero, List.set_cons_succ]) | (refine wpO_G rfl (by rfl) ?_; try simp only [Act.put, List.setIfInBounds_toArray, List.set_cons_zero, List.set_cons_succ]))
              refine wpO_C rfl (by rfl) ?_
              go_simp
              refine (Full_sec (sht f s) hby _).mono ?_
              rintro e w6 ⟨g6, rfl, hg6, b6, B6⟩
              refine ⟨b6, ?_⟩
              try simp only [Act.put, List.setIfInBounds_toArray, List.set_cons_zero, List.set_cons_succ]
              have z4 := fun W (h : Later w6 W) => (B6.below h).conv 30 5 Try.underlying30 Try.underlying5 9 Try.underlying9 128 128 (by simp)
              repeat (first | (refine wpO_F (v := ?_) rfl (by rfl) (fun w' hL => ?_) ?_; rotate_left; (solve | (go_simp; with_reducible rfl) | go_simp); try simp only [Act.put, List.setIfInBounds_toArray, List.set_cons_zero, List.set_cons_succ]) | (refine wpO_G rfl (by rfl) ?_; try simp only [Act.put, List.setIfInBounds_toArray, List.set_cons_zero, List.set_cons_succ]))
              refine wpO_nil ?_
              go_wp2
              go_roundw
              case rel => exact ⟨k + 1, dt, sht, by omega, by omega, by go_num, HI3.out.below ((Below.refl _ _).drew.trans b6)⟩
              case measure => simp [intOf]; omega
            · have HRd := Lib.hid (ORead HT.out.own.toD (f : Int) (s : Int))
              rw [HT.out.rel.readNo f s hf (by omega)] at HRd
              refine HRd.out.mono ?_
              rintro e w5 ⟨b5, ⟨en, hen, rfl⟩ | ⟨b', g', hno, _⟩⟩
              rotate_left
              · cases hno
              obtain rfl : 4 = en := by injection hen
              have HI3 : Hid (ShowI w w5 B SB ZB dt sht (k + 1)) := HT.out.below b5
              have z1 := fun W (h : Later w5.drew W) => ((HI3.out.below ((Below.refl _ _).drew.trans h)).zb.cell f).trans (sizeA_get dt f hf)
              have hfl : (f : Int) < 2 := by omega
              have q9 : decide ((s : Int) < (dt.vis.len f : Int)) = false := by simp; omega
              have q10 : decide (s < dt.vis.len f) = false := by simp; omega
              have HLn := Lib.hid (OLen (HI3.out.below ((Below.refl _ _).drew)).own.toD (f : Int))
              rw [lenI_nat dt f hf] at HLn
              clear b5 HRd HT
              go_wp2_with fail
              refine wp_region_ord [(0, true), (1, true), (3, true), (4, true), (5, true), (2, false), (6, true), (7, true), (8, true), (9, true), (10, true), (11, true), (12, true), (13, true), (14, true), (15, true), (16, true), (17, true), (18, true), (19, true), (20, true), (21, true), (22, true), (23, true), (24, true), (25, true), (26, true), (27, true), (28, false), (29, true), (30, true), (31, true), (32, true)] (by kernel_rfl) (by kernel_rfl) (by kernel_rfl) (by kernel_rfl) ?_
              repeat (first | (refine wpO_F (v := ?_) rfl (by rfl) (fun w' hL => ?_) ?_; rotate_left; (solve | (go_simp; with_reducible rfl) | go_simp); try simp only [Act.put, List.setIfInBounds_toArray, List.set_cons_zero, List.set_cons_succ]) | (refine wpO_G rfl (by rfl) ?_; try simp only [Act.put, List.setIfInBounds_toArray, List.set_cons_zero, List.set_cons_succ]))
              refine wpO_C rfl (by rfl) ?_
              go_simp
              refine (HLn.out).mono ?_
              rintro e W ⟨rfl, hW⟩
              refine ⟨(by subst hW; exact Later.refl _), ?_⟩
              try simp only [Act.put, List.setIfInBounds_toArray, List.set_cons_zero, List.set_cons_succ]
              subst hW
              repeat (first | (refine wpO_F (v := ?_) rfl (by rfl) (fun w' hL => ?_) ?_; rotate_left; (solve | (go_simp; with_reducible rfl) | go_simp); try simp only [Act.put, List.setIfInBounds_toArray, List.set_cons_zero, List.set_cons_succ]) | (refine wpO_G rfl (by rfl) ?_; try simp only [Act.put, List.setIfInBounds_toArray, List.set_cons_zero, List.set_cons_succ]))
              refine wpO_nil ?_
              go_wp2
              go_roundw
              case rel => exact ⟨k + 1, dt, sht, by omega, by omega, by go_num, HI3.out.below ((Below.refl _ _).drew)⟩
              case measure => simp [intOf]; omega
      · have q1 : decide ((k : Int) < (len : Int)) = true := by simp; omega
        have q2 : decide ((k : Int) < 100) = false := by simp; omega
        have hb0 := HI0.out.own.1
        go_wp2_with (refine (HAl.out _).mono ?_; rintro e w9 ⟨rfl, b9⟩)
        go_ret
        exact ⟨rfl, hb0.trans (b9.mono hb0.size)⟩
    · have q1 : decide ((k : Int) < (len : Int)) = false := by simp; omega
      have hb0 := HI0.out.own.1
      go_wp2_with (refine (HAl.out _).mono ?_; rintro e w9 ⟨rfl, b9⟩)
      go_ret
      exact ⟨rfl, hb0.trans (b9.mono hb0.size)⟩
end Go.Proofs.Ytaggghfnbllbgaa
