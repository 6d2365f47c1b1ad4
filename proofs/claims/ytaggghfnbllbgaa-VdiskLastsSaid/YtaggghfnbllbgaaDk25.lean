/- VdiskLasts: the walk. -/
import Derived.Test.YtaggghfnbllbgaaDk24
namespace Go.Proofs.Ytaggghfnbllbgaa
set_option linter.unusedSimpArgs false
open Go.RowKit

theorem info_u8 : (Try.prog.info? 5).map (fun i => (i.zero, i.size, i.bytes)) = some (some (.int .u8 0), 1, 1) := by kernel_rfl

/-- Is the byte that which was sure, or one of the first i that waited? -/
def inAt (c s : Nat) (l : List Nat) (i : Nat) : Bool := c == s || (l.take i).any (· == c)
theorem int_beq (x y : Nat) : ((x : Int) == (y : Int)) = (x == y) := by
  rw [Bool.eq_iff_iff]
  simp only [beq_iff_eq]
  omega
theorem inAt_zero (c s : Nat) (l : List Nat) : ((c : Int) == (s : Int)) = inAt c s l 0 := by
  unfold inAt
  rw [List.take_zero, List.any_nil, Bool.or_false, int_beq]
theorem inAt_next (c s : Nat) {l : List Nat} {i x : Nat} (h : l[i]? = some x) : inAt c s l (i + 1) = (inAt c s l i || x == c) := by
  unfold inAt
  rw [List.take_add_one, h, List.any_append, Bool.or_assoc]
  simp
theorem inAt_all {c s : Nat} {l : List Nat} (h : c = s ∨ c ∈ l) : inAt c s l l.length = true := by
  unfold inAt
  rw [List.take_length]
  rcases h with h | h
  · simp [h]
  · simp only [Bool.or_eq_true, List.any_eq_true, beq_iff_eq]
    exact .inr ⟨c, h, rfl⟩

set_option maxRecDepth 100000 in
set_option maxHeartbeats 16000000 in
theorem lasts_main (a : Option Addr) (len cap : Nat) (L : List DOp) (a2 : Option Addr) (len2 cap2 : Nat) (kl : List Nat) (w : World) (hO : OpsIn w a len cap L) (hK : len2 = kl.length ∧ Bs w.heap.size w a2 kl) :
    Calls Try.prog 5 #[.slice a len cap, .slice a2 len2 cap2] w fun e w' => e = .returned (.bool true) ∧ Below w.heap.size w w' := by
  have HAl := Lib.hid alive7_any
  have HO := Lib.hid hO
  have HK := Lib.hid hK
  have hlen : len ≤ 9223372036854775807 := Nat.le_trans hO.2.1 hO.2.2.1
  clear hO hK
  have HN := Lib.hid (ONew 20 (by decide) w w (Below.refl _ _))
  by_cases hk1 : len2 > 100
  · have q : decide ((100 : Int) < (len2 : Int)) = true := by simp; omega
    go_enter Try.func5, Try.ntmps5
    go_wp2_with fail
    refine HN.out.mono ?_
    rintro e w1 ⟨B, rfl, h1⟩
    have hb1 := h1.1
    clear h1 HN
    go_wp2_with (refine (HAl.out _).mono ?_; rintro e w9 ⟨rfl, b9⟩)
    go_ret
    exact ⟨rfl, hb1.trans (b9.mono hb1.size)⟩
  · have q : decide ((100 : Int) < (len2 : Int)) = false := by simp; omega
    go_enter Try.func5, Try.ntmps5
    go_wp2_with fail
    refine HN.out.mono ?_
    rintro e w1 ⟨B, rfl, h1⟩
    have h2 := (h1.toK.add (.cells (showA fun _ _ => 0) 56))
    have h3 := h2.add (.cells (waitA fun _ _ => .slice none 0 0) 58)
    have hsz : (w1.alloc (.cells (showA fun _ _ => 0) 56)).heap.size = w1.heap.size + 1 := by simp
    rw [hsz] at h3
    have HI : Hid (LastM w ((w1.alloc (.cells (showA fun _ _ => 0) 56)).alloc (.cells (waitA fun _ _ => .slice none 0 0) 58)) B w1.heap.size (w1.heap.size + 1) (DS.new 20) (fun _ _ => 0) (fun _ _ => .slice none 0 0) (waitsOf [])) :=
      ⟨h3, (Blk.new w1 _ _).alloc _, ⟨by have := Blk.new (w1.alloc (.cells (showA fun _ _ => 0) 56)) 58 (waitA fun _ _ => .slice none 0 0); rw [hsz] at this; exact this, fun f s _ _ => World.ownsRow_nil _ _ _ _, fun f s g t _ _ _ _ _ k hk => by simp [Value.ownBlock] at hk, fun f s _ _ c hc => by simp [waitsOf] at hc⟩⟩
    clear h1 h2 h3 HN hsz q
    go_wp2
    obtain ⟨SB, hSB⟩ : ∃ SB, w1.heap.size = SB := ⟨_, rfl⟩
    rw [hSB] at HI ⊢
    obtain ⟨WB, hWB⟩ : ∃ WB, SB + 1 = WB := ⟨_, rfl⟩
    rw [hWB] at HI ⊢
    clear hSB hWB
    go_loopw [9] (fun iv wr => ∃ (k : Nat) (d : DS) (sure : Nat → Nat → Nat) (V : Nat → Nat → Value) (P : List PW), k ≤ len ∧ k ≤ 100 ∧ iv = .int .i64 k ∧ Hid (LastM w wr B SB WB d sure V (waitsOf P)) ∧ Hid (LastR d sure P k)) (fun iv _ => len - (intOf iv).toNat)
    case atStart => exact ⟨0, _, _, _, _, by omega, by omega, rfl, HI.out, LastR.new⟩
    case round =>
      obtain ⟨k, d, sure, V, P, hk, hk2, rfl, HI0, HR0⟩ := hrel
      have HFEW : Hid (P.length ≤ 100) := by have := HR0.out.few; show P.length ≤ 100; omega
      clear HI
      by_cases hlt : k < len
      · by_cases hlt2 : k < 100
        · have hkL : k < L.length := by have := HO.out.1; omega
          obtain ⟨o, ho⟩ : ∃ o, L[k]? = some o := ⟨_, List.getElem?_eq_getElem hkL⟩
          have hfair := HO.out.2.2.2.2 o (List.mem_of_getElem? ho)
          obtain ⟨b, off, rfl, hbN, hcells⟩ : ∃ b off, a = some ⟨b, off, none⟩ ∧ b < w.heap.size ∧ ∀ (j : Nat) (v : Value), o.cells[j]? = some v → w.cell? ⟨b, off + k * 6 + j, none⟩ = some v := by
            rcases HO.out.2.2.2.1 with h | ⟨b, off, h1, h2, h3⟩
            · rw [h] at hkL; simp at hkL
            · exact ⟨b, off, h1, h2, h3 k o ho⟩
          obtain ⟨kind, file, sect, n, by_, oa, ol, oc, obs⟩ := o
          have hby_ : by_ < 256 := hfair.by_
          have hnb := hfair.n
          simp only at hnb
          have hcl : ∀ (W : World), Below w.heap.size w W → ∀ (j : Nat) (v : Value), (DOp.cells ⟨kind, file, sect, n, by_, oa, ol, oc, obs⟩)[j]? = some v → W.cell? ⟨b, off + k * 6 + j, none⟩ = some v := fun W hW j v hv => (hW.cell (p := ⟨b, off + k * 6 + j, none⟩) hbN).trans (hcells j v hv)
          have HCL := Lib.hid hcl
          clear hcells hfair ho hkL hcl
          obtain ⟨f, hf, ef⟩ := and_mask1 file
          obtain ⟨s, hs, es⟩ := and_mask3 sect
          have hb0 := HI0.out.own.1
          have c1 := fun W (h : Later wr.drew W) => HCL.out W (hb0.drew.trans (Below.mono h hb0.size)) 1 _ rfl
          have c2 := fun W (h : Later wr.drew W) => HCL.out W (hb0.drew.trans (Below.mono h hb0.size)) 2 _ rfl
          go_wp2_with fail
          refine wp_region_ord [(0, true), (1, true), (2, true), (3, true), (4, true), (5, true), (6, true), (7, true), (8, true), (9, true), (10, true), (11, true), (12, true), (13, true)] (by kernel_rfl) (by kernel_rfl) (by kernel_rfl) (by kernel_rfl) ?_
          repeat (first | (refine wpO_F (v := ?_) rfl (by rfl) (fun w' hL => ?_) ?_; rotate_left; (solve | (go_simp; with_reducible rfl) | go_simp); try simp only [Act.put, List.setIfInBounds_toArray, List.set_cons_zero, List.set_cons_succ]) | (refine wpO_G rfl (by rfl) ?_; try simp only [Act.put, List.setIfInBounds_toArray, List.set_cons_zero, List.set_cons_succ]))
          refine wpO_nil ?_
          try simp only [NoPanic]
          clear c1 c2
          have HI1 : Hid (LastM w wr.drew B SB WB d sure V (waitsOf P)) := HI0.out.below ((Below.refl _ _).drew)
          have HR1 := HR0
          clear HI0 hb0 HR0
          generalize hwr : wr.drew = wq at HI1 ⊢
          clear hwr
          have c0 : wq.cell? ⟨b, off + k * 6, none⟩ = some (.int .i64 kind) := HCL.out wq HI1.out.own.1 0 _ rfl
          by_cases hk0 : kind = 0
          · as_aux_lemma =>
              subst hk0
              have c4 := HCL.out wq HI1.out.own.1 4 _ rfl
              obtain ⟨r, d', hw2, hrel2⟩ := HR1.out.write f s by_ hf hs hby_
              have hcs := HR1.out.calls
              have hpd : d.pend.length ≤ k := by rw [HR1.out.pend, List.length_map]; exact HR1.out.few
              go_wp2_with fail
              refine (Full_sec by_ hby_ wq).mono ?_
              rintro e w2 ⟨g2, rfl, hg2, b2, B2⟩
              have HI2 : Hid (LastM w w2 B SB WB d sure V (waitsOf P)) := HI1.out.below b2
              have HWr := Lib.hid (KWriteR HI2.out.own f s by_ g2 B2 hw2 (by omega) (by omega))
              clear hw2 B2 b2 hg2 c0 c4 hcs hpd HI1 HR1
              go_wp2_with fail
              refine HWr.out.mono ?_
              rintro e w3 ⟨rfl, ho3, hk3⟩
              have HI3 : Hid (LastM w w3 B SB WB d' sure V (waitsOf P)) := HI2.out.disk ho3 hk3
              clear HWr ho3 hk3 HI2
              rcases hrel2 with ⟨rfl, hR⟩ | ⟨rfl, hR⟩
              · have HR3 := Lib.hid hR
                clear hR
                have hown3 := HI3.out.ri.rows f s hf hs
                have hlenW : (waitsOf P f s).length ≤ 1000 := by
                  have h1 := HR3.out.few
                  have h2 := waitsOf_le P f s
                  simp at h1
                  omega
                have hb3 := HI3.out.own.1
                have hWBl : WB < w3.heap.size := (HI3.out.ge (by simp)).2
                have hWBn : WB ∉ (V f s).ownBlock.toList := fun hm => HI3.out.noWB hf hs (by simpa using hm)
                have hrowge : ∀ g ∈ (V f s).ownBlock.toList, w.heap.size ≤ g := fun g hg => (HI3.out.ge (k := g) (by simp only [List.mem_cons]; exact .inr (.inr (mem_rowsL.2 ⟨f, s, hf, hs, by simpa using hg⟩)))).1
                have hwb3 := HI3.out.ri.wb
                have e2 : ∀ W, Chg (V f s).ownBlock.toList w3.drew W → W.cell? ⟨WB, f * 4 + s, none⟩ = some (V f s) := fun W h => (h.cell (b := WB) hWBl hWBn).trans ((hwb3.cell (f * 4 + s)).trans (waitA_get V f s hf hs))
                have c4 := fun W (h : Chg (V f s).ownBlock.toList w3.drew W) => HCL.out W (hb3.trans ((Chg.undrew h).below hb3.size hrowge)) 4 _ rfl
                have HO3 : Hid ((w3.drew.alloc (.cells #[.int .u8 (by_ : Int)] 5)).ownsRow 0 5 1 (V f s) (waitsOf P f s).length (cellsB (waitsOf P f s))) := own_chg hown3 (((Chg.refl [] w3).drew).alloc _) (by simp)
                have HG5 : Hid (Chg [] w3 (w3.drew.alloc (.cells #[.int .u8 (by_ : Int)] 5))) := ((Chg.refl [] w3).drew).alloc _
                have hnews : Hid (∀ j u, ([.int .u8 (by_ : Int)] : List Value)[j]? = some u → (w3.drew.alloc (.cells #[.int .u8 (by_ : Int)] 5)).cell? ((⟨w3.heap.size, 0, none⟩ : Addr).add j) = some u) := by
                  intro j u hj
                  rw [Addr.add_mid, Nat.zero_add, show w3.heap.size = w3.drew.heap.size from rfl, World.cell?_alloc_new]
                  simpa using hj
                obtain ⟨i0, hi, hz0, hz1, hz2⟩ := info_parts info_u8
                have HIF := Lib.hid (And.intro hi (And.intro hz0 (And.intro hz1 hz2)))
                have HWB3 := Lib.hid (And.intro hwb3 (And.intro hWBl hWBn))
                have hfl : (f : Int) < 2 := by omega
                have hsl4 : (s : Int) < 4 := by omega
                clear hown3 hb3 hWBl hrowge hwb3 hi hz0 hz1 hz2 hWBn
                go_wp2_with fail
                refine wp_region_ordX ((V f s).ownBlock.toList) 16 [(0, true), (1, true), (2, true), (3, true), (4, true), (5, true), (6, true), (7, true), (8, true), (9, true), (10, true), (11, true), (14, true), (12, false), (13, false), (15, true)] (by kernel_rfl) (by kernel_rfl) (by kernel_rfl) (by kernel_rfl) ?_
                repeat (first | (refine wpOX_F (v := ?_) rfl (by rfl) (fun w' hL => ?_) ?_; rotate_left; (solve | (go_simp; with_reducible rfl) | go_simp); try simp only [Act.put, List.setIfInBounds_toArray, List.set_cons_zero, List.set_cons_succ]) | (refine wpOX_G (Chg.refl _) rfl (by rfl) ?_; try simp only [Act.put, List.setIfInBounds_toArray, List.set_cons_zero, List.set_cons_succ]))
                refine wpOX_C rfl (by rfl) ?_
                go_simp
                refine ⟨(Chg.refl _ _).alloc _, ?_⟩
                try simp only [Act.put, List.setIfInBounds_toArray, List.set_cons_zero, List.set_cons_succ]
                refine wpOX_C rfl (by rfl) ?_
                refine wp_append_lies _ (.tmp 87) (.tmp 93) 30 rfl 0 5 i0 (.int .u8 0) 1 1 Try.underlying30 HIF.out.1 HIF.out.2.1 HIF.out.2.2.1 HIF.out.2.2.2 rfl (by omega) (V f s) (waitsOf P f s).length (cellsB (waitsOf P f s)) rfl HO3.out ⟨w3.heap.size, 0, none⟩ 1 1 [.int .u8 (by_ : Int)] rfl rfl hnews.out (by simp [Value.oneCell']) (by omega) (by unfold maxLen; omega) (by omega) (Nat.zero_le _) _ rfl ?_
                intro g cap' w6 hown hgr hlies hlt6
                have hg6 : Chg (V f s).ownBlock.toList (w3.drew.alloc (.cells #[.int .u8 (by_ : Int)] 5)) w6 := ⟨hgr.os, hgr.tape, hgr.output, hgr.size, fun k hk hn => hgr.block k hk (fun e => hn (by rw [← e]; simp))⟩
                refine ⟨hg6, ?_⟩
                try simp only [Act.put, List.setIfInBounds_toArray, List.set_cons_zero, List.set_cons_succ]
                have hw6 := (HWB3.out.1.chg HG5.out (by simp)).chg hg6 HWB3.out.2.2
                have t1 := (hw6.cell (f * 4 + s)).trans (waitA_get V f s hf hs)
                have t2 := hw6.frozen (f * 4 + s)
                have t3 := hw6.lt
                have HAp : Hid (LastM w (w6.setCell ⟨WB, f * 4 + s, none⟩ (.slice (some ⟨g, 0, none⟩) ((waitsOf P f s).length + 1) cap')) B SB WB d' sure (updV V f s (.slice (some ⟨g, 0, none⟩) ((waitsOf P f s).length + 1) cap')) (waitsOf (P ++ [(f, s, by_)]))) := by
                  have := HI3.out.app f s by_ hf hs hby_ HG5.out (n := (waitsOf P f s).length + 1) rfl (by unfold cellsB at hown ⊢; rw [List.map_append]; exact hown) hgr hlies hlt6
                  rw [updW_snoc] at this
                  exact this
                clear e2 c4 HO3 HG5 hnews HIF HWB3 hown hgr hlies hg6 hw6 HI3
                repeat (first | (refine wpOX_F (v := ?_) rfl (by rfl) (fun w' hL => ?_) ?_; rotate_left; (solve | (go_simp; with_reducible rfl) | go_simp); try simp only [Act.put, List.setIfInBounds_toArray, List.set_cons_zero, List.set_cons_succ]) | (refine wpOX_G (Chg.refl _) rfl (by rfl) ?_; try simp only [Act.put, List.setIfInBounds_toArray, List.set_cons_zero, List.set_cons_succ]))
                refine wpOX_end rfl (by rfl) ?_
                go_simp
                try simp only [NoPanic, Act.put]
                go_wp2_with fail
                go_roundw
                case rel => exact ⟨k + 1, _, _, _, _, by omega, by omega, by go_num, HAp.out, HR3.out⟩
                case measure => simp [intOf]; omega
              · have HR3 := Lib.hid hR
                clear hR
                go_wp2_with fail
                go_roundw
                case rel => exact ⟨k + 1, _, _, _, _, by omega, by omega, by go_num, HI3.out, HR3.out⟩
                case measure => simp [intOf]; omega
          · have e0 : (kind == 0) = false := by simpa using hk0
            by_cases hk2' : kind = 2
            · as_aux_lemma =>
                subst hk2'
                obtain ⟨r, d', hw2, hrel2⟩ := HR1.out.sync f hf
                have hcs := HR1.out.calls
                have HWr := Lib.hid (KSyncR HI1.out.own f hw2 (by omega))
                clear hw2 hcs
                go_wp2_with fail
                refine HWr.out.mono ?_
                rintro e w3 ⟨rfl, ho3, hk3⟩
                have HI3 : Hid (LastM w w3 B SB WB d' sure V (waitsOf P)) := HI1.out.disk ho3 hk3
                have hfew : P.length ≤ 1000 := by have := HR1.out.few; omega
                clear HWr ho3 hk3 HI1 c0 HR1
                rcases hrel2 with ⟨rfl, hR⟩ | ⟨rfl, hR⟩
                · have HR3 := Lib.hid hR
                  clear hR
                  go_wp2_with fail
                  go_loopw [12] (fun jv wj => ∃ (j : Nat) (V' : Nat → Nat → Value), j ≤ 4 ∧ jv = .int .i64 j ∧ Hid (LastM w wj B SB WB d' (sureJ sure P f j) V' (waitJ P f j))) (fun jv _ => 4 - (intOf jv).toNat)
                  case atStart => exact ⟨0, V, by omega, rfl, by rw [sureJ_zero, waitJ_zero]; exact HI3.out⟩
                  case round =>
                    obtain ⟨j, V', hj, rfl, HJ⟩ := hrel
                    clear HI3
                    by_cases hj4 : j < 4
                    · have hfl : (f : Int) < 2 := by omega
                      have hjl : (j : Int) < 4 := by omega
                      have z2 := HJ.out.ri.wb.frozen (f * 4 + j)
                      have z3 := HJ.out.ri.wb.lt
                      have z1 := (HJ.out.ri.wb.cell (f * 4 + j)).trans (waitA_get V' f j hf hj4)
                      have hnl : (waitsOf P f j).length ≤ 1000 := Nat.le_trans (waitsOf_le P f j) hfew
                      have hform := HJ.out.ri.form hf hj4
                      rw [waitJ_at] at hform
                      rcases hform with ⟨hv, hw0⟩ | ⟨g, cap', hv, hgl, hcell⟩
                      · rw [hv] at z1
                        have HS : Hid (LastM w (wr.setCell ⟨WB, f * 4 + j, none⟩ (.slice none 0 0)) B SB WB d' (sureJ sure P f (j + 1)) (updV V' f j (.slice none 0 0)) (waitJ P f (j + 1))) := by
                          have := HJ.out.setRow f j (.slice none 0 0) [] hf hj4 (by simp) (World.ownsRow_nil _ _ _ _) (.inl rfl)
                          rw [waitJ_next, sureJ_none sure P f j hw0] at this
                          exact this
                        clear hv hw0
                        go_wp2
                        go_roundw
                        case rel => exact ⟨j + 1, _, by omega, by go_num, HS.out⟩
                        case measure => simp [intOf]; omega
                      · rw [hv] at z1
                        obtain ⟨n, hn⟩ : ∃ n, (waitsOf P f j).length = n := ⟨_, rfl⟩
                        rw [hn] at z1 hnl
                        by_cases hn0 : n = 0
                        · subst hn0
                          have HS : Hid (LastM w (wr.setCell ⟨WB, f * 4 + j, none⟩ (.slice none 0 0)) B SB WB d' (sureJ sure P f (j + 1)) (updV V' f j (.slice none 0 0)) (waitJ P f (j + 1))) := by
                            have := HJ.out.setRow f j (.slice none 0 0) [] hf hj4 (by simp) (World.ownsRow_nil _ _ _ _) (.inl rfl)
                            rw [waitJ_next, sureJ_none sure P f j (List.length_eq_zero_iff.1 hn)] at this
                            exact this
                          clear hv hn hcell
                          go_wp2
                          go_roundw
                          case rel => exact ⟨j + 1, _, by omega, by go_num, HS.out⟩
                          case measure => simp [intOf]; omega
                        · obtain ⟨m, rfl⟩ : ∃ m, n = m + 1 := ⟨n - 1, by omega⟩
                          obtain ⟨c, hc⟩ : ∃ c, (waitsOf P f j)[m]? = some c := ⟨_, List.getElem?_eq_getElem (by omega)⟩
                          have hlast : (waitsOf P f j).getLast? = some c := by rw [List.getLast?_eq_getElem?, hn]; exact hc
                          have hce := hcell m c hc
                          have hsb := HJ.out.sb
                          have t1 := (hsb.cell (f * 4 + j)).trans (showA_get _ f j hf hj4)
                          have t2 := hsb.frozen (f * 4 + j)
                          have t3 := hsb.lt
                          have HS1 := Lib.hid (HJ.out.setSure f j c hf hj4)
                          rw [sureJ_next sure P f j c hlast] at HS1
                          have hgSB : g ≠ SB := fun e => HJ.out.noSB hf hj4 (by rw [hv, e]; rfl)
                          have hne := HJ.out.ne
                          have l1 : ∀ W, Chg [SB] wr.drew W → W.cell? ⟨WB, f * 4 + j, none⟩ = some (.slice (some ⟨g, 0, none⟩) (m + 1) cap') := fun W h => (h.cell (b := WB) z3 (by simp; exact fun e => hne e.symm)).trans z1
                          have l2 : ∀ W, Chg [SB] wr.drew W → W.cell? ⟨g, m, none⟩ = some (.int .u8 (c : Int)) := fun W h => (h.cell (b := g) hgl (by simpa using hgSB)).trans hce
                          have hsub : IntKind.i64.wrap (((m + 1 : Nat) : Int) - 1) = (m : Int) := by simp [IntKind.wrap, IntKind.bits, IntKind.signed]; omega
                          have HS2 : Hid (LastM w (((wr.drew).setCell ⟨SB, f * 4 + j, none⟩ (.int .u8 (c : Int))).setCell ⟨WB, f * 4 + j, none⟩ (.slice none 0 0)) B SB WB d' (sureJ sure P f (j + 1)) (updV V' f j (.slice none 0 0)) (waitJ P f (j + 1))) := by
                            have := (HS1.out.below ((Below.refl _ _).drew)).setRow f j (.slice none 0 0) [] hf hj4 (by simp) (World.ownsRow_nil _ _ _ _) (.inl rfl)
                            rw [waitJ_next] at this
                            exact this
                          have hz4 : Hid (((wr.setCell ⟨SB, f * 4 + j, none⟩ (.int .u8 (c : Int))).drew).cell? ⟨WB, f * 4 + j, none⟩ = some (.slice (some ⟨g, 0, none⟩) (m + 1) cap') ∧ ((wr.setCell ⟨SB, f * 4 + j, none⟩ (.int .u8 (c : Int))).drew).frozen? ⟨WB, f * 4 + j, none⟩ = false ∧ WB < ((wr.setCell ⟨SB, f * 4 + j, none⟩ (.int .u8 (c : Int))).drew).heap.size) := by
                            have h1 := HS1.out.ri.wb
                            have h2 := (h1.cell (f * 4 + j)).trans (waitA_get V' f j hf hj4)
                            rw [hv, hn] at h2
                            exact ⟨h2, h1.frozen _, h1.lt⟩
                          clear hv hn hcell hce hc hlast HS1 hgSB hne hsb z2
                          have t1' : wr.drew.cell? ⟨SB, f * 4 + j, none⟩ = _ := t1
                          have t2' : wr.drew.frozen? ⟨SB, f * 4 + j, none⟩ = _ := t2
                          have qn : decide ((0 : Int) < ((m + 1 : Nat) : Int)) = true := by rw [decide_eq_true_eq]; omega
                          have hsub2 : IntKind.i64.wrap (m : Int) = (m : Int) := by simp [IntKind.wrap, IntKind.bits, IntKind.signed]; omega
                          have hsub3 : (m : Int) < (m : Int) + 1 := by omega
                          go_wp2_with fail
                          clear z1 qn
                          refine wp_region_ordX [SB] 13 [(0, true), (1, true), (2, true), (3, true), (4, true), (5, true), (6, true), (7, true), (8, true), (9, true), (10, true), (11, true), (12, true)] (by kernel_rfl) (by kernel_rfl) (by kernel_rfl) (by kernel_rfl) ?_
                          repeat (first | (refine wpOX_F (v := ?_) rfl (by rfl) (fun w' hL => ?_) ?_; rotate_left; (solve | (go_simp; with_reducible rfl) | go_simp); try simp only [Act.put, List.setIfInBounds_toArray, List.set_cons_zero, List.set_cons_succ]) | (refine wpOX_G (Chg.refl _) rfl (by rfl) ?_; try simp only [Act.put, List.setIfInBounds_toArray, List.set_cons_zero, List.set_cons_succ]))
                          refine wpOX_end rfl (by rfl) ?_
                          go_simp
                          try simp only [NoPanic, Act.put]
                          obtain ⟨y1, y2, y3⟩ := hz4.out
                          go_wp2
                          go_roundw
                          case rel => exact ⟨j + 1, _, by omega, by go_num, HS2.out⟩
                          case measure => simp [intOf]; omega
                    · obtain rfl : j = 4 := by omega
                      have HF : Hid (LastM w wr B SB WB d' (syncS sure P f) V' (waitsOf (P.filter fun x => x.1 != f))) := by
                        refine HJ.out.congr (fun g t hg ht => ?_) (fun g t hg ht => ?_)
                        · unfold sureJ
                          by_cases e : g = f
                          · rw [if_pos ⟨e, ht⟩]
                          · rw [if_neg (fun h => e h.1)]; unfold syncS; rw [if_neg e]
                        · unfold waitJ
                          rw [waitsOf_file]
                          by_cases e : g = f
                          · rw [if_pos ⟨e, ht⟩, if_pos e]
                          · rw [if_neg (fun h => e h.1), if_neg e]
                      clear HJ
                      go_wp2_with fail
                      go_roundw
                      case rel => exact ⟨k + 1, _, _, _, _, by omega, by omega, by go_num, HF.out, HR3.out⟩
                      case measure => simp [intOf]; omega
                · have HR3 := Lib.hid hR
                  clear hR
                  go_wp2_with fail
                  go_roundw
                  case rel => exact ⟨k + 1, _, _, _, _, by omega, by omega, by go_num, HI3.out, HR3.out⟩
                  case measure => simp [intOf]; omega
            · have e2 : (kind == 2) = false := by simpa using hk2'
              by_cases hk3' : kind = 3
              · as_aux_lemma =>
                  subst hk3'
                  have c3 := HCL.out wq HI1.out.own.1 3 _ rfl
                  have HWr := Lib.hid (KFail HI1.out.own n (by have := hnb.2; omega))
                  have HR3 := Lib.hid (HR1.out.fail n)
                  clear HR1
                  go_wp2_with fail
                  refine HWr.out.mono ?_
                  rintro e w3 ⟨rfl, ho3, hk3⟩
                  have HI3 : Hid (LastM w w3 B SB WB (d.fail n).2 sure V (waitsOf P)) := HI1.out.disk ho3 hk3
                  clear HWr ho3 hk3 HI1 c0 c3
                  go_wp2_with fail
                  go_roundw
                  case rel => exact ⟨k + 1, _, _, _, _, by omega, by omega, by go_num, HI3.out, HR3.out⟩
                  case measure => simp [intOf]; omega
              · have e3 : (kind == 3) = false := by simpa using hk3'
                as_aux_lemma =>
                  have HR3 := Lib.hid HR1.out.mono
                  clear HR1
                  go_wp2_with fail
                  go_roundw
                  case rel => exact ⟨k + 1, _, _, _, _, by omega, by omega, by go_num, HI1.out, HR3.out⟩
                  case measure => simp [intOf]; omega
        · have q1 : decide ((k : Int) < (len : Int)) = true := by simp; omega
          have q2 : decide ((k : Int) < 100) = false := by simp; omega
          go_wp2_with fail
          as_aux_lemma =>
            have hb0 := HI0.out.own.1
            have hok : d.ok := by obtain ⟨_, S, hI, _, _⟩ := HI0.out.own; exact hI.ok
            have hcr := HR0.out.crash hok kl
            have hkr := KCrash HI0.out.own kl a2 len2 cap2 _ (HK.out.2.below hb0) hb0.size HK.out.1 (by omega)
            obtain ⟨dc, hdc⟩ : ∃ dc, d.crash kl = dc := ⟨_, rfl⟩
            rw [hdc] at hcr hkr
            have HC := Lib.hid hcr
            have HKr := Lib.hid hkr
            clear hdc hcr hkr hok hb0 HR0
            refine HKr.out.mono ?_
            rintro e w3 ⟨rfl, ho3, hk3⟩
            have HI3 : Hid (LastM w w3 B SB WB dc sure V (waitsOf P)) := HI0.out.disk ho3 hk3
            clear HKr ho3 hk3 HI0
            go_wp2_with fail
            go_loopw [14] (fun fv wx => ∃ f : Nat, f ≤ 2 ∧ fv = .int .i64 f ∧ Hid (LastM w wx B SB WB dc sure V (waitsOf P))) (fun fv _ => 2 - (intOf fv).toNat)
            case atStart => exact ⟨0, by omega, rfl, HI3.out⟩
            case round =>
              obtain ⟨f, hf2, rfl, HI4⟩ := hrel
              clear HI3
              by_cases hf : f < 2
              · have hfl : (f : Int) < 2 := by omega
                have hvl := HC.out.len f
                obtain ⟨nl, hnl⟩ : ∃ nl, dc.vis.len f = nl := ⟨_, rfl⟩
                have HNL := Lib.hid hnl
                rw [hnl] at hvl
                clear hnl
                go_wp2_with fail
                go_loopw [15] (fun kv wx => ∃ j : Nat, j ≤ nl ∧ kv = .int .i64 j ∧ Hid (LastM w wx B SB WB dc sure V (waitsOf P))) (fun kv _ => nl - (intOf kv).toNat)
                case atStart => exact ⟨0, by omega, rfl, HI4.out⟩
                case round =>
                  obtain ⟨j, hj, rfl, HI5⟩ := hrel
                  clear HI4
                  have hln := OLen HI5.out.own.toD (f : Int)
                  rw [lenI_nat dc f hf, HNL.out] at hln
                  have HLn := Lib.hid hln
                  clear hln
                  by_cases hjl : j < nl
                  · have q5 : decide ((j : Int) < (nl : Int)) = true := by rw [decide_eq_true_eq]; omega
                    have q6 : decide ((3 : Int) < (j : Int)) = false := by rw [decide_eq_false_iff_not]; omega
                    have hj4 : j < 4 := by omega
                    have hj4i : (j : Int) < 4 := by omega
                    obtain ⟨c, hc, hread, hmem⟩ := HC.out.readOk f j hf (by rw [HNL.out]; exact hjl)
                    have HMem := Lib.hid hmem
                    have HRd := Lib.hid (OReadR HI5.out.own.toD (f : Int) (j : Int) hread)
                    clear hmem hread
                    go_wp2_with fail
                    refine HLn.out.mono ?_
                    rintro e wl ⟨rfl, hwl⟩
                    subst hwl
                    go_wp2_with fail
                    refine HRd.out.mono ?_
                    rintro e w5 ⟨g3, rfl, hg3, b5, hsec, B5⟩
                    have HI6 : Hid (LastM w w5 B SB WB dc sure V (waitsOf P)) := HI5.out.below b5
                    have HBs : Hid (Bs w5.heap.size w5 (some ⟨g3, 0, none⟩) (List.replicate 128 c)) := Blk.bs B5 hsec.2
                    have HB5 := Lib.hid B5
                    have z1 := fun W (h : Later w5.drew W) => (h.cell (p := ⟨g3, 0, none⟩) HB5.out.lt).trans ((HB5.out.cell 0).trans (show (cellsB (List.replicate 128 c)).toArray[0]? = some (.int .u8 (c : Int)) by simp [cellsB]))
                    have z3 := fun W (h : Later w5.drew W) => (HBs.out.below (((Below.refl w5.heap.size w5).drew).trans h)).conv 30 5 Try.underlying30 Try.underlying5 9 Try.underlying9 128 128 (by simp)
                    clear B5 hsec b5 HRd HI5 hg3 HLn
                    go_wp2_with fail
                    refine wp_region_ord [(0, true), (1, true), (2, true), (3, true), (4, true), (5, true), (6, true), (7, true), (8, true), (9, true), (10, true), (11, true), (12, true), (13, false), (14, true), (15, true), (16, true), (17, true), (18, true), (19, true), (20, true)] (by kernel_rfl) (by kernel_rfl) (by kernel_rfl) (by kernel_rfl) ?_
                    repeat (first | (refine wpO_F (v := ?_) rfl (by rfl) (fun w' hL => ?_) ?_; rotate_left; (solve | (go_simp; with_reducible rfl) | go_simp); try simp only [Act.put, List.setIfInBounds_toArray, List.set_cons_zero, List.set_cons_succ]) | (refine wpO_G rfl (by rfl) ?_; try simp only [Act.put, List.setIfInBounds_toArray, List.set_cons_zero, List.set_cons_succ]))
                    refine wpO_C rfl (by rfl) ?_
                    go_simp
                    refine (Full_sec c hc _).mono ?_
                    rintro e w6 ⟨g6, rfl, hg6, b6, B6⟩
                    refine ⟨b6, ?_⟩
                    try simp only [Act.put, List.setIfInBounds_toArray, List.set_cons_zero, List.set_cons_succ]
                    have z4 := fun W (h : Later w6 W) => (B6.below h).conv 30 5 Try.underlying30 Try.underlying5 9 Try.underlying9 128 128 (by simp)
                    repeat (first | (refine wpO_F (v := ?_) rfl (by rfl) (fun w' hL => ?_) ?_; rotate_left; (solve | (go_simp; with_reducible rfl) | go_simp); try simp only [Act.put, List.setIfInBounds_toArray, List.set_cons_zero, List.set_cons_succ]) | (refine wpO_G rfl (by rfl) ?_; try simp only [Act.put, List.setIfInBounds_toArray, List.set_cons_zero, List.set_cons_succ]))
                    refine wpO_nil ?_
                    try simp only [NoPanic]
                    have hb56 : Below w5.heap.size w5 w6 := (Below.refl _ _).drew.trans b6
                    have HI7 : Hid (LastM w w6 B SB WB dc sure V (waitsOf P)) := HI6.out.below hb56
                    have HB6 : Hid (g3 < w6.heap.size ∧ w6.cell? ⟨g3, 0, none⟩ = some (.int .u8 (c : Int))) := ⟨Nat.lt_of_lt_of_le HB5.out.lt hb56.size, (hb56.cell (p := ⟨g3, 0, none⟩) HB5.out.lt).trans ((HB5.out.cell 0).trans (show (cellsB (List.replicate 128 c)).toArray[0]? = some (.int .u8 (c : Int)) by simp [cellsB]))⟩
                    clear z1 z3 z4 HI6 HBs HB5 b6 B6 hb56 hg6
                    have x1 := fun W (h : Later w6.drew W) => ((HI7.out.below ((Below.refl _ _).drew.trans h)).sb.cell (f * 4 + j)).trans (showA_get sure f j hf hj4)
                    have x2 := fun W (h : Later w6.drew W) => (h.cell (p := ⟨g3, 0, none⟩) HB6.out.1).trans HB6.out.2
                    obtain ⟨bs, hbs⟩ : ∃ bs, inAt c (sure f j) (waitsOf P f j) 0 = bs := ⟨_, rfl⟩
                    have q7 : ((c : Int) == (sure f j : Int)) = bs := by rw [← hbs, inAt_zero]
                    have HBS := Lib.hid hbs
                    clear hbs
                    go_wp2_with fail
                    refine wp_region_ord [(0, true), (1, true), (2, true), (3, true), (4, true), (5, true), (6, true), (7, true), (8, true), (9, true)] (by kernel_rfl) (by kernel_rfl) (by kernel_rfl) (by kernel_rfl) ?_
                    repeat (first | (refine wpO_F (v := ?_) rfl (by rfl) (fun w' hL => ?_) ?_; rotate_left; (solve | (go_simp; with_reducible rfl) | go_simp); try simp only [Act.put, List.setIfInBounds_toArray, List.set_cons_zero, List.set_cons_succ]) | (refine wpO_G rfl (by rfl) ?_; try simp only [Act.put, List.setIfInBounds_toArray, List.set_cons_zero, List.set_cons_succ]))
                    refine wpO_nil ?_
                    try simp only [NoPanic]
                    clear x1 x2 q7
                    have HI8 : Hid (LastM w w6.drew B SB WB dc sure V (waitsOf P)) := HI7.out.below ((Below.refl _ _).drew)
                    go_wp2_with fail
                    obtain ⟨n, hn⟩ : ∃ n, (waitsOf P f j).length = n := ⟨_, rfl⟩
                    have HNn := Lib.hid hn
                    clear hn HI7
                    go_loopw [18, 19] (fun bv iv wx => ∃ (i : Nat) (bi : Bool), i ≤ n ∧ iv = .int .i64 i ∧ bv = .bool bi ∧ Hid (inAt c (sure f j) (waitsOf P f j) i = bi) ∧ Hid (LastM w wx B SB WB dc sure V (waitsOf P)) ∧ Hid (g3 < wx.heap.size ∧ wx.cell? ⟨g3, 0, none⟩ = some (.int .u8 (c : Int)))) (fun _ iv _ => n - (intOf iv).toNat)
                    case atStart => exact ⟨0, bs, by omega, rfl, rfl, HBS.out, HI8.out, HB6.out⟩
                    case round =>
                      obtain ⟨i, bi, hi, rfl, rfl, Hbi, HI9, HB9⟩ := hrel
                      clear HI8 HBS HB6
                      have hnle : n ≤ 1000 := by
                        have h1 := waitsOf_le P f j
                        have h2 := HFEW.out
                        have h3 := HNn.out
                        omega
                      have hform := HI9.out.ri.form hf hj4
                      rw [HNn.out] at hform
                      by_cases hin : i < n
                      · obtain ⟨x, hx⟩ : ∃ x, (waitsOf P f j)[i]? = some x := ⟨_, List.getElem?_eq_getElem (by rw [HNn.out]; exact hin)⟩
                        rcases hform with ⟨hv, hw0⟩ | ⟨g, cap', hv, hgl, hcell⟩
                        · rw [hw0] at hx; simp at hx
                        · have hxc := hcell i x hx
                          have hnext := inAt_next c (sure f j) hx
                          rw [Hbi.out] at hnext
                          have q8 : decide ((i : Int) < (n : Int)) = true := by rw [decide_eq_true_eq]; omega
                          have y0 := (HI9.out.ri.wb.cell (f * 4 + j)).trans (waitA_get V f j hf hj4)
                          rw [hv] at y0
                          have y1 := fun W (h : Later wr.drew W) => ((HI9.out.below ((Below.refl _ _).drew.trans h)).ri.wb.cell (f * 4 + j)).trans (waitA_get V f j hf hj4)
                          rw [hv] at y1
                          have y2 := fun W (h : Later wr.drew W) => (h.cell (p := ⟨g, i, none⟩) (show g < wr.drew.heap.size from hgl)).trans (show wr.drew.cell? ⟨g, i, none⟩ = some (.int .u8 (x : Int)) from hxc)
                          have y3 := fun W (h : Later wr.drew W) => (h.cell (p := ⟨g3, 0, none⟩) (show g3 < wr.drew.heap.size from HB9.out.1)).trans (show wr.drew.cell? ⟨g3, 0, none⟩ = some (.int .u8 (c : Int)) from HB9.out.2)
                          have HIn : Hid (LastM w wr.drew B SB WB dc sure V (waitsOf P)) := HI9.out.below ((Below.refl _ _).drew)
                          have HBn : Hid (g3 < wr.drew.heap.size ∧ wr.drew.cell? ⟨g3, 0, none⟩ = some (.int .u8 (c : Int))) := HB9.out
                          clear hv hx hxc hcell HI9
                          cases bi with
                          | true =>
                            have HX : Hid (inAt c (sure f j) (waitsOf P f j) (i + 1) = true) := by rw [hnext]; rfl
                            clear hnext
                            go_wp2_with fail
                            refine wp_region_ord [(0, true), (1, true), (2, true), (3, true), (4, true), (5, true), (6, true), (7, true), (8, true), (9, true), (10, true), (11, true), (12, true), (13, true), (14, true), (15, true)] (by kernel_rfl) (by kernel_rfl) (by kernel_rfl) (by kernel_rfl) ?_
                            repeat (first | (refine wpO_F (v := ?_) rfl (by rfl) (fun w' hL => ?_) ?_; rotate_left; (solve | (go_simp; with_reducible rfl) | go_simp); try simp only [Act.put, List.setIfInBounds_toArray, List.set_cons_zero, List.set_cons_succ]) | (refine wpO_G rfl (by rfl) ?_; try simp only [Act.put, List.setIfInBounds_toArray, List.set_cons_zero, List.set_cons_succ]))
                            refine wpO_nil ?_
                            go_wp2_with fail
                            go_roundw
                            case rel => exact ⟨i + 1, _, by omega, by go_num, rfl, HX.out, HIn.out, HBn.out⟩
                            case measure => simp [intOf]; omega
                          | false =>
                            obtain ⟨bx, hbx⟩ : ∃ bx, (x == c) = bx := ⟨_, rfl⟩
                            have HX : Hid (inAt c (sure f j) (waitsOf P f j) (i + 1) = bx) := by rw [hnext, hbx]; rfl
                            have q9 : ((x : Int) == (c : Int)) = bx := by rw [← hbx]; exact int_beq x c
                            clear hnext hbx
                            go_wp2_with fail
                            refine wp_region_ord [(0, true), (1, true), (2, true), (3, true), (4, true), (5, true), (6, true), (7, true), (8, true), (9, true), (10, true), (11, true), (12, true), (13, true), (14, true), (15, true)] (by kernel_rfl) (by kernel_rfl) (by kernel_rfl) (by kernel_rfl) ?_
                            repeat (first | (refine wpO_F (v := ?_) rfl (by rfl) (fun w' hL => ?_) ?_; rotate_left; (solve | (go_simp; with_reducible rfl) | go_simp); try simp only [Act.put, List.setIfInBounds_toArray, List.set_cons_zero, List.set_cons_succ]) | (refine wpO_G rfl (by rfl) ?_; try simp only [Act.put, List.setIfInBounds_toArray, List.set_cons_zero, List.set_cons_succ]))
                            refine wpO_nil ?_
                            go_wp2_with fail
                            go_roundw
                            case rel => exact ⟨i + 1, _, by omega, by go_num, rfl, HX.out, HIn.out, HBn.out⟩
                            case measure => simp [intOf]; omega
                      · obtain rfl : i = n := by omega
                        have hbi : bi = true := by
                          rw [← Hbi.out, ← HNn.out]
                          exact inAt_all HMem.out
                        subst hbi
                        have q8 : decide ((i : Int) < (i : Int)) = false := by rw [decide_eq_false_iff_not]; omega
                        have y0 := (HI9.out.ri.wb.cell (f * 4 + j)).trans (waitA_get V f j hf hj4)
                        have HIn := HI9
                        rcases hform with ⟨hv, hw0⟩ | ⟨g, cap', hv, hgl, hcell⟩
                        · have hi0 : i = 0 := by rw [← HNn.out, hw0]; rfl
                          subst hi0
                          rw [hv] at y0
                          clear hv hw0 HI9
                          go_wp2_with fail
                          go_roundw
                          case rel => exact ⟨j + 1, by omega, by go_num, HIn.out⟩
                          case measure => simp [intOf]; omega
                        · rw [hv] at y0
                          clear hv hcell HI9
                          go_wp2_with fail
                          go_roundw
                          case rel => exact ⟨j + 1, by omega, by go_num, HIn.out⟩
                          case measure => simp [intOf]; omega
                  · have q5 : decide ((j : Int) < (nl : Int)) = false := by rw [decide_eq_false_iff_not]; omega
                    go_wp2_with (refine HLn.out.mono ?_; rintro e wl ⟨rfl, hwl⟩; subst hwl)
                    clear q5
                    go_loopw [20] (fun kv wx => ∃ t : Nat, nl ≤ t ∧ t ≤ 4 ∧ kv = .int .i64 t ∧ Hid (LastM w wx B SB WB dc sure V (waitsOf P))) (fun kv _ => 4 - (intOf kv).toNat)
                    case atStart => exact ⟨nl, by omega, by omega, rfl, HI5.out⟩
                    case round =>
                      obtain ⟨t, ht, ht4, rfl, HI6⟩ := hrel
                      clear HI5 HLn
                      by_cases htl : t < 4
                      · have hti : (t : Int) < 4 := by omega
                        have q5 : decide ((0 : Int) ≤ (t : Int)) = true := by rw [decide_eq_true_eq]; omega
                        have y0 := (HI6.out.sb.cell (f * 4 + t)).trans (showA_get sure f t hf htl)
                        rw [HC.out.rest f t (by rw [HNL.out]; exact ht)] at y0
                        go_wp2_with fail
                        go_roundw
                        case rel => exact ⟨t + 1, by omega, by omega, by go_num, HI6.out⟩
                        case measure => simp [intOf]; omega
                      · obtain rfl : t = 4 := by omega
                        go_wp2_with fail
                        go_roundw
                        case rel => exact ⟨f + 1, by omega, by go_num, HI6.out⟩
                        case measure => simp [intOf]; omega
              · obtain rfl : f = 2 := by omega
                have hb4 := HI4.out.own.1
                have hpz := HC.out.pend
                go_wp2_with fail
                refine (HAl.out _).mono ?_
                rintro e w9 ⟨rfl, b9⟩
                have hw := OWaits (HI4.out.below b9).own.toD
                rw [hpz] at hw
                have HW := Lib.hid hw
                have hend := hb4.trans (b9.mono hb4.size)
                clear hw hb4 b9 HI4
                go_wp2_with (refine HW.out.mono ?_; rintro e wl ⟨rfl, hwl⟩; subst hwl)
                go_ret
                exact ⟨rfl, hend⟩
      · have q1 : decide ((k : Int) < (len : Int)) = false := by simp; omega
        go_wp2_with fail
        as_aux_lemma =>
          have hb0 := HI0.out.own.1
          have hok : d.ok := by obtain ⟨_, S, hI, _, _⟩ := HI0.out.own; exact hI.ok
          have hcr := HR0.out.crash hok kl
          have hkr := KCrash HI0.out.own kl a2 len2 cap2 _ (HK.out.2.below hb0) hb0.size HK.out.1 (by omega)
          obtain ⟨dc, hdc⟩ : ∃ dc, d.crash kl = dc := ⟨_, rfl⟩
          rw [hdc] at hcr hkr
          have HC := Lib.hid hcr
          have HKr := Lib.hid hkr
          clear hdc hcr hkr hok hb0 HR0
          refine HKr.out.mono ?_
          rintro e w3 ⟨rfl, ho3, hk3⟩
          have HI3 : Hid (LastM w w3 B SB WB dc sure V (waitsOf P)) := HI0.out.disk ho3 hk3
          clear HKr ho3 hk3 HI0
          go_wp2_with fail
          go_loopw [14] (fun fv wx => ∃ f : Nat, f ≤ 2 ∧ fv = .int .i64 f ∧ Hid (LastM w wx B SB WB dc sure V (waitsOf P))) (fun fv _ => 2 - (intOf fv).toNat)
          case atStart => exact ⟨0, by omega, rfl, HI3.out⟩
          case round =>
            obtain ⟨f, hf2, rfl, HI4⟩ := hrel
            clear HI3
            by_cases hf : f < 2
            · have hfl : (f : Int) < 2 := by omega
              have hvl := HC.out.len f
              obtain ⟨nl, hnl⟩ : ∃ nl, dc.vis.len f = nl := ⟨_, rfl⟩
              have HNL := Lib.hid hnl
              rw [hnl] at hvl
              clear hnl
              go_wp2_with fail
              go_loopw [15] (fun kv wx => ∃ j : Nat, j ≤ nl ∧ kv = .int .i64 j ∧ Hid (LastM w wx B SB WB dc sure V (waitsOf P))) (fun kv _ => nl - (intOf kv).toNat)
              case atStart => exact ⟨0, by omega, rfl, HI4.out⟩
              case round =>
                obtain ⟨j, hj, rfl, HI5⟩ := hrel
                clear HI4
                have hln := OLen HI5.out.own.toD (f : Int)
                rw [lenI_nat dc f hf, HNL.out] at hln
                have HLn := Lib.hid hln
                clear hln
                by_cases hjl : j < nl
                · have q5 : decide ((j : Int) < (nl : Int)) = true := by rw [decide_eq_true_eq]; omega
                  have q6 : decide ((3 : Int) < (j : Int)) = false := by rw [decide_eq_false_iff_not]; omega
                  have hj4 : j < 4 := by omega
                  have hj4i : (j : Int) < 4 := by omega
                  obtain ⟨c, hc, hread, hmem⟩ := HC.out.readOk f j hf (by rw [HNL.out]; exact hjl)
                  have HMem := Lib.hid hmem
                  have HRd := Lib.hid (OReadR HI5.out.own.toD (f : Int) (j : Int) hread)
                  clear hmem hread
                  go_wp2_with fail
                  refine HLn.out.mono ?_
                  rintro e wl ⟨rfl, hwl⟩
                  subst hwl
                  go_wp2_with fail
                  refine HRd.out.mono ?_
                  rintro e w5 ⟨g3, rfl, hg3, b5, hsec, B5⟩
                  have HI6 : Hid (LastM w w5 B SB WB dc sure V (waitsOf P)) := HI5.out.below b5
                  have HBs : Hid (Bs w5.heap.size w5 (some ⟨g3, 0, none⟩) (List.replicate 128 c)) := Blk.bs B5 hsec.2
                  have HB5 := Lib.hid B5
                  have z1 := fun W (h : Later w5.drew W) => (h.cell (p := ⟨g3, 0, none⟩) HB5.out.lt).trans ((HB5.out.cell 0).trans (show (cellsB (List.replicate 128 c)).toArray[0]? = some (.int .u8 (c : Int)) by simp [cellsB]))
                  have z3 := fun W (h : Later w5.drew W) => (HBs.out.below (((Below.refl w5.heap.size w5).drew).trans h)).conv 30 5 Try.underlying30 Try.underlying5 9 Try.underlying9 128 128 (by simp)
                  clear B5 hsec b5 HRd HI5 hg3 HLn
                  go_wp2_with fail
                  refine wp_region_ord [(0, true), (1, true), (2, true), (3, true), (4, true), (5, true), (6, true), (7, true), (8, true), (9, true), (10, true), (11, true), (12, true), (13, false), (14, true), (15, true), (16, true), (17, true), (18, true), (19, true), (20, true)] (by kernel_rfl) (by kernel_rfl) (by kernel_rfl) (by kernel_rfl) ?_
                  repeat (first | (refine wpO_F (v := ?_) rfl (by rfl) (fun w' hL => ?_) ?_; rotate_left; (solve | (go_simp; with_reducible rfl) | go_simp); try simp only [Act.put, List.setIfInBounds_toArray, List.set_cons_zero, List.set_cons_succ]) | (refine wpO_G rfl (by rfl) ?_; try simp only [Act.put, List.setIfInBounds_toArray, List.set_cons_zero, List.set_cons_succ]))
                  refine wpO_C rfl (by rfl) ?_
                  go_simp
                  refine (Full_sec c hc _).mono ?_
                  rintro e w6 ⟨g6, rfl, hg6, b6, B6⟩
                  refine ⟨b6, ?_⟩
                  try simp only [Act.put, List.setIfInBounds_toArray, List.set_cons_zero, List.set_cons_succ]
                  have z4 := fun W (h : Later w6 W) => (B6.below h).conv 30 5 Try.underlying30 Try.underlying5 9 Try.underlying9 128 128 (by simp)
                  repeat (first | (refine wpO_F (v := ?_) rfl (by rfl) (fun w' hL => ?_) ?_; rotate_left; (solve | (go_simp; with_reducible rfl) | go_simp); try simp only [Act.put, List.setIfInBounds_toArray, List.set_cons_zero, List.set_cons_succ]) | (refine wpO_G rfl (by rfl) ?_; try simp only [Act.put, List.setIfInBounds_toArray, List.set_cons_zero, List.set_cons_succ]))
                  refine wpO_nil ?_
                  try simp only [NoPanic]
                  have hb56 : Below w5.heap.size w5 w6 := (Below.refl _ _).drew.trans b6
                  have HI7 : Hid (LastM w w6 B SB WB dc sure V (waitsOf P)) := HI6.out.below hb56
                  have HB6 : Hid (g3 < w6.heap.size ∧ w6.cell? ⟨g3, 0, none⟩ = some (.int .u8 (c : Int))) := ⟨Nat.lt_of_lt_of_le HB5.out.lt hb56.size, (hb56.cell (p := ⟨g3, 0, none⟩) HB5.out.lt).trans ((HB5.out.cell 0).trans (show (cellsB (List.replicate 128 c)).toArray[0]? = some (.int .u8 (c : Int)) by simp [cellsB]))⟩
                  clear z1 z3 z4 HI6 HBs HB5 b6 B6 hb56 hg6
                  have x1 := fun W (h : Later w6.drew W) => ((HI7.out.below ((Below.refl _ _).drew.trans h)).sb.cell (f * 4 + j)).trans (showA_get sure f j hf hj4)
                  have x2 := fun W (h : Later w6.drew W) => (h.cell (p := ⟨g3, 0, none⟩) HB6.out.1).trans HB6.out.2
                  obtain ⟨bs, hbs⟩ : ∃ bs, inAt c (sure f j) (waitsOf P f j) 0 = bs := ⟨_, rfl⟩
                  have q7 : ((c : Int) == (sure f j : Int)) = bs := by rw [← hbs, inAt_zero]
                  have HBS := Lib.hid hbs
                  clear hbs
                  go_wp2_with fail
                  refine wp_region_ord [(0, true), (1, true), (2, true), (3, true), (4, true), (5, true), (6, true), (7, true), (8, true), (9, true)] (by kernel_rfl) (by kernel_rfl) (by kernel_rfl) (by kernel_rfl) ?_
                  repeat (first | (refine wpO_F (v := ?_) rfl (by rfl) (fun w' hL => ?_) ?_; rotate_left; (solve | (go_simp; with_reducible rfl) | go_simp); try simp only [Act.put, List.setIfInBounds_toArray, List.set_cons_zero, List.set_cons_succ]) | (refine wpO_G rfl (by rfl) ?_; try simp only [Act.put, List.setIfInBounds_toArray, List.set_cons_zero, List.set_cons_succ]))
                  refine wpO_nil ?_
                  try simp only [NoPanic]
                  clear x1 x2 q7
                  have HI8 : Hid (LastM w w6.drew B SB WB dc sure V (waitsOf P)) := HI7.out.below ((Below.refl _ _).drew)
                  go_wp2_with fail
                  obtain ⟨n, hn⟩ : ∃ n, (waitsOf P f j).length = n := ⟨_, rfl⟩
                  have HNn := Lib.hid hn
                  clear hn HI7
                  go_loopw [18, 19] (fun bv iv wx => ∃ (i : Nat) (bi : Bool), i ≤ n ∧ iv = .int .i64 i ∧ bv = .bool bi ∧ Hid (inAt c (sure f j) (waitsOf P f j) i = bi) ∧ Hid (LastM w wx B SB WB dc sure V (waitsOf P)) ∧ Hid (g3 < wx.heap.size ∧ wx.cell? ⟨g3, 0, none⟩ = some (.int .u8 (c : Int)))) (fun _ iv _ => n - (intOf iv).toNat)
                  case atStart => exact ⟨0, bs, by omega, rfl, rfl, HBS.out, HI8.out, HB6.out⟩
                  case round =>
                    obtain ⟨i, bi, hi, rfl, rfl, Hbi, HI9, HB9⟩ := hrel
                    clear HI8 HBS HB6
                    have hnle : n ≤ 1000 := by
                      have h1 := waitsOf_le P f j
                      have h2 := HFEW.out
                      have h3 := HNn.out
                      omega
                    have hform := HI9.out.ri.form hf hj4
                    rw [HNn.out] at hform
                    by_cases hin : i < n
                    · obtain ⟨x, hx⟩ : ∃ x, (waitsOf P f j)[i]? = some x := ⟨_, List.getElem?_eq_getElem (by rw [HNn.out]; exact hin)⟩
                      rcases hform with ⟨hv, hw0⟩ | ⟨g, cap', hv, hgl, hcell⟩
                      · rw [hw0] at hx; simp at hx
                      · have hxc := hcell i x hx
                        have hnext := inAt_next c (sure f j) hx
                        rw [Hbi.out] at hnext
                        have q8 : decide ((i : Int) < (n : Int)) = true := by rw [decide_eq_true_eq]; omega
                        have y0 := (HI9.out.ri.wb.cell (f * 4 + j)).trans (waitA_get V f j hf hj4)
                        rw [hv] at y0
                        have y1 := fun W (h : Later wr.drew W) => ((HI9.out.below ((Below.refl _ _).drew.trans h)).ri.wb.cell (f * 4 + j)).trans (waitA_get V f j hf hj4)
                        rw [hv] at y1
                        have y2 := fun W (h : Later wr.drew W) => (h.cell (p := ⟨g, i, none⟩) (show g < wr.drew.heap.size from hgl)).trans (show wr.drew.cell? ⟨g, i, none⟩ = some (.int .u8 (x : Int)) from hxc)
                        have y3 := fun W (h : Later wr.drew W) => (h.cell (p := ⟨g3, 0, none⟩) (show g3 < wr.drew.heap.size from HB9.out.1)).trans (show wr.drew.cell? ⟨g3, 0, none⟩ = some (.int .u8 (c : Int)) from HB9.out.2)
                        have HIn : Hid (LastM w wr.drew B SB WB dc sure V (waitsOf P)) := HI9.out.below ((Below.refl _ _).drew)
                        have HBn : Hid (g3 < wr.drew.heap.size ∧ wr.drew.cell? ⟨g3, 0, none⟩ = some (.int .u8 (c : Int))) := HB9.out
                        clear hv hx hxc hcell HI9
                        cases bi with
                        | true =>
                          have HX : Hid (inAt c (sure f j) (waitsOf P f j) (i + 1) = true) := by rw [hnext]; rfl
                          clear hnext
                          go_wp2_with fail
                          refine wp_region_ord [(0, true), (1, true), (2, true), (3, true), (4, true), (5, true), (6, true), (7, true), (8, true), (9, true), (10, true), (11, true), (12, true), (13, true), (14, true), (15, true)] (by kernel_rfl) (by kernel_rfl) (by kernel_rfl) (by kernel_rfl) ?_
                          repeat (first | (refine wpO_F (v := ?_) rfl (by rfl) (fun w' hL => ?_) ?_; rotate_left; (solve | (go_simp; with_reducible rfl) | go_simp); try simp only [Act.put, List.setIfInBounds_toArray, List.set_cons_zero, List.set_cons_succ]) | (refine wpO_G rfl (by rfl) ?_; try simp only [Act.put, List.setIfInBounds_toArray, List.set_cons_zero, List.set_cons_succ]))
                          refine wpO_nil ?_
                          go_wp2_with fail
                          go_roundw
                          case rel => exact ⟨i + 1, _, by omega, by go_num, rfl, HX.out, HIn.out, HBn.out⟩
                          case measure => simp [intOf]; omega
                        | false =>
                          obtain ⟨bx, hbx⟩ : ∃ bx, (x == c) = bx := ⟨_, rfl⟩
                          have HX : Hid (inAt c (sure f j) (waitsOf P f j) (i + 1) = bx) := by rw [hnext, hbx]; rfl
                          have q9 : ((x : Int) == (c : Int)) = bx := by rw [← hbx]; exact int_beq x c
                          clear hnext hbx
                          go_wp2_with fail
                          refine wp_region_ord [(0, true), (1, true), (2, true), (3, true), (4, true), (5, true), (6, true), (7, true), (8, true), (9, true), (10, true), (11, true), (12, true), (13, true), (14, true), (15, true)] (by kernel_rfl) (by kernel_rfl) (by kernel_rfl) (by kernel_rfl) ?_
                          repeat (first | (refine wpO_F (v := ?_) rfl (by rfl) (fun w' hL => ?_) ?_; rotate_left; (solve | (go_simp; with_reducible rfl) | go_simp); try simp only [Act.put, List.setIfInBounds_toArray, List.set_cons_zero, List.set_cons_succ]) | (refine wpO_G rfl (by rfl) ?_; try simp only [Act.put, List.setIfInBounds_toArray, List.set_cons_zero, List.set_cons_succ]))
                          refine wpO_nil ?_
                          go_wp2_with fail
                          go_roundw
                          case rel => exact ⟨i + 1, _, by omega, by go_num, rfl, HX.out, HIn.out, HBn.out⟩
                          case measure => simp [intOf]; omega
                    · obtain rfl : i = n := by omega
                      have hbi : bi = true := by
                        rw [← Hbi.out, ← HNn.out]
                        exact inAt_all HMem.out
                      subst hbi
                      have q8 : decide ((i : Int) < (i : Int)) = false := by rw [decide_eq_false_iff_not]; omega
                      have y0 := (HI9.out.ri.wb.cell (f * 4 + j)).trans (waitA_get V f j hf hj4)
                      have HIn := HI9
                      rcases hform with ⟨hv, hw0⟩ | ⟨g, cap', hv, hgl, hcell⟩
                      · have hi0 : i = 0 := by rw [← HNn.out, hw0]; rfl
                        subst hi0
                        rw [hv] at y0
                        clear hv hw0 HI9
                        go_wp2_with fail
                        go_roundw
                        case rel => exact ⟨j + 1, by omega, by go_num, HIn.out⟩
                        case measure => simp [intOf]; omega
                      · rw [hv] at y0
                        clear hv hcell HI9
                        go_wp2_with fail
                        go_roundw
                        case rel => exact ⟨j + 1, by omega, by go_num, HIn.out⟩
                        case measure => simp [intOf]; omega
                · have q5 : decide ((j : Int) < (nl : Int)) = false := by rw [decide_eq_false_iff_not]; omega
                  go_wp2_with (refine HLn.out.mono ?_; rintro e wl ⟨rfl, hwl⟩; subst hwl)
                  clear q5
                  go_loopw [20] (fun kv wx => ∃ t : Nat, nl ≤ t ∧ t ≤ 4 ∧ kv = .int .i64 t ∧ Hid (LastM w wx B SB WB dc sure V (waitsOf P))) (fun kv _ => 4 - (intOf kv).toNat)
                  case atStart => exact ⟨nl, by omega, by omega, rfl, HI5.out⟩
                  case round =>
                    obtain ⟨t, ht, ht4, rfl, HI6⟩ := hrel
                    clear HI5 HLn
                    by_cases htl : t < 4
                    · have hti : (t : Int) < 4 := by omega
                      have q5 : decide ((0 : Int) ≤ (t : Int)) = true := by rw [decide_eq_true_eq]; omega
                      have y0 := (HI6.out.sb.cell (f * 4 + t)).trans (showA_get sure f t hf htl)
                      rw [HC.out.rest f t (by rw [HNL.out]; exact ht)] at y0
                      go_wp2_with fail
                      go_roundw
                      case rel => exact ⟨t + 1, by omega, by omega, by go_num, HI6.out⟩
                      case measure => simp [intOf]; omega
                    · obtain rfl : t = 4 := by omega
                      go_wp2_with fail
                      go_roundw
                      case rel => exact ⟨f + 1, by omega, by go_num, HI6.out⟩
                      case measure => simp [intOf]; omega
            · obtain rfl : f = 2 := by omega
              have hb4 := HI4.out.own.1
              have hpz := HC.out.pend
              go_wp2_with fail
              refine (HAl.out _).mono ?_
              rintro e w9 ⟨rfl, b9⟩
              have hw := OWaits (HI4.out.below b9).own.toD
              rw [hpz] at hw
              have HW := Lib.hid hw
              have hend := hb4.trans (b9.mono hb4.size)
              clear hw hb4 b9 HI4
              go_wp2_with (refine HW.out.mono ?_; rintro e wl ⟨rfl, hwl⟩; subst hwl)
              go_ret
              exact ⟨rfl, hend⟩
end Go.Proofs.Ytaggghfnbllbgaa
