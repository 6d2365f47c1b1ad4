/- The reference's disk: Crash. -/
import Derived.Test.YtaggghfnbllbgaaDr5
import Derived.Test.YtaggghfnbllbgaaDr7
namespace Go.Proofs.Ytaggghfnbllbgaa
set_option linter.unusedSimpArgs false
open Go.RowKit

def crashM (keep : List Nat) : List MR → Nat → List MR
  | [], _ => []
  | m :: L, i => if m.y.sure then m :: crashM keep L i else if bitOf keep i then sureM m :: crashM keep L (i + 1) else crashM keep L (i + 1)
theorem crashM_y (keep : List Nat) : ∀ (M : List MR) (i : Nat), (crashM keep M i).map (·.y) = crashL keep (M.map (·.y)) i
  | [], i => rfl
  | m :: L, i => by
    rw [List.map_cons, crashM, crashL]
    split
    · rw [List.map_cons, crashM_y keep L i]
    · split
      · rw [List.map_cons, crashM_y keep L (i + 1)]; rfl
      · exact crashM_y keep L (i + 1)
theorem crashM_snoc (keep : List Nat) (m : MR) : ∀ (M : List MR) (i : Nat), crashM keep (M ++ [m]) i = crashM keep M i ++ (if m.y.sure then [m] else if bitOf keep (i + pendN M) then [sureM m] else [])
  | [], i => by
    have e : i + pendN [] = i := rfl
    rw [e]
    show crashM keep [m] i = crashM keep [] i ++ _
    rw [crashM]
    rfl
  | y :: L, i => by
    rw [List.cons_append, crashM, crashM]
    cases hs : y.y.sure with
    | true =>
      have e : pendN (y :: L) = pendN L := by unfold pendN; simp [hs]
      rw [if_pos rfl, if_pos rfl, crashM_snoc keep m L i, e]; rfl
    | false =>
      have e0 : pendN (y :: L) = pendN L + 1 := by unfold pendN; rw [List.filter_cons, if_pos (by simp [hs]), List.length_cons]
      have e : i + pendN (y :: L) = i + 1 + pendN L := by omega
      rw [if_neg (show ¬ (false = true) by simp), if_neg (show ¬ (false = true) by simp), crashM_snoc keep m L (i + 1), e]
      cases bitOf keep i <;> simp
theorem crashM_len (keep : List Nat) : ∀ (M : List MR) (i : Nat), (crashM keep M i).length ≤ M.length
  | [], i => by simp [crashM]
  | m :: L, i => by
    rw [crashM]
    have h1 := crashM_len keep L i
    have h2 := crashM_len keep L (i + 1)
    split
    · simp; omega
    · split
      · simp; omega
      · simp; omega
theorem crashM_mem (keep : List Nat) : ∀ (M : List MR) (i : Nat), ∀ m ∈ crashM keep M i, ∃ m0 ∈ M, m.g = m0.g ∧ m.cap = m0.cap ∧ m.y.x = m0.y.x
  | [], i, m, h => by simp [crashM] at h
  | y :: L, i, m, h => by
    rw [crashM] at h
    split at h
    · rcases List.mem_cons.1 h with rfl | h
      · exact ⟨m, by simp, rfl, rfl, rfl⟩
      · obtain ⟨m0, h0, h1⟩ := crashM_mem keep L i m h
        exact ⟨m0, by simp [h0], h1⟩
    · split at h
      · rcases List.mem_cons.1 h with rfl | h
        · exact ⟨y, by simp, rfl, rfl, rfl⟩
        · obtain ⟨m0, h0, h1⟩ := crashM_mem keep L _ m h
          exact ⟨m0, by simp [h0], h1⟩
      · obtain ⟨m0, h0, h1⟩ := crashM_mem keep L _ m h
        exact ⟨m0, by simp [h0], h1⟩

theorem take_snoc {M : List MR} {i : Nat} {m : MR} (h : M[i]? = some m) : M.take (i + 1) = M.take i ++ [m] := by rw [List.take_add_one, h]; rfl
def litM (m : MR) (b : Bool) : List Value := [.int .i64 (m.y.x.f : Int), .int .i64 (m.y.x.s : Int), .slice (some ⟨m.g, 0, none⟩) 128 m.cap, .bool b]
theorem litM_one (m : MR) (b : Bool) : ∀ v ∈ litM m b, v.oneCell' = true := by
  intro v hv
  unfold litM at hv
  simp only [List.mem_cons, List.not_mem_nil, or_false] at hv
  rcases hv with rfl | rfl | rfl | rfl <;> rfl
theorem cellsM_snocT {Q : List MR} (m : MR) (b : Bool) (hb : m.y.sure = b) : cellsM (Q ++ [m]) = cellsM Q ++ litM m b := by
  rw [cellsM_append]
  have e : cellsM [m] = m.cells := by simp [cellsM]
  rw [e]; unfold MR.cells litM; rw [hb]

/-- The state behind the crash of the reference. -/
theorem RefAt.crashed {w w' : World} {D : Nat} {x : RS} {lv ov : Value} {M Q : List MR} {keep : List Nat} (h : RefAt w D x lv M) (hQ : Q = crashM keep M 0) (hb : Below w.heap.size w w') (ho : w'.ownsRow w.heap.size 92 4 ov Q.length (cellsM Q)) :
    RefAt (((w'.setCell ⟨D, 1, none⟩ ov).setCell ⟨D, 3, none⟩ (.int .i64 (-1))).setCell ⟨D, 4, none⟩ (.bool false)) D { x with L := crashL keep x.L 0, plan := -1, down := false } ov Q ∧
    Chg (D :: lv.ownBlock.toList) w (((w'.setCell ⟨D, 1, none⟩ ov).setCell ⟨D, 3, none⟩ (.int .i64 (-1))).setCell ⟨D, 4, none⟩ (.bool false)) ∧ ∀ k ∈ footR D ov Q, k ∈ footR D lv M ∨ w.heap.size ≤ k := by
  have h' := h.below hb
  have hc : Chg [D] w' (((w'.setCell ⟨D, 1, none⟩ ov).setCell ⟨D, 3, none⟩ (.int .i64 (-1))).setCell ⟨D, 4, none⟩ (.bool false)) := (((Chg.refl _ _).setCell (.inl (by simp)) _).setCell (.inl (by simp)) _).setCell (.inl (by simp)) _
  have hDl := h.blk.lt
  refine ⟨⟨((h'.blk.set_ 1 _).set_ 3 _).set_ 4 _, ?_, ?_, fun m hm => ?_, ?_, h.calls, by simp, h.quota⟩, (Below.chg0 hb _).trans (hc.sub (by simp)), fun k hk => ?_⟩
  · refine own_chg ((show w'.ownsRow 0 _ 4 ov _ _ from own_sub ho)) hc (fun g hg => ?_)
    have := own_base ho hg
    simp only [List.mem_singleton]
    omega
  · rw [hQ, crashM_y, ← h.list]
  · rw [hQ] at hm
    obtain ⟨m0, h0, e1, e2, e3⟩ := crashM_mem keep M 0 m hm
    have hb0 := h'.bytes m0 h0
    rw [e1, e2, e3]
    refine ⟨own_chg hb0.1 hc (fun g hg => ?_), hb0.2⟩
    have e : m0.g = g := by simpa [Value.ownBlock] using hg
    simp only [List.mem_singleton]
    rintro rfl
    exact own_ne hb0.1 h'.blk (by decide) (by show some m0.g = some g; rw [e])
  · rw [hQ]; exact Nat.le_trans (crashM_len keep M 0) h.few
  · simp only [footR, List.mem_cons, List.mem_append, List.mem_map, Option.mem_toList] at hk ⊢
    rcases hk with hk | hk | ⟨m, hm, hk⟩
    · exact .inl (.inl hk)
    · exact .inr (own_base ho hk)
    · rw [hQ] at hm
      obtain ⟨m0, h0, e1, _⟩ := crashM_mem keep M 0 m hm
      exact .inl (.inr (.inr ⟨m0, h0, by rw [← e1]; exact hk⟩))

set_option maxRecDepth 100000 in
set_option maxHeartbeats 16000000 in
theorem RCrash {w : World} {D : Nat} {x : RS} {lv : Value} {M : List MR} (h : RefAt w D x lv M) (l : List Nat) (a : Option Addr) (nk cap : Nat) (hB : Bs w.heap.size w a l) (hn : nk = l.length) (hnm : nk ≤ 1000000000000) :
    Calls Try.prog 48 #[.pointer (some ⟨D, 0, none⟩), .slice a nk cap] w fun e w' => e = .returned (.tuple #[]) ∧ ∃ lv' M', RefAt w' D { x with L := crashL l x.L 0, plan := -1, down := false } lv' M' ∧ Chg (D :: lv.ownBlock.toList) w w' ∧ ∀ k ∈ footR D lv' M', k ∈ footR D lv M ∨ w.heap.size ≤ k := by
  obtain ⟨a1, cap1, hlv⟩ := h.form
  obtain ⟨n, hn'⟩ : ∃ n, M.length = n := ⟨_, rfl⟩
  rw [hn'] at hlv
  have hfew := h.few
  rw [hn'] at hfew
  have HN := Lib.hid hn'
  have HH := Lib.hid h
  have HK := Lib.hid (fun (k : Nat) (hk : k ≤ 1000000000) (W : World) (hW : Below w.heap.size w W) => Rdigit a nk cap l k w.heap.size W (hB.below hW) hn hk hnm)
  have k1 : ∀ W, Below w.heap.size w W → W.cell? ⟨D, 1, none⟩ = some lv := fun W hW => (h.below hW).cells.2.1
  have HK1 := Lib.hid k1
  subst hlv
  obtain ⟨i1, hi1, hb0, hb1, hb2⟩ := info_parts info_mr
  have HI1 := Lib.hid (And.intro hi1 (And.intro hb0 (And.intro hb1 hb2)))
  have c1 := k1 w (Below.refl _ _)
  clear h hn' hB hn hnm hi1 hb0 hb1 hb2 k1
  go_enter Try.func48, Try.ntmps48
  go_wp2
  clear c1
  go_loopw [4, 5, 6] (fun ov nv iv wr => ∃ i : Nat, i ≤ n ∧ iv = .int .i64 i ∧ nv = .int .i64 (pendN (M.take i)) ∧ Hid (wr.ownsRow w.heap.size 92 4 ov (crashM l (M.take i) 0).length (cellsM (crashM l (M.take i) 0))) ∧ Hid (Below w.heap.size w wr)) (fun _ _ iv _ => n - (intOf iv).toNat)
  case atStart => exact ⟨0, by omega, rfl, rfl, World.ownsRow_nil _ _ _ _, Below.refl _ _⟩
  case round =>
    obtain ⟨i, hi, rfl, rfl, HO, HB⟩ := hrel
    have c1 := HK1.out wr HB.out
    by_cases hlt : i < n
    · have q1 : decide ((i : Int) < (n : Int)) = true := by rw [decide_eq_true_eq]; omega
      obtain ⟨m, hm⟩ : ∃ m, M[i]? = some m := ⟨_, List.getElem?_eq_getElem (by have := HN.out; omega)⟩
      obtain ⟨g, cap', hv, hgl, e0, e1, e2, e3⟩ := (HH.out.below HB.out).elem hm
      obtain ⟨rfl, rfl⟩ : a1 = some ⟨g, 0, none⟩ ∧ cap1 = cap' := by
        injection hv with h1 h2 h3
        exact ⟨h1, h3⟩
      clear hv
      cases hs : m.y.sure with
      | true =>
        rw [hs] at e3
        have hst : (crashM l (M.take (i + 1)) 0 = crashM l (M.take i) 0 ++ [m]) := by
          rw [take_snoc hm, crashM_snoc, hs]; rfl
        have hpn : Hid (pendN (M.take (i + 1)) = pendN (M.take i)) := by
          show _ = _
          rw [pendN_take hm, hs]; rfl
        have hlen : (crashM l (M.take i) 0).length ≤ 1000000 := Nat.le_trans (crashM_len l _ 0) (by rw [List.length_take]; omega)
        have HO5 : Hid (((wr.alloc (.cells (litM m true).toArray 92)).alloc (.cells (litM m true).toArray 92)).ownsRow w.heap.size 92 4 u4 (crashM l (M.take i) 0).length (cellsM (crashM l (M.take i) 0))) := own_chg HO.out (((Chg.refl [] _).alloc _).alloc _) (by simp)
        have hsz := HB.out.size
        have hb13 : Hid (w.heap.size ≤ ((wr.alloc (.cells (litM m true).toArray 92)).alloc (.cells (litM m true).toArray 92)).heap.size) := by
          show w.heap.size ≤ _
          simp; omega
        have hnews : Hid (∀ j u, (litM m true)[j]? = some u → ((wr.alloc (.cells (litM m true).toArray 92)).alloc (.cells (litM m true).toArray 92)).cell? ((⟨wr.heap.size + 1, 0, none⟩ : Addr).add j) = some u) := by
          intro j u hj
          rw [Addr.add_mid, Nat.zero_add, show wr.heap.size + 1 = (wr.alloc (.cells (litM m true).toArray 92)).heap.size by simp, World.cell?_alloc_new]
          simpa using hj
        have hone := litM_one m true
        go_wp2_with (first | (at_builtin; refine wpList_append_lies _ rfl (.tmp 35) (.tmp 37) 36 rfl w.heap.size 92 i1 (.agg zeroM) 4 48 Try.underlying36 HI1.out.1 HI1.out.2.1 HI1.out.2.2.1 HI1.out.2.2.2 rfl (by omega) u4 _ (cellsM (crashM l (M.take i) 0)) rfl HO5.out ⟨_, 0, none⟩ 1 1 (litM m true) rfl rfl hnews.out hone (by omega) (by unfold maxLen; omega) (by omega) hb13.out _ rfl ?_; intro g6 cap6 w6 hown hgrow hlies hlt6) | fail)
        have hfin : Hid (w6.ownsRow w.heap.size 92 4 (.slice (some ⟨g6, 0, none⟩) ((crashM l (M.take i) 0).length + 1) cap6) (crashM l (M.take (i + 1)) 0).length (cellsM (crashM l (M.take (i + 1)) 0))) := by
          rw [hst, cellsM_snocT m true hs, List.length_append]; exact hown
        have hbel : Hid (Below w.heap.size w w6) := ((HB.out.alloc hsz _).alloc (by simp; omega) _).trans ((Chg.ofGrown hgrow).below hb13.out (fun k hk => own_base HO.out (by simpa using hk)))
        clear hown hgrow hlies hnews hb13 HO5
        go_wp2_with fail
        go_roundw
        case rel => exact ⟨i + 1, by omega, by go_num, by rw [hpn.out], hfin.out, hbel.out⟩
        case measure => first | (simp [intOf]; done) | (simp [intOf]; omega)
      | false =>
        rw [hs] at e3
        have hst : (crashM l (M.take (i + 1)) 0 = crashM l (M.take i) 0 ++ if bitOf l (pendN (M.take i)) then [sureM m] else []) := by
          rw [take_snoc hm, crashM_snoc, hs, if_neg (show ¬ (false = true) by simp), Nat.zero_add]
        have hpn : Hid (pendN (M.take (i + 1)) = pendN (M.take i) + 1) := by
          show _ = _
          rw [pendN_take hm, hs]; rfl
        have hpb : pendN (M.take i) ≤ i := Nat.le_trans (pendN_le _) (by rw [List.length_take]; omega)
        have HDg := Lib.hid (HK.out (pendN (M.take i)) (by omega) (wr.alloc (.cells #[.int .i64 (m.y.x.f : Int), .int .i64 (m.y.x.s : Int), .slice (some ⟨m.g, 0, none⟩) 128 m.cap, .bool false] 92)) (HB.out.alloc HB.out.size _))
        go_wp2_with fail
        refine HDg.out.mono ?_
        rintro e wd ⟨rfl, hwd⟩
        subst hwd
        clear HDg
        cases hbit : bitOf l (pendN (M.take i)) with
        | true =>
          rw [hbit, if_pos rfl] at hst
          have hlen : (crashM l (M.take i) 0).length ≤ 1000000 := Nat.le_trans (crashM_len l _ 0) (by rw [List.length_take]; omega)
          have HO5 : Hid (((wr.alloc (.cells (litM m true).toArray 92)).alloc (.cells (litM m true).toArray 92)).ownsRow w.heap.size 92 4 u4 (crashM l (M.take i) 0).length (cellsM (crashM l (M.take i) 0))) := own_chg HO.out (((Chg.refl [] _).alloc _).alloc _) (by simp)
          have hsz := HB.out.size
          have hb13 : Hid (w.heap.size ≤ ((wr.alloc (.cells (litM m true).toArray 92)).alloc (.cells (litM m true).toArray 92)).heap.size) := by
            show w.heap.size ≤ _
            simp; omega
          have hnews : Hid (∀ j u, (litM m true)[j]? = some u → ((wr.alloc (.cells (litM m true).toArray 92)).alloc (.cells (litM m true).toArray 92)).cell? ((⟨wr.heap.size + 1, 0, none⟩ : Addr).add j) = some u) := by
            intro j u hj
            rw [Addr.add_mid, Nat.zero_add, show wr.heap.size + 1 = (wr.alloc (.cells (litM m true).toArray 92)).heap.size by simp, World.cell?_alloc_new]
            simpa using hj
          have hone := litM_one m true
          go_wp2_with (first | (at_builtin; refine wpList_append_lies _ rfl (.tmp 35) (.tmp 37) 36 rfl w.heap.size 92 i1 (.agg zeroM) 4 48 Try.underlying36 HI1.out.1 HI1.out.2.1 HI1.out.2.2.1 HI1.out.2.2.2 rfl (by omega) u4 _ (cellsM (crashM l (M.take i) 0)) rfl HO5.out ⟨_, 0, none⟩ 1 1 (litM m true) rfl rfl hnews.out hone (by omega) (by unfold maxLen; omega) (by omega) hb13.out _ rfl ?_; intro g6 cap6 w6 hown hgrow hlies hlt6) | fail)
          have hfin : Hid (w6.ownsRow w.heap.size 92 4 (.slice (some ⟨g6, 0, none⟩) ((crashM l (M.take i) 0).length + 1) cap6) (crashM l (M.take (i + 1)) 0).length (cellsM (crashM l (M.take (i + 1)) 0))) := by
            rw [hst, cellsM_snocT (sureM m) true rfl, List.length_append]; exact hown
          have hbel : Hid (Below w.heap.size w w6) := ((HB.out.alloc hsz _).alloc (by simp; omega) _).trans ((Chg.ofGrown hgrow).below hb13.out (fun k hk => own_base HO.out (by simpa using hk)))
          clear hown hgrow hlies hnews hb13 HO5
          go_wp2_with fail
          go_roundw
          case rel => exact ⟨i + 1, by omega, by go_num, by rw [hpn.out]; go_num, hfin.out, hbel.out⟩
          case measure => first | (simp [intOf]; done) | (simp [intOf]; omega)
        | false =>
          rw [hbit, if_neg (show ¬ (false = true) by simp), List.append_nil] at hst
          have hfin : Hid (∀ W : World, Chg [] wr W → W.ownsRow w.heap.size 92 4 u4 (crashM l (M.take (i + 1)) 0).length (cellsM (crashM l (M.take (i + 1)) 0))) := fun W hW => by
            rw [hst]; exact own_chg HO.out hW (by simp)
          have hbel : Hid (∀ o : Obj, Below w.heap.size w (wr.alloc o)) := fun o => HB.out.alloc HB.out.size _
          go_wp2_with fail
          go_roundw
          case rel => exact ⟨i + 1, by omega, by go_num, by rw [hpn.out]; go_num, hfin.out _ ((Chg.refl _ _).alloc _), hbel.out _⟩
          case measure => first | (simp [intOf]; done) | (simp [intOf]; omega)
    · obtain rfl : i = n := by omega
      have q1 : decide ((i : Int) < (i : Int)) = false := by rw [decide_eq_false_iff_not]; omega
      have ht : M.take i = M := by rw [← HN.out, List.take_length]
      rw [ht] at HO
      obtain ⟨a6, n6, c6, rfl⟩ : ∃ a6 n6 c6, u4 = .slice a6 n6 c6 := by
        rcases HO.out.2 with ⟨h1, _⟩ | ⟨g, cap, cur, h1, _⟩
        · exact ⟨_, _, _, h1⟩
        · exact ⟨_, _, _, h1⟩
      have hE := HH.out.crashed (keep := l) rfl HB.out HO.out
      have HE := Lib.hid hE
      have hblk := (HH.out.below HB.out).blk
      have y1 := hblk.cell 1
      have y3 := hblk.cell 3
      have y4 := hblk.cell 4
      have z1 := hblk.frozen 1
      have z3 := hblk.frozen 3
      have z4 := hblk.frozen 4
      have yl := hblk.lt
      unfold rowR at y1 y3 y4
      simp only [List.getElem?_toArray, List.getElem?_cons_succ, List.getElem?_cons_zero] at y1 y3 y4
      clear hE hblk HO ht
      go_wp2
      refine bodyPost_end (v := .tuple #[]) (results_none rfl _ _ _) rfl ?_
      exact ⟨rfl, _, _, HE.out.1, HE.out.2.1, HE.out.2.2⟩
end Go.Proofs.Ytaggghfnbllbgaa
