/- The reference's disk: Sync. -/
import Derived.Test.YtaggghfnbllbgaaDr3
namespace Go.Proofs.Ytaggghfnbllbgaa
set_option linter.unusedSimpArgs false
open Go.RowKit

theorem cellsM_append (l r : List MR) : cellsM (l ++ r) = cellsM l ++ cellsM r := by simp [cellsM]
theorem cellsM_len (l : List MR) : (cellsM l).length = l.length * 4 := by
  induction l with
  | nil => rfl
  | cons y l ih => show (y.cells ++ cellsM l).length = _; rw [List.length_append, ih, List.length_cons]; show 4 + _ = _; omega

def sureM (m : MR) : MR := ⟨⟨m.y.x, true⟩, m.g, m.cap⟩
theorem cellsM_set {M : List MR} {i : Nat} {m : MR} (h : M[i]? = some m) : (cellsM M).set (i * 4 + 3) (.bool true) = cellsM (M.set i (sureM m)) := by
  obtain ⟨hi, rfl⟩ := List.getElem?_eq_some_iff.1 h
  have e1 : M = M.take i ++ M[i] :: M.drop (i + 1) := by rw [← List.drop_eq_getElem_cons hi, List.take_append_drop]
  have e2 : M.set i (sureM M[i]) = M.take i ++ sureM M[i] :: M.drop (i + 1) := List.set_eq_take_append_cons_drop.trans (by rw [if_pos hi])
  have hlen : (cellsM (M.take i)).length = i * 4 := by rw [cellsM_len, List.length_take]; congr 1; omega
  rw [e2, cellsM_append]
  conv => lhs; rw [e1]
  rw [cellsM_append, List.set_append_right _ _ (by omega), hlen, show i * 4 + 3 - i * 4 = 3 by omega]
  rfl

theorem RefAt.setSure {w : World} {D g n cap i : Nat} {x : RS} {M : List MR} {m : MR} (h : RefAt w D x (.slice (some ⟨g, 0, none⟩) n cap) M) (hm : M[i]? = some m) :
    RefAt (w.setCell ⟨g, i * 4 + 3, none⟩ (.bool true)) D { x with L := (M.set i (sureM m)).map (·.y) } (.slice (some ⟨g, 0, none⟩) n cap) (M.set i (sureM m)) := by
  have hc : Chg [g] w (w.setCell ⟨g, i * 4 + 3, none⟩ (.bool true)) := (Chg.refl _ _).setCell (.inl (by simp)) _
  have hgD : g ≠ D := fun e => own_ne h.row h.blk (by decide) (by rw [← e]; rfl)
  have hrow := h.row
  have hn : n = M.length := by
    obtain ⟨a, c, hv⟩ := h.form
    injection hv
  subst hn
  obtain ⟨hi, hmi⟩ := List.getElem?_eq_some_iff.1 hm
  refine ⟨h.blk.far (fun e => hgD e.symm) _, ?_, rfl, fun m' hm' => ?_, by rw [List.length_set]; exact h.few, h.calls, h.plan, h.quota⟩
  · have := World.ownsRow.stored hrow (i * 4 + 3) (.bool true)
    rw [cellsM_set hm] at this
    rw [List.length_set]
    exact this.1
  · have key : ∀ m0 ∈ M, (w.setCell ⟨g, i * 4 + 3, none⟩ (.bool true)).ownsRow 0 5 1 (.slice (some ⟨m0.g, 0, none⟩) 128 m0.cap) 128 (cellsB m0.y.x.b) ∧ m0.y.x.ok := fun m0 hm0 => by
      refine ⟨own_chg (h.bytes m0 hm0).1 hc (fun k hk => ?_), (h.bytes m0 hm0).2⟩
      have e : m0.g = k := by simpa [Value.ownBlock] using hk
      simp only [List.mem_singleton]
      rintro rfl
      have hb := own_lt hrow rfl
      rcases hrow.2 with ⟨h1, _⟩ | ⟨g', cap', cur, h1, _, hh, _⟩
      · cases h1
      · have : g' = k := by injection h1 with h1 _ _; injection h1 with h1; injection h1 with h1 _ _; exact h1.symm
        subst this
        exact own_ne (h.bytes m0 hm0).1 (show Blk w g' 92 cur from hh) (by decide) (by show some m0.g = some g'; rw [e])
    rcases List.mem_or_eq_of_mem_set hm' with h1 | rfl
    · exact key m' h1
    · have := key m (List.mem_of_getElem? hm)
      exact this

def markTo (f : Nat) (M : List MR) : Nat → List MR
  | 0 => M
  | i + 1 => match (markTo f M i)[i]? with
    | some m => if m.y.x.f = f then (markTo f M i).set i (sureM m) else markTo f M i
    | none => markTo f M i
theorem markTo_len (f : Nat) (M : List MR) : ∀ i, (markTo f M i).length = M.length
  | 0 => rfl
  | i + 1 => by
    unfold markTo
    split
    · split
      · rw [List.length_set]; exact markTo_len f M i
      · exact markTo_len f M i
    · exact markTo_len f M i
theorem markTo_get (f : Nat) (M : List MR) : ∀ i j, (markTo f M i)[j]? = if j < i then (M[j]?).map (fun m => if m.y.x.f = f then sureM m else m) else M[j]?
  | 0, j => by simp [markTo]
  | i + 1, j => by
    have ih := markTo_get f M i
    have hii := ih i
    rw [if_neg (by omega)] at hii
    unfold markTo
    rw [hii]
    cases hm : M[i]? with
    | none =>
      simp only
      rw [ih j]
      by_cases h1 : j < i
      · rw [if_pos h1, if_pos (by omega)]
      · rw [if_neg h1]
        by_cases h2 : j = i
        · subst h2; rw [if_pos (by omega), hm]; rfl
        · rw [if_neg (by omega)]
    | some m =>
      simp only
      by_cases hf : m.y.x.f = f
      · rw [if_pos hf, List.getElem?_set]
        by_cases h2 : i = j
        · subst h2
          obtain ⟨hl, _⟩ := List.getElem?_eq_some_iff.1 hm
          rw [if_pos rfl, if_pos (by rw [markTo_len]; exact hl), if_pos (by omega), hm]
          simp [hf]
        · rw [if_neg h2, ih j]
          by_cases h1 : j < i
          · rw [if_pos h1, if_pos (by omega)]
          · rw [if_neg h1, if_neg (by omega)]
      · rw [if_neg hf, ih j]
        by_cases h1 : j < i
        · rw [if_pos h1, if_pos (by omega)]
        · rw [if_neg h1]
          by_cases h2 : j = i
          · subst h2; rw [if_pos (by omega), hm]; simp [hf]
          · rw [if_neg (by omega)]
theorem markTo_all (f : Nat) (M : List MR) : (markTo f M M.length).map (·.y) = (M.map (·.y)).map (markF f) := by
  apply List.ext_getElem?
  intro j
  rw [List.getElem?_map, markTo_get, List.getElem?_map, List.getElem?_map]
  by_cases h : j < M.length
  · rw [if_pos h]
    cases hm : M[j]? with
    | none => rfl
    | some m =>
      simp only [Option.map_some]
      unfold markF
      split <;> rfl
  · rw [if_neg h, List.getElem?_eq_none (by omega)]; rfl
theorem markTo_foot (f : Nat) (M : List MR) : ∀ i, (markTo f M i).map (·.g) = M.map (·.g)
  | 0 => rfl
  | i + 1 => by
    apply List.ext_getElem?
    intro j
    rw [List.getElem?_map, markTo_get, List.getElem?_map]
    split
    · cases M[j]? with
      | none => rfl
      | some m => simp only [Option.map_some]; split <;> rfl
    · rfl

/-- What a method of the reference hands back that may change the disk. -/
def RetR (w : World) (D : Nat) (lv : Value) (M : List MR) (r : Nat × RS) (e : Ending) (w' : World) : Prop :=
  e = .returned (.int .i64 (r.1 : Int)) ∧ ∃ lv' M', RefAt w' D r.2 lv' M' ∧ Chg (D :: lv.ownBlock.toList) w w' ∧ ∀ k ∈ footR D lv' M', k ∈ footR D lv M ∨ w.heap.size ≤ k

theorem markTo_yes {f i : Nat} {M : List MR} {m : MR} (h : (markTo f M i)[i]? = some m) (hf : m.y.x.f = f) : markTo f M (i + 1) = (markTo f M i).set i (sureM m) := by
  rw [markTo, h]; simp only; rw [if_pos hf]
theorem markTo_no {f i : Nat} {M : List MR} {m : MR} (h : (markTo f M i)[i]? = some m) (hf : m.y.x.f ≠ f) : markTo f M (i + 1) = markTo f M i := by
  rw [markTo, h]; simp only; rw [if_neg hf]
theorem footR_mark (D : Nat) (lv : Value) (f i : Nat) (M : List MR) : footR D lv (markTo f M i) = footR D lv M := by unfold footR; rw [markTo_foot]

def RS.sync (x : RS) (f : Int) : Nat × RS :=
  if f ≠ 0 ∧ f ≠ 1 then (1, x) else if x.down then (51, x) else match x.change with
    | (x', false) => (51, x')
    | (x', true) => (0, { x' with L := x'.L.map (markF f.toNat) })

theorem RS.change_L (x : RS) : x.change.1.L = x.L := by unfold RS.change; split <;> rfl

set_option maxRecDepth 100000 in
set_option maxHeartbeats 8000000 in
theorem RSync {w : World} {D : Nat} {x : RS} {lv : Value} {M : List MR} (h : RefAt w D x lv M) (f : Int) (hcs : x.calls < 1000000000) :
    Calls Try.prog 47 #[.pointer (some ⟨D, 0, none⟩), .int .i64 f] w (RetR w D lv M (x.sync f)) := by
  obtain ⟨c0, c1, c2, c3, c4⟩ := h.cells
  have HSame := Lib.hid (fun (e : Ending) (n : Nat) (he : e = .returned (.int .i64 (n : Int))) => (show RetR w D lv M (n, x) e w from ⟨he, lv, M, h, Chg.refl _ _, fun k hk => .inl hk⟩))
  by_cases hbad : f ≠ 0 ∧ f ≠ 1
  · have hr : x.sync f = (1, x) := by unfold RS.sync; rw [if_pos hbad]
    rw [hr]
    have q1 : (f != 0) = true := by simp [hbad.1]
    have q2 : (f != 1) = true := by simp [hbad.2]
    clear hr hbad h
    go_enter Try.func47, Try.ntmps47
    go_wp2
    go_ret
    exact HSame.out _ 1 rfl
  · obtain ⟨t, rfl, ht⟩ : ∃ t : Nat, f = (t : Int) ∧ (t = 0 ∨ t = 1) := ⟨f.toNat, by omega, by omega⟩
    cases hd : x.down with
    | true =>
      have hr : x.sync (t : Int) = (51, x) := by unfold RS.sync; rw [if_neg hbad, if_pos hd]
      rw [hr]
      rw [hd] at c4
      clear hr hbad h hd
      rcases ht with rfl | rfl
      all_goals
        go_enter Try.func47, Try.ntmps47
        go_wp2
        go_ret
        exact HSame.out _ 51 rfl
    | false =>
      rw [hd] at c4
      have HC := Lib.hid (Rchange h hcs)
      have hL := RS.change_L x
      have hlt := h.lt
      rcases hch : x.change with ⟨x', go⟩
      rw [hch] at HC hL
      simp only at hL
      cases go with
      | false =>
        have hr : x.sync (t : Int) = (51, x') := by unfold RS.sync; rw [if_neg hbad, hd, if_neg (by simp), hch]
        rw [hr]
        obtain ⟨a, cap, hlv⟩ := h.form
        clear hr hbad h hd hch HSame hL
        rcases ht with rfl | rfl
        all_goals
          go_enter Try.func47, Try.ntmps47
          go_wp2_with fail
          refine HC.out.mono ?_
          rintro e w2 ⟨rfl, hR, hg⟩
          have HR := Lib.hid hR
          have k1 := hR.cells.2.1
          have hw1 : Hid (RetR w2 D lv M (51, x') (.returned (.int .i64 51)) w2 → True) := fun _ => trivial
          clear hR hw1
          rw [hlv] at k1
          go_wp2_with fail
          go_loopw [6] (fun iv wr => iv = .int .i64 0 ∧ wr = w2) (fun _ _ => 0)
          case atStart => exact ⟨rfl, rfl⟩
          case round =>
            obtain ⟨rfl, rfl⟩ := hrel
            obtain ⟨n, hn⟩ : ∃ n, M.length = n := ⟨_, rfl⟩
            rw [hn] at k1
            have HHn := Lib.hid hn
            clear hn
            by_cases hn0 : n = 0
            · subst hn0
              go_wp2
              go_ret
              exact ⟨rfl, lv, M, HR.out, hg.sub (by simp), fun k hk => .inl hk⟩
            · have q5 : decide ((0 : Int) < (n : Int)) = true := by rw [decide_eq_true_eq]; omega
              have q6 : decide (0 < n) = true := by rw [decide_eq_true_eq]; omega
              go_wp2
              go_ret
              exact ⟨rfl, lv, M, HR.out, hg.sub (by simp), fun k hk => .inl hk⟩
      | true =>
        have hr : x.sync (t : Int) = (0, { x' with L := x'.L.map (markF t) }) := by unfold RS.sync; rw [if_neg hbad, hd, if_neg (by simp), hch, Int.toNat_natCast]
        rw [hr]
        obtain ⟨a, cap, hlv⟩ := h.form
        have hfew := h.few
        have HList : Hid (x'.L.map (markF t) = (markTo t M M.length).map (·.y)) := by rw [markTo_all, hL, h.list]; exact rfl
        have hL' : x'.L = M.map (·.y) := hL.trans h.list
        clear hr hbad h hd hch HSame hL
        rcases ht with rfl | rfl
        · go_enter Try.func47, Try.ntmps47
          go_wp2_with fail
          refine HC.out.mono ?_
          rintro e w2 ⟨rfl, hR, hg⟩
          obtain ⟨n, hn⟩ : ∃ n, M.length = n := ⟨_, rfl⟩
          rw [hn] at HList hlv hfew
          have HN := Lib.hid hn
          have HG := Lib.hid hg
          have HR : Hid (RefAt w2 D { x' with L := (markTo 0 M 0).map (·.y) } lv (markTo 0 M 0)) := by
            show RefAt w2 D { x' with L := M.map (·.y) } lv M
            rw [← hL']; exact hR
          subst hlv
          clear hR hg hn hL'
          go_wp2_with fail
          go_loopw [6] (fun iv wr => ∃ i : Nat, i ≤ n ∧ iv = .int .i64 i ∧ Hid (RefAt wr D { x' with L := (markTo 0 M i).map (·.y) } (.slice a n cap) (markTo 0 M i)) ∧ Hid (Chg (D :: (Value.slice a n cap).ownBlock.toList) w2 wr)) (fun iv _ => n - (intOf iv).toNat)
          case atStart => exact ⟨0, by omega, rfl, HR.out, Chg.refl _ _⟩
          case round =>
            obtain ⟨i, hi, rfl, HI, HGi⟩ := hrel
            clear HR
            have k1 := HI.out.cells.2.1
            by_cases hlt2 : i < n
            · obtain ⟨m, hm⟩ : ∃ m, M[i]? = some m := ⟨_, List.getElem?_eq_getElem (by have := HN.out; omega)⟩
              have hmi : (markTo 0 M i)[i]? = some m := by rw [markTo_get, if_neg (by omega), hm]
              obtain ⟨g, cap', hv, hgl, e0, -, -, e3⟩ := HI.out.elem hmi
              obtain ⟨rfl, rfl⟩ : a = some ⟨g, 0, none⟩ ∧ cap = cap' := by
                injection hv with h1 h2 h3
                exact ⟨h1, h3⟩
              have q5 : decide ((i : Int) < (n : Int)) = true := by rw [decide_eq_true_eq]; omega
              by_cases hf : m.y.x.f = 0
              · have q7 : ((m.y.x.f : Int) == 0) = true := by simp [hf]
                have hfz : wr.frozen? ⟨g, i * 4 + 3, none⟩ = false := by
                  have hrr := HI.out.row
                  rw [markTo_len, HN.out] at hrr
                  exact hrr.frozenAt (i * 4 + 3)
                have HS := Lib.hid (HI.out.setSure hmi)
                rw [← markTo_yes hmi hf] at HS
                have HG2 : Hid (Chg (D :: (Value.slice (some ⟨g, 0, none⟩) n cap).ownBlock.toList) w2 (wr.setCell ⟨g, i * 4 + 3, none⟩ (.bool true))) := HGi.out.setCell (.inl (by simp [Value.ownBlock])) _
                clear hm hmi hv hf HI HGi
                go_wp2
                go_roundw
                case rel => exact ⟨i + 1, by omega, by go_num, HS.out, HG2.out⟩
                case measure => first | (simp [intOf]; done) | (simp [intOf]; omega)
              · have q7 : ((m.y.x.f : Int) == 0) = false := by
                  rw [Bool.eq_false_iff]; simp only [ne_eq, beq_iff_eq]; omega
                have HS : Hid (RefAt wr D { x' with L := (markTo 0 M (i + 1)).map (·.y) } (.slice (some ⟨g, 0, none⟩) n cap) (markTo 0 M (i + 1))) := by
                  rw [markTo_no hmi hf]; exact HI.out
                clear hm hmi hv hf HI
                go_wp2
                go_roundw
                case rel => exact ⟨i + 1, by omega, by go_num, HS.out, HGi.out⟩
                case measure => first | (simp [intOf]; done) | (simp [intOf]; omega)
            · obtain rfl : i = n := by omega
              have q5 : decide ((i : Int) < (i : Int)) = false := by rw [decide_eq_false_iff_not]; omega
              go_wp2
              go_ret
              refine ⟨rfl, _, markTo 0 M i, ?_, (HG.out.sub (by simp)).trans HGi.out, fun k hk => .inl (by rw [footR_mark] at hk; exact hk)⟩
              have e : ({ x' with L := (markTo 0 M i).map (·.y) } : RS) = { x' with L := x'.L.map (markF 0) } := by rw [HList.out]
              rw [← e]; exact HI.out
        · go_enter Try.func47, Try.ntmps47
          go_wp2_with fail
          refine HC.out.mono ?_
          rintro e w2 ⟨rfl, hR, hg⟩
          obtain ⟨n, hn⟩ : ∃ n, M.length = n := ⟨_, rfl⟩
          rw [hn] at HList hlv hfew
          have HN := Lib.hid hn
          have HG := Lib.hid hg
          have HR : Hid (RefAt w2 D { x' with L := (markTo 1 M 0).map (·.y) } lv (markTo 1 M 0)) := by
            show RefAt w2 D { x' with L := M.map (·.y) } lv M
            rw [← hL']; exact hR
          subst hlv
          clear hR hg hn hL'
          go_wp2_with fail
          go_loopw [6] (fun iv wr => ∃ i : Nat, i ≤ n ∧ iv = .int .i64 i ∧ Hid (RefAt wr D { x' with L := (markTo 1 M i).map (·.y) } (.slice a n cap) (markTo 1 M i)) ∧ Hid (Chg (D :: (Value.slice a n cap).ownBlock.toList) w2 wr)) (fun iv _ => n - (intOf iv).toNat)
          case atStart => exact ⟨0, by omega, rfl, HR.out, Chg.refl _ _⟩
          case round =>
            obtain ⟨i, hi, rfl, HI, HGi⟩ := hrel
            clear HR
            have k1 := HI.out.cells.2.1
            by_cases hlt2 : i < n
            · obtain ⟨m, hm⟩ : ∃ m, M[i]? = some m := ⟨_, List.getElem?_eq_getElem (by have := HN.out; omega)⟩
              have hmi : (markTo 1 M i)[i]? = some m := by rw [markTo_get, if_neg (by omega), hm]
              obtain ⟨g, cap', hv, hgl, e0, -, -, e3⟩ := HI.out.elem hmi
              obtain ⟨rfl, rfl⟩ : a = some ⟨g, 0, none⟩ ∧ cap = cap' := by
                injection hv with h1 h2 h3
                exact ⟨h1, h3⟩
              have q5 : decide ((i : Int) < (n : Int)) = true := by rw [decide_eq_true_eq]; omega
              by_cases hf : m.y.x.f = 1
              · have q7 : ((m.y.x.f : Int) == 1) = true := by simp [hf]
                have hfz : wr.frozen? ⟨g, i * 4 + 3, none⟩ = false := by
                  have hrr := HI.out.row
                  rw [markTo_len, HN.out] at hrr
                  exact hrr.frozenAt (i * 4 + 3)
                have HS := Lib.hid (HI.out.setSure hmi)
                rw [← markTo_yes hmi hf] at HS
                have HG2 : Hid (Chg (D :: (Value.slice (some ⟨g, 0, none⟩) n cap).ownBlock.toList) w2 (wr.setCell ⟨g, i * 4 + 3, none⟩ (.bool true))) := HGi.out.setCell (.inl (by simp [Value.ownBlock])) _
                clear hm hmi hv hf HI HGi
                go_wp2
                go_roundw
                case rel => exact ⟨i + 1, by omega, by go_num, HS.out, HG2.out⟩
                case measure => first | (simp [intOf]; done) | (simp [intOf]; omega)
              · have q7 : ((m.y.x.f : Int) == 1) = false := by
                  rw [Bool.eq_false_iff]; simp only [ne_eq, beq_iff_eq]; omega
                have HS : Hid (RefAt wr D { x' with L := (markTo 1 M (i + 1)).map (·.y) } (.slice (some ⟨g, 0, none⟩) n cap) (markTo 1 M (i + 1))) := by
                  rw [markTo_no hmi hf]; exact HI.out
                clear hm hmi hv hf HI
                go_wp2
                go_roundw
                case rel => exact ⟨i + 1, by omega, by go_num, HS.out, HGi.out⟩
                case measure => first | (simp [intOf]; done) | (simp [intOf]; omega)
            · obtain rfl : i = n := by omega
              have q5 : decide ((i : Int) < (i : Int)) = false := by rw [decide_eq_false_iff_not]; omega
              go_wp2
              go_ret
              refine ⟨rfl, _, markTo 1 M i, ?_, (HG.out.sub (by simp)).trans HGi.out, fun k hk => .inl (by rw [footR_mark] at hk; exact hk)⟩
              have e : ({ x' with L := (markTo 1 M i).map (·.y) } : RS) = { x' with L := x'.L.map (markF 1) } := by rw [HList.out]
              rw [← e]; exact HI.out
end Go.Proofs.Ytaggghfnbllbgaa
