/- The reference's disk: Read. -/
import Derived.Test.YtaggghfnbllbgaaDr2
import Derived.Test.YtaggghfnbllbgaaDk17
import Derived.Deep.OwnRows
import Derived.Laws.OwnMore
namespace Go.Proofs.Ytaggghfnbllbgaa
set_option linter.unusedSimpArgs false
open Go.RowKit

def RS.read (x : RS) (f s : Int) : Except Nat (List Nat) :=
  if (f ≠ 0 ∧ f ≠ 1) ∨ s < 0 then .error 1 else if x.down then .error 51 else if (lenAt (allW x.L) f.toNat : Int) ≤ s then .error 4 else .ok ((lastAt (allW x.L) f.toNat s.toNat).getD noughts)

/-- What Read hands back. -/
def RetRR (w : World) (r : Except Nat (List Nat)) (e : Ending) (w' : World) : Prop :=
  Below w.heap.size w w' ∧ ((∃ n : Nat, r = .error n ∧ e = .returned (.tuple #[.slice none 0 0, .int .i64 (n : Int)])) ∨
    ∃ b a cap, r = .ok b ∧ e = .returned (.tuple #[.slice a 128 cap, .int .i64 0]) ∧ b.length = 128 ∧ Bs w'.heap.size w' a b)

theorem lastAt_dropNone {l : List Wr} {j : Nat} {f s : Nat} (h : lastAt (l.drop j) f s = none) : lastAt l f s = lastAt (l.take j) f s := by
  conv => lhs; rw [← List.take_append_drop j l]
  rw [lastAt_append, h]; rfl
theorem drop_cons {l : List Wr} {j : Nat} {x : Wr} (h : l[j]? = some x) : l.drop j = x :: l.drop (j + 1) := by
  obtain ⟨hj, rfl⟩ := List.getElem?_eq_some_iff.1 h
  exact List.drop_eq_getElem_cons hj

theorem own_bs {w : World} {g n cap : Nat} {l : List Nat} (h : w.ownsRow 0 5 1 (.slice (some ⟨g, 0, none⟩) n cap) n (cellsB l)) (hl : ∀ c ∈ l, c < 256) : Bs w.heap.size w (some ⟨g, 0, none⟩) l :=
  ⟨hl, .inr ⟨g, 0, rfl, own_lt h rfl, fun i c hi => by
    have := h.cells rfl i (.int .u8 (c : Int)) (by unfold cellsB; rw [List.getElem?_map, hi]; rfl)
    rw [Addr.add_mid] at this
    exact this⟩⟩

set_option maxRecDepth 100000 in
set_option maxHeartbeats 8000000 in
theorem RRead {w : World} {D : Nat} {x : RS} {lv : Value} {M : List MR} (h : RefAt w D x lv M) (f s : Int) :
    Calls Try.prog 46 #[.pointer (some ⟨D, 0, none⟩), .int .i64 f, .int .i64 s] w (RetRR w (x.read f s)) := by
  obtain ⟨c0, c1, c2, c3, c4⟩ := h.cells
  by_cases hbad : (f ≠ 0 ∧ f ≠ 1) ∨ s < 0
  · have hr : x.read f s = .error 1 := by unfold RS.read; rw [if_pos hbad]
    rw [hr]
    have hways : ((f != 0) = true ∧ (f != 1) = true) ∨ (f = 0 ∧ decide (s < 0) = true) ∨ (f = 1 ∧ decide (s < 0) = true) := by
      simp only [bne_iff_ne, ne_eq, decide_eq_true_eq]
      omega
    clear hr hbad h c0 c1 c2 c3 c4
    rcases hways with ⟨q1, q2⟩ | ⟨rfl, q2⟩ | ⟨rfl, q2⟩
    all_goals
      go_enter Try.func46, Try.ntmps46
      go_wp2
      go_ret2
      exact ⟨Below.refl _ _, .inl ⟨1, rfl, rfl⟩⟩
  · obtain ⟨t, rfl⟩ : ∃ t : Nat, s = (t : Int) := ⟨s.toNat, by omega⟩
    obtain ⟨k, rfl, hk⟩ : ∃ k : Nat, f = (k : Int) ∧ (k = 0 ∨ k = 1) := ⟨f.toNat, by omega, by omega⟩
    have hr : x.read (k : Int) (t : Int) = if x.down then .error 51 else if (lenAt (allW x.L) k : Int) ≤ (t : Int) then .error 4 else .ok ((lastAt (allW x.L) k t).getD noughts) := by
      unfold RS.read; rw [if_neg hbad, Int.toNat_natCast, Int.toNat_natCast]
    rw [hr]
    have qs : decide ((t : Int) < 0) = false := by rw [decide_eq_false_iff_not]; omega
    clear hr hbad
    cases hd : x.down with
    | true =>
      rw [if_pos rfl]
      rw [hd] at c4
      clear hd h
      rcases hk with rfl | rfl
      all_goals
        go_enter Try.func46, Try.ntmps46
        go_wp2
        go_ret2
        exact ⟨Below.refl _ _, .inl ⟨51, rfl, rfl⟩⟩
    | false =>
      rw [if_neg (by simp)]
      rw [hd] at c4
      have HL := Lib.hid (RLen h k)
      obtain ⟨nl, hnl⟩ : ∃ nl, lenAt (allW x.L) k = nl := ⟨_, rfl⟩
      rw [hnl] at HL ⊢
      clear hnl hd
      by_cases hlt : (nl : Int) ≤ (t : Int)
      · rw [if_pos hlt]
        have q1 : decide ((nl : Int) ≤ (t : Int)) = true := by rw [decide_eq_true_eq]; exact hlt
        have q1' : decide (nl ≤ t) = true := by rw [decide_eq_true_eq]; omega
        clear h
        rcases hk with rfl | rfl
        all_goals
          go_enter Try.func46, Try.ntmps46
          go_wp2_with (refine HL.out.mono ?_; rintro e w' ⟨rfl, hw⟩; subst hw)
          go_ret2
          exact ⟨Below.refl _ _, .inl ⟨4, rfl, rfl⟩⟩
      · rw [if_neg hlt]
        have q1 : decide ((nl : Int) ≤ (t : Int)) = false := by rw [decide_eq_false_iff_not]; exact hlt
        have q1' : decide (nl ≤ t) = false := by rw [decide_eq_false_iff_not]; omega
        obtain ⟨a, cap, hlv⟩ := h.form
        obtain ⟨n, hn⟩ : ∃ n, M.length = n := ⟨_, rfl⟩
        rw [hn] at hlv
        subst hlv
        have hfew := h.few
        rw [hn] at hfew
        have HN := Lib.hid hn
        have HA := Lib.hid (allW_M h.list)
        have HH := Lib.hid h
        have hmk : ∀ V : World, (Instr.makeSlice 30 (.int .i64 128) (.int .i64 128)).run Try.prog V = .ok (.slice (some ⟨V.heap.size, 0, none⟩) 128 128) (V.alloc (.cells (cellsB noughts).toArray 5)) := by
          intro V
          have := run_make_row' (P := Try.prog) 30 5 (.int .u8 0) 1 Try.underlying30 (by kernel_rfl) rfl .i64 .i64 128 (by omega) (by omega) V
          have e : madeCells #[.int .u8 0] 128 = (cellsB noughts).toArray := by kernel_rfl
          rw [e] at this
          simpa using this
        clear h hn hlt c0 c2 c3 hfew
        have hfew : n ≤ 1000000 := by have := HH.out.few; have := HN.out; omega
        rw [HA.out]
        rcases hk with rfl | rfl
        · go_enter Try.func46, Try.ntmps46
          go_wp2_with (refine HL.out.mono ?_; rintro e w' ⟨rfl, hw⟩; subst hw)
          go_loopw [8] (fun iv wr => ∃ j : Nat, j ≤ n ∧ iv = .int .i64 ((j : Int) - 1) ∧ wr = w' ∧ Hid (lastAt ((M.map (·.y.x)).drop j) 0 t = none)) (fun iv _ => (intOf iv + 1).toNat)
          case atStart => exact ⟨n, by omega, rfl, rfl, by rw [← HN.out, ← List.length_map (f := fun m : MR => m.y.x), List.drop_length]; rfl⟩
          case round =>
            obtain ⟨j, hj, rfl, rfl, HJ⟩ := hrel
            cases j with
            | zero =>
              have hres : lastAt (M.map (·.y.x)) 0 t = none := by have := HJ.out; rwa [List.drop_zero] at this
              have HRES := Lib.hid hres
              have q2 : decide ((0 : Int) ≤ ((0 : Nat) : Int) - 1) = false := by decide
              have HB := Lib.hid (Blk.new wr 5 (cellsB noughts).toArray)
              clear hres HJ
              go_wp2
              go_ret2
              rw [HRES.out]
              exact ⟨(Below.refl _ _).alloc (Nat.le_refl _) _, .inr ⟨noughts, _, _, rfl, rfl, by simp [noughts], HB.out.bs (by simp [noughts])⟩⟩
            | succ j =>
              obtain ⟨m, hm⟩ : ∃ m, M[j]? = some m := ⟨_, List.getElem?_eq_getElem (by have := HN.out; omega)⟩
              obtain ⟨g, cap', hv, hgl, e0, e1, e2, -⟩ := HH.out.elem hm
              obtain ⟨rfl, rfl⟩ : a = some ⟨g, 0, none⟩ ∧ cap = cap' := by
                injection hv with h1 h2 h3
                exact ⟨h1, h3⟩
              have hmb := HH.out.bytes m (List.mem_of_getElem? hm)
              have hx : (M.map (·.y.x))[j]? = some m.y.x := by rw [List.getElem?_map, hm]; rfl
              have hcons := lastAt_cons m.y.x ((M.map (·.y.x)).drop (j + 1)) 0 t
              rw [← drop_cons hx, HJ.out] at hcons
              simp only at hcons
              have hall := lastAt_append ((M.map (·.y.x)).take j) ((M.map (·.y.x)).drop j) 0 t
              rw [List.take_append_drop] at hall
              have q0 : (((j + 1 : Nat) : Int) - 1) = (j : Int) := by omega
              have q3 : decide ((0 : Int) ≤ (j : Int)) = true := by rw [decide_eq_true_eq]; omega
              by_cases hat : atW 0 t m.y.x = true
              · rw [if_pos hat] at hcons
                rw [hcons] at hall
                have hft : m.y.x.f = 0 ∧ m.y.x.s = t := by unfold atW at hat; simpa using hat
                rw [hft.1] at e0
                rw [hft.2] at e1
                have HRES := Lib.hid hall
                have hbs := own_bs hmb.1 hmb.2.2.2.2
                have HBS := Lib.hid (And.intro hmb.2.2.2.1 hbs)
                clear hcons hall hx hm hv hmb hbs HJ hft hat
                go_wp2
                go_ret2
                rw [HRES.out]
                exact ⟨Below.refl _ _, .inr ⟨_, _, _, rfl, rfl, HBS.out.1, HBS.out.2⟩⟩
              · rw [if_neg hat] at hcons
                have hways : ((m.y.x.f : Int) == 0) = false ∨ (((m.y.x.f : Int) == 0) = true ∧ ((m.y.x.s : Int) == (t : Int)) = false) := by
                  unfold atW at hat
                  simp only [Bool.and_eq_true, beq_iff_eq, not_and] at hat
                  simp only [beq_iff_eq, beq_eq_false_iff_ne, ne_eq]
                  by_cases hf0 : m.y.x.f = 0
                  · exact .inr ⟨by omega, fun e => hat hf0 (by omega)⟩
                  · exact .inl (by omega)
                have HJ2 : Hid (lastAt ((M.map (·.y.x)).drop j) 0 t = none) := hcons
                clear hcons hall hx hm hv hmb HJ hat
                rcases hways with w1 | ⟨w1, w2⟩
                all_goals
                  go_wp2
                  go_roundw
                  case rel => exact ⟨j, by omega, by first | rfl | go_num, by trivial, HJ2.out⟩
                  case measure => first | (simp [intOf]; done) | (simp [intOf]; omega)
        · go_enter Try.func46, Try.ntmps46
          go_wp2_with (refine HL.out.mono ?_; rintro e w' ⟨rfl, hw⟩; subst hw)
          go_loopw [8] (fun iv wr => ∃ j : Nat, j ≤ n ∧ iv = .int .i64 ((j : Int) - 1) ∧ wr = w' ∧ Hid (lastAt ((M.map (·.y.x)).drop j) 1 t = none)) (fun iv _ => (intOf iv + 1).toNat)
          case atStart => exact ⟨n, by omega, rfl, rfl, by rw [← HN.out, ← List.length_map (f := fun m : MR => m.y.x), List.drop_length]; rfl⟩
          case round =>
            obtain ⟨j, hj, rfl, rfl, HJ⟩ := hrel
            cases j with
            | zero =>
              have hres : lastAt (M.map (·.y.x)) 1 t = none := by have := HJ.out; rwa [List.drop_zero] at this
              have HRES := Lib.hid hres
              have q2 : decide ((0 : Int) ≤ ((0 : Nat) : Int) - 1) = false := by decide
              have HB := Lib.hid (Blk.new wr 5 (cellsB noughts).toArray)
              clear hres HJ
              go_wp2
              go_ret2
              rw [HRES.out]
              exact ⟨(Below.refl _ _).alloc (Nat.le_refl _) _, .inr ⟨noughts, _, _, rfl, rfl, by simp [noughts], HB.out.bs (by simp [noughts])⟩⟩
            | succ j =>
              obtain ⟨m, hm⟩ : ∃ m, M[j]? = some m := ⟨_, List.getElem?_eq_getElem (by have := HN.out; omega)⟩
              obtain ⟨g, cap', hv, hgl, e0, e1, e2, -⟩ := HH.out.elem hm
              obtain ⟨rfl, rfl⟩ : a = some ⟨g, 0, none⟩ ∧ cap = cap' := by
                injection hv with h1 h2 h3
                exact ⟨h1, h3⟩
              have hmb := HH.out.bytes m (List.mem_of_getElem? hm)
              have hx : (M.map (·.y.x))[j]? = some m.y.x := by rw [List.getElem?_map, hm]; rfl
              have hcons := lastAt_cons m.y.x ((M.map (·.y.x)).drop (j + 1)) 1 t
              rw [← drop_cons hx, HJ.out] at hcons
              simp only at hcons
              have hall := lastAt_append ((M.map (·.y.x)).take j) ((M.map (·.y.x)).drop j) 1 t
              rw [List.take_append_drop] at hall
              have q0 : (((j + 1 : Nat) : Int) - 1) = (j : Int) := by omega
              have q3 : decide ((0 : Int) ≤ (j : Int)) = true := by rw [decide_eq_true_eq]; omega
              by_cases hat : atW 1 t m.y.x = true
              · rw [if_pos hat] at hcons
                rw [hcons] at hall
                have hft : m.y.x.f = 1 ∧ m.y.x.s = t := by unfold atW at hat; simpa using hat
                rw [hft.1] at e0
                rw [hft.2] at e1
                have HRES := Lib.hid hall
                have hbs := own_bs hmb.1 hmb.2.2.2.2
                have HBS := Lib.hid (And.intro hmb.2.2.2.1 hbs)
                clear hcons hall hx hm hv hmb hbs HJ hft hat
                go_wp2
                go_ret2
                rw [HRES.out]
                exact ⟨Below.refl _ _, .inr ⟨_, _, _, rfl, rfl, HBS.out.1, HBS.out.2⟩⟩
              · rw [if_neg hat] at hcons
                have hways : ((m.y.x.f : Int) == 1) = false ∨ (((m.y.x.f : Int) == 1) = true ∧ ((m.y.x.s : Int) == (t : Int)) = false) := by
                  unfold atW at hat
                  simp only [Bool.and_eq_true, beq_iff_eq, not_and] at hat
                  simp only [beq_iff_eq, beq_eq_false_iff_ne, ne_eq]
                  by_cases hf0 : m.y.x.f = 1
                  · exact .inr ⟨by omega, fun e => hat hf0 (by omega)⟩
                  · exact .inl (by omega)
                have HJ2 : Hid (lastAt ((M.map (·.y.x)).drop j) 1 t = none) := hcons
                clear hcons hall hx hm hv hmb HJ hat
                rcases hways with w1 | ⟨w1, w2⟩
                all_goals
                  go_wp2
                  go_roundw
                  case rel => exact ⟨j, by omega, by first | rfl | go_num, by trivial, HJ2.out⟩
                  case measure => first | (simp [intOf]; done) | (simp [intOf]; omega)
end Go.Proofs.Ytaggghfnbllbgaa
