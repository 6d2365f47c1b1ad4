/- The walks of the law's as and same. -/
import Derived.Test.YtockmoiekbhneaaPApart
namespace Go.Proofs.Ytockmoiekbhneaa
open Go.RowKit

set_option maxHeartbeats 2000000 in
theorem as_any (N : Nat) (l : List (Int × Int)) (a : Option Addr) (n cap : Nat) (w : World) (h : Arr N w a (cellsT l)) (hN : N ≤ w.heap.size) (hn : n = l.length) (hmax : n ≤ 1000000) :
    Calls Try.prog 7 #[.slice a n cap] w (RetOwn 32 l w) := by
  obtain ⟨iP, hiP, hzP, hsP, hbP⟩ := info_parts info_rspan
  have HH := Lib.hid h
  have HN := Lib.hid hn
  clear h hn
  go_enter Try.func7, Try.ntmps7
  go_wp2
  go_loopw [3, 4] (fun v0 i wr => ∃ (k : Nat) (v : Value), v = v0 ∧ k ≤ n ∧ i = .int .i64 k ∧ Hid (wr.ownsRow w.heap.size 32 2 v k (cellsT (l.take k))) ∧ Hid (Below w.heap.size w wr)) (fun _ i _ => n - (intOf i).toNat)
  case atStart => exact ⟨0, _, rfl, by omega, rfl, World.ownsRow_nil _ _ _ _, Below.refl _ _⟩
  case round =>
    obtain ⟨k, v, rfl, hk, rfl, HO, HB⟩ := hrel
    by_cases hlt : k < n
    · have hkl : k < l.length := by have := HN.out; omega
      obtain ⟨b, o, rfl, hb1, c0, c1⟩ := spanAt HH.out hkl
      have hbw := HB.out.size
      have c0 := (HB.out.cell (p := ⟨b, o + k * 2, none⟩) (by show b < _; omega)).trans c0
      have c1 := (HB.out.cell (p := ⟨b, o + k * 2 + 1, none⟩) (by show b < _; omega)).trans c1
      have HS := Lib.hid (take_snocS l k hkl)
      obtain ⟨⟨f, t⟩, hft⟩ : ∃ x, x = l[k] := ⟨_, rfl⟩
      rw [← hft] at c0 c1 HS
      clear hft
      simp only at c0 c1
      have hbS : b ∉ v.ownBlock.toList := by
        intro hm
        rw [Option.mem_toList] at hm
        have := (World.ownsRow.lt HO.out b hm).1
        omega
      have D : Hid (∀ W, Chg v.ownBlock.toList wr.drew W → W.cell? ⟨b, o + k * 2, none⟩ = some (.int .i64 f) ∧ W.cell? ⟨b, o + k * 2 + 1, none⟩ = some (.int .i64 t)) := by
        intro W hW
        exact ⟨(hW.undrew.cell (by omega) hbS).trans c0, (hW.undrew.cell (by omega) hbS).trans c1⟩
      have d0 : ∀ W, Chg v.ownBlock.toList wr.drew W → W.cell? ⟨b, o + k * 2, none⟩ = some (.int .i64 f) := fun W h => (D.out W h).1
      have d1 : ∀ W, Chg v.ownBlock.toList wr.drew W → W.cell? ⟨b, o + k * 2 + 1, none⟩ = some (.int .i64 t) := fun W h => (D.out W h).2
      clear c0 c1
      have hown := Lib.hid (World.ownsRow.alloc (w := wr.drew) HO.out (.cells #[.int .i64 f, .int .i64 t] 32))
      have hA := Lib.hid (arr_new1 wr.drew 32 f t)
      go_wp2_with fail
      refine wp_region_ordS v.ownBlock.toList [(0, true), (1, true), (2, true), (3, true), (4, true), (5, true), (6, true), (7, true), (8, true), (9, true), (10, true), (11, true), (12, false), (13, false), (14, true)] (by kernel_rfl) (by kernel_rfl) (by kernel_rfl) (by kernel_rfl) ?_
      repeat (first | (refine wpO_F (v := ?_) rfl (by rfl) (fun w' hL => ?_) ?_; rotate_left; (solve | (go_simp; with_reducible rfl) | go_simp); try simp only [Act.put, List.setIfInBounds_toArray, List.set_cons_zero, List.set_cons_succ]) | (refine wpO_G' (Chg.refl _) rfl (by rfl) ?_; try simp only [Act.put, List.setIfInBounds_toArray, List.set_cons_zero, List.set_cons_succ]))
      refine wpO_C rfl (by rfl) ?_
      go_simp
      refine ⟨(Chg.refl _ _).alloc _, ?_⟩
      try simp only [Act.put, List.setIfInBounds_toArray, List.set_cons_zero, List.set_cons_succ]
      refine wpO_C rfl (by rfl) ?_
      refine wp_appS (.tmp 11) (.tmp 23) 24 rfl w.heap.size 32 iP (.agg #[.int .i64 0, .int .i64 0]) 2 16 Try.underlying24 hiP hzP rfl hsP (by omega) hbP (by omega) v k _ _ hown.out rfl _ (some ⟨wr.heap.size, 0, none⟩) 1 1 _ hA.out rfl (one_T _) rfl (by omega) (by simp; omega) ?_
      intro v6 x6 h6 hc6 hb6
      refine ⟨hc6, ?_⟩
      try simp only [Act.put, List.setIfInBounds_toArray, List.set_cons_zero, List.set_cons_succ]
      have H6 := Lib.hid h6
      have HB6 := Lib.hid ((HB.out.drew.alloc (show w.heap.size ≤ wr.drew.heap.size by exact hbw) _).trans hb6)
      clear h6 hc6 hb6
      repeat (first | (refine wpO_F (v := ?_) rfl (by rfl) (fun w' hL => ?_) ?_; rotate_left; (solve | (go_simp; with_reducible rfl) | go_simp); try simp only [Act.put, List.setIfInBounds_toArray, List.set_cons_zero, List.set_cons_succ]) | (refine wpO_G' (Chg.refl _) rfl (by rfl) ?_; try simp only [Act.put, List.setIfInBounds_toArray, List.set_cons_zero, List.set_cons_succ]))
      refine wpO_nil ?_
      clear d0 d1
      go_wp2
      go_roundw
      case rel => exact ⟨k + 1, _, rfl, by omega, by go_num, by show World.ownsRow _ _ _ _ _ _ _; rw [HS.out, cellsT_app]; exact H6.out, HB6⟩
      case measure => simp [intOf]; omega
    · have hkl : l.take k = l := List.take_of_length_le (by have := HN.out; omega)
      rw [hkl] at HO
      clear hkl
      obtain rfl : k = n := by omega
      go_wp2
      go_ret
      exact ⟨_, rfl, by rw [← HN.out]; exact HO.out, HB.out⟩

def sameB (l m : List (Int × Int)) : Bool := decide (l = m)

set_option maxHeartbeats 2000000 in
theorem same_any (N : Nat) (l m : List (Int × Int)) (a : Option Addr) (n cap : Nat) (a' : Option Addr) (n' cap' : Nat) (w : World) (h : Arr N w a (cellsT l)) (h' : Arr N w a' (cellsT m)) (hN : N ≤ w.heap.size) (hn : n = l.length) (hn' : n' = m.length) (hmax : n ≤ 1000000) (hmax' : n' ≤ 1000000) :
    Calls Try.prog 18 #[.slice a n cap, .slice a' n' cap'] w fun e w' => e = .returned (.bool (sameB l m)) ∧ Below w.heap.size w w' := by
  by_cases hne : n = n'
  · subst hne
    have HH := Lib.hid h
    have HH' := Lib.hid h'
    have HN := Lib.hid hn
    have HN' := Lib.hid hn'
    have q0 : ((n : Int) != (n : Int)) = false := by simp
    clear h h' hn hn'
    go_enter Try.func18, Try.ntmps18
    go_wp2
    go_loopw [5] (fun i wr => ∃ k : Nat, k ≤ n ∧ i = .int .i64 k ∧ Hid (l.take k = m.take k) ∧ Hid (Below w.heap.size w wr)) (fun i _ => n - (intOf i).toNat)
    case atStart => exact ⟨0, by omega, rfl, rfl, Below.refl _ _⟩
    case round =>
      obtain ⟨k, hk, rfl, HS, HB⟩ := hrel
      by_cases hlt : k < n
      · have hkl : k < l.length := by have := HN.out; omega
        have hkm : k < m.length := by have := HN'.out; omega
        obtain ⟨b, o, rfl, hb1, c0, c1⟩ := spanAt HH.out hkl
        obtain ⟨b', o', rfl, hb2, c2, c3⟩ := spanAt HH'.out hkm
        have hbw := HB.out.size
        have C0 := Lib.hid ((HB.out.cell (p := ⟨b, o + k * 2, none⟩) (by show b < _; omega)).trans c0)
        have C1 := Lib.hid ((HB.out.cell (p := ⟨b, o + k * 2 + 1, none⟩) (by show b < _; omega)).trans c1)
        have C2 := Lib.hid ((HB.out.cell (p := ⟨b', o' + k * 2, none⟩) (by show b' < _; omega)).trans c2)
        have C3 := Lib.hid ((HB.out.cell (p := ⟨b', o' + k * 2 + 1, none⟩) (by show b' < _; omega)).trans c3)
        have HF : Hid (l[k] ≠ m[k] → sameB l m = false) := by
          intro hx
          unfold sameB
          apply decide_eq_false
          intro he
          subst he
          exact hx rfl
        have HT : Hid (l[k] = m[k] → l.take (k + 1) = m.take (k + 1)) := by
          intro hx
          rw [take_snocS l k hkl, take_snocS m k hkm, HS.out, hx]
        obtain ⟨⟨f, t⟩, hft⟩ : ∃ x, x = l[k] := ⟨_, rfl⟩
        obtain ⟨⟨g, u⟩, hgu⟩ : ∃ x, x = m[k] := ⟨_, rfl⟩
        rw [← hft] at C0 C1 HF HT
        rw [← hgu] at C2 C3 HF HT
        clear hft hgu c0 c1 c2 c3
        have d0 : ∀ W, Later wr.drew W → W.cell? ⟨b, o + k * 2, none⟩ = some (.int .i64 f) := fun W hW => ((Below.refl wr.heap.size wr).drew.trans hW |>.cell (p := ⟨b, o + k * 2, none⟩) (by show b < _; omega)).trans C0.out
        have d1 : ∀ W, Later wr.drew W → W.cell? ⟨b, o + k * 2 + 1, none⟩ = some (.int .i64 t) := fun W hW => ((Below.refl wr.heap.size wr).drew.trans hW |>.cell (p := ⟨b, o + k * 2 + 1, none⟩) (by show b < _; omega)).trans C1.out
        have d2 : ∀ W, Later wr.drew W → W.cell? ⟨b', o' + k * 2, none⟩ = some (.int .i64 g) := fun W hW => ((Below.refl wr.heap.size wr).drew.trans hW |>.cell (p := ⟨b', o' + k * 2, none⟩) (by show b' < _; omega)).trans C2.out
        have d3 : ∀ W, Later wr.drew W → W.cell? ⟨b', o' + k * 2 + 1, none⟩ = some (.int .i64 u) := fun W hW => ((Below.refl wr.heap.size wr).drew.trans hW |>.cell (p := ⟨b', o' + k * 2 + 1, none⟩) (by show b' < _; omega)).trans C3.out
        by_cases e1 : f = g
        · by_cases e2 : t = u
          · have HT2 := Lib.hid (HT.out (by rw [e1, e2]))
            have q1 : (f != g) = false := by simp [e1]
            have q2 : (t != u) = false := by simp [e2]
            clear e1 e2 HF HT
            go_wp2_with fail
            refine wp_region_ord [(0, true), (1, true), (2, true), (3, true), (4, true), (5, true), (6, true), (7, true), (8, true), (9, true), (10, true), (11, true), (12, true), (13, true), (14, true), (15, true), (16, true), (17, true), (18, true), (19, true), (20, true), (21, true), (22, true), (23, true)] (by kernel_rfl) (by kernel_rfl) (by kernel_rfl) (by kernel_rfl) ?_
            repeat (first | (refine wpO_F (v := ?_) rfl (by rfl) (fun w' hL => ?_) ?_; rotate_left; (solve | (go_simp; with_reducible rfl) | go_simp); try simp only [Act.put, List.setIfInBounds_toArray, List.set_cons_zero, List.set_cons_succ]) | (refine wpO_G rfl (by rfl) ?_; try simp only [Act.put, List.setIfInBounds_toArray, List.set_cons_zero, List.set_cons_succ]))
            refine wpO_nil ?_
            clear d0 d1 d2 d3
            go_wp2
            go_roundw
            case rel => exact ⟨k + 1, by omega, by go_num, HT2, HB.out.drew⟩
            case measure => simp [intOf]; omega
          · have HF2 := Lib.hid (HF.out (by intro h; injection h with h1 h2; exact e2 h2))
            have q1 : (f != g) = false := by simp [e1]
            have q2 : (t != u) = true := by simp [e2]
            clear e1 e2 HF HT
            go_wp2_with fail
            refine wp_region_ord [(0, true), (1, true), (2, true), (3, true), (4, true), (5, true), (6, true), (7, true), (8, true), (9, true), (10, true), (11, true), (12, true), (13, true), (14, true), (15, true), (16, true), (17, true), (18, true), (19, true), (20, true), (21, true), (22, true), (23, true)] (by kernel_rfl) (by kernel_rfl) (by kernel_rfl) (by kernel_rfl) ?_
            repeat (first | (refine wpO_F (v := ?_) rfl (by rfl) (fun w' hL => ?_) ?_; rotate_left; (solve | (go_simp; with_reducible rfl) | go_simp); try simp only [Act.put, List.setIfInBounds_toArray, List.set_cons_zero, List.set_cons_succ]) | (refine wpO_G rfl (by rfl) ?_; try simp only [Act.put, List.setIfInBounds_toArray, List.set_cons_zero, List.set_cons_succ]))
            refine wpO_nil ?_
            clear d0 d1 d2 d3
            go_wp2
            go_ret
            exact ⟨ret_bool (by rw [HF2.out]), HB.out.drew⟩
        · have HF2 := Lib.hid (HF.out (by intro h; injection h with h1 h2; exact e1 h1))
          have q1 : (f != g) = true := by simp [e1]
          clear e1 HF HT
          go_wp2_with fail
          refine wp_region_ord [(0, true), (1, true), (2, true), (3, true), (4, true), (5, true), (6, true), (7, true), (8, true), (9, true), (10, true), (11, true), (12, true), (13, true), (14, true), (15, true), (16, true), (17, true), (18, true), (19, true), (20, true), (21, true), (22, true), (23, true)] (by kernel_rfl) (by kernel_rfl) (by kernel_rfl) (by kernel_rfl) ?_
          repeat (first | (refine wpO_F (v := ?_) rfl (by rfl) (fun w' hL => ?_) ?_; rotate_left; (solve | (go_simp; with_reducible rfl) | go_simp); try simp only [Act.put, List.setIfInBounds_toArray, List.set_cons_zero, List.set_cons_succ]) | (refine wpO_G rfl (by rfl) ?_; try simp only [Act.put, List.setIfInBounds_toArray, List.set_cons_zero, List.set_cons_succ]))
          refine wpO_nil ?_
          clear d0 d1 d2 d3
          go_wp2
          go_ret
          exact ⟨ret_bool (by rw [HF2.out]), HB.out.drew⟩
      · have HT : Hid (sameB l m = true) := by
          have h1 := HS.out
          rw [List.take_of_length_le (by have := HN.out; omega), List.take_of_length_le (by have := HN'.out; omega)] at h1
          show _ = _
          unfold sameB; rw [h1]; simp
        clear HS
        go_wp2
        go_ret
        exact ⟨ret_bool (by rw [HT.out]), HB.out⟩
  · have HF : Hid (sameB l m = false) := by
      show _ = _
      unfold sameB
      apply decide_eq_false
      rintro rfl
      omega
    have q0 : ((n : Int) != (n' : Int)) = true := by simp; omega
    clear hn hn' hne h h'
    go_enter Try.func18, Try.ntmps18
    go_wp2
    go_ret
    exact ⟨ret_bool (by rw [HF.out]), Below.refl _ _⟩
end Go.Proofs.Ytockmoiekbhneaa
