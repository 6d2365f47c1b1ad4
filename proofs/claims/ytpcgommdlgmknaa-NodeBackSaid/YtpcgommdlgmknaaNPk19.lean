/- Several texts of one proof, one behind the other. -/
import Derived.Test.YtpcgommdlgmknaaNPk18
import Derived.IntWalk

/- The walk of the reference's Right. -/
namespace Go.Proofs.Ytpcgommdlgmknaa
open Go.RowKit

theorem Later.undrew' {w W : World} (h : Later w.drew W) : Below w.heap.size w W := (Below.refl _ _).drew.trans h

set_option maxRecDepth 100000 in
set_option maxHeartbeats 16000000 in
theorem rRight_leaf (x : Rn) (m : RB) (w : World) (h : RAt w x m) (hlf : x.leaf = true) :
    Calls Try.prog 11 #[m.v x.leaf x.kid] w fun e w' => e = .returned (.bool x.ok) ∧ Below w.heap.size w w' := by
  have hll := h.hl
  have HA := Lib.hid h.arr
  have HF := Lib.hid h.fair
  have hmax := h.max
  have HIP := Lib.hid (fun p W => risPage_any p W)
  clear h
  have hhead : (if x.leaf then x.kid = 0 else x.l ≠ [] ∧ okPage x.kid = true) ∨ ¬ x.Ok := by
    by_cases hh : (if x.leaf then x.kid = 0 else x.l ≠ [] ∧ okPage x.kid = true)
    · exact .inl hh
    · refine .inr fun H => hh ?_
      have := H.2
      cases hl : x.leaf with
      | true => rw [hl] at this; exact this.1
      | false => rw [hl] at this; exact ⟨this.1, this.2.1⟩
  have hbadh : ¬ (if x.leaf then x.kid = 0 else x.l ≠ [] ∧ okPage x.kid = true) → x.ok = false := fun hh => Rn.ok_no (hhead.resolve_left hh)
  clear hhead
  have HBH := Lib.hid hbadh
  clear hbadh
  have hne : x.l ≠ [] ↔ 0 < m.ll := by rw [hll]; cases x.l <;> simp
  have HU : Hid (∀ k (p : Pt), x.l[k]? = some p → Upto x k → p.key.size ≤ 100 → (0 < k → ∀ q, x.l[k - 1]? = some q → lessK q.key p.key = true) → p.okK x.leaf = true → Upto x (k + 1)) := fun k p hp hu h1 h2 h3 => hu.step hp h1 h2 h3
  have HAll : Hid ((if x.leaf then x.kid = 0 else x.l ≠ [] ∧ okPage x.kid = true) → Upto x m.ll → x.ok = true) := fun hh hu => Rn.ok_yes (hu.all (by omega) hh)
  have HB1 : Hid (∀ k (p : Pt), x.l[k]? = some p → ¬ p.key.size ≤ 100 → x.ok = false) := fun k p hp h1 => Rn.ok_no (bad_len hp h1)
  have HB2 : Hid (∀ k (p : Pt), x.l[k]? = some p → p.okK x.leaf = false → x.ok = false) := fun k p hp h1 => Rn.ok_no (bad_kind hp h1)
  have HB3 : Hid (∀ k (p q : Pt), x.l[k]? = some p → x.l[k - 1]? = some q → 0 < k → lessK q.key p.key = false → x.ok = false) := fun k p q hp hq h0 h1 => Rn.ok_no (bad_order hp hq h0 h1)
  have HU0 : Hid (Upto x 0) := ⟨by intro i k h; simp at h, by simp⟩
  obtain ⟨leaf, kid, l⟩ := x
  obtain ⟨la, ll, lc⟩ := m
  simp only at *
  subst hlf
  have HLL := Lib.hid hll
  clear hll
  generalize Rn.ok ⟨true, kid, l⟩ = OK at *
  generalize hUp : Upto ⟨true, kid, l⟩ = Up at *
  clear hUp
  have HPart : Hid (∀ k, k < ll → ∃ b o p, la = some ⟨b, o, none⟩ ∧ b < w.heap.size ∧ l[k]? = some p ∧ p.fair ∧ w.cell? ⟨b, o + k * 4, none⟩ = some (.string p.key) ∧ w.cell? ⟨b, o + k * 4 + 1, none⟩ = some (.int .i64 p.len) ∧ w.cell? ⟨b, o + k * 4 + 2, none⟩ = some (.string p.data) ∧ w.cell? ⟨b, o + k * 4 + 3, none⟩ = some (.int .i64 p.page)) := by
    intro k hk
    have hkl : k < l.length := by have := HLL.out; omega
    obtain ⟨b, o, e1, hb, c0, c1, c2, c3⟩ := partAt HA.out hkl
    exact ⟨b, o, l[k], e1, hb, List.getElem?_eq_getElem hkl, HF.out _ (List.getElem_mem hkl), c0, c1, c2, c3⟩
  clear HA HF HLL
  simp only [if_true] at HBH HAll
  by_cases hkid : kid = 0
  · subst hkid
    have HAll2 := Lib.hid (HAll.out rfl)
    clear HAll HBH hne
    go_enter Try.func11, Try.ntmps11
    go_wp2_with fail
    go_loopw [3] (fun iv wr => ∃ k : Nat, k ≤ ll ∧ iv = .int .i64 k ∧ Hid (Up k) ∧ Below w.heap.size w wr ∧ w.heap.size < wr.heap.size ∧ wr.cell? ⟨w.heap.size, 0, none⟩ = some (.bool true) ∧ wr.cell? ⟨w.heap.size, 2, none⟩ = some (.slice la ll lc)) (fun iv _ => ll - (intOf iv).toNat)
    case atStart => exact ⟨0, by omega, rfl, HU0, Below.box _ _, by simp, by simp, by simp⟩
    case round =>
      obtain ⟨k, hk, rfl, HUk, hb, hsz, n0, n2⟩ := hrel
      by_cases hlt : k < ll
      · obtain ⟨b, o, p, rfl, hbN, hp, hpf, c0, c1, c2, c3⟩ := HPart.out k hlt
        obtain ⟨hf1, hf2, hf3, hf4⟩ := hpf
        have d0 := (hb.cell (p := ⟨b, o + k * 4, none⟩) hbN).trans c0
        have d1 := (hb.cell (p := ⟨b, o + k * 4 + 1, none⟩) hbN).trans c1
        have d2 := (hb.cell (p := ⟨b, o + k * 4 + 2, none⟩) hbN).trans c2
        have d3 := (hb.cell (p := ⟨b, o + k * 4 + 3, none⟩) hbN).trans c3
        have HB1k := Lib.hid (HB1.out k p hp)
        have HB2k := Lib.hid (HB2.out k p hp)
        have HB3k := Lib.hid (fun q => HB3.out k p q hp)
        have HUk2 := Lib.hid (HU.out k p hp HUk.out)
        have hways := leaf_ways p
        have hkK : p.okK true = p.okL := rfl
        rw [hkK] at HUk2 HB2k
        have HPrev : Hid (k = 0 ∨ (0 < k ∧ ∃ q : Pt, l[k - 1]? = some q ∧ w.cell? ⟨b, o + (k - 1) * 4, none⟩ = some (.string q.key))) := by
          by_cases h0 : k = 0
          · exact .inl h0
          · obtain ⟨b', o', q, e, _, hq, _, cq, _⟩ := HPart.out (k - 1) (by omega)
            simp only [Option.some.injEq, Addr.mk.injEq, and_true] at e
            obtain ⟨rfl, rfl⟩ := e
            exact .inr ⟨by omega, q, hq, cq⟩
        clear hkK hp c0 c1 c2 c3 HPart HB1 HB2 HB3 HU
        obtain ⟨key, len, data, page⟩ := p
        simp only at *
        have hbV : Below w.heap.size w (wr.alloc (.cells #[.string key, .int .i64 len, .string data, .int .i64 page] 65)) := hb.alloc hb.size _
        have v0 : (wr.alloc (.cells #[.string key, .int .i64 len, .string data, .int .i64 page] 65)).cell? ⟨wr.heap.size, 0, none⟩ = some (.string key) := by simp
        have v1 : (wr.alloc (.cells #[.string key, .int .i64 len, .string data, .int .i64 page] 65)).cell? ⟨wr.heap.size, 1, none⟩ = some (.int .i64 len) := by simp
        have v2 : (wr.alloc (.cells #[.string key, .int .i64 len, .string data, .int .i64 page] 65)).cell? ⟨wr.heap.size, 2, none⟩ = some (.string data) := by simp
        have v3 : (wr.alloc (.cells #[.string key, .int .i64 len, .string data, .int .i64 page] 65)).cell? ⟨wr.heap.size, 3, none⟩ = some (.int .i64 page) := by simp
        have vsz : wr.heap.size < (wr.alloc (.cells #[.string key, .int .i64 len, .string data, .int .i64 page] 65)).heap.size := by simp
        have m0 : (wr.alloc (.cells #[.string key, .int .i64 len, .string data, .int .i64 page] 65)).cell? ⟨w.heap.size, 0, none⟩ = some (.bool true) := by rw [World.cell?_alloc_past _ _ _ hsz]; exact n0
        have m2 : (wr.alloc (.cells #[.string key, .int .i64 len, .string data, .int .i64 page] 65)).cell? ⟨w.heap.size, 2, none⟩ = some (.slice (some ⟨b, o, none⟩) ll lc) := by rw [World.cell?_alloc_past _ _ _ hsz]; exact n2
        go_wp2_with fail
        clear d0 d1 d2 d3 n0 n2 hb
        generalize wr.alloc (.cells #[.string key, .int .i64 len, .string data, .int .i64 page] 65) = V at *
        generalize wr.heap.size = cb at *
        have g0 : ∀ W, Later V.drew W → W.cell? ⟨cb, 0, none⟩ = some (.string key) := fun W h => ((Later.undrew' h).cell (p := ⟨cb, 0, none⟩) vsz).trans v0
        have g2 : ∀ W, Later V.drew W → W.cell? ⟨w.heap.size, 2, none⟩ = some (.slice (some ⟨b, o, none⟩) ll lc) := fun W h => ((Later.undrew' h).cell (p := ⟨w.heap.size, 2, none⟩) (by show w.heap.size < V.heap.size; omega)).trans m2
        by_cases h100 : key.size ≤ 100
        · have q1 : decide ((100 : Int) < (key.size : Int)) = false := by first | (simp; done) | (simp; omega)
          rcases HPrev.out with hk0 | ⟨hk0, q, hq, cq⟩
          · have HU3 := Lib.hid (HUk2.out h100 (fun h => absurd h (by omega)))
            have q0 : decide ((0 : Int) < (k : Int)) = false := by first | (simp; done) | (simp; omega)
            have q0' : decide (0 < k) = false := by first | (simp; done) | (simp; omega)
            have HK0 := Lib.hid hk0
            clear hk0 HB3k HUk2 HPrev
            refine wp_region_ord [(0, true), (1, true), (2, true), (3, true), (4, true), (5, true), (6, true), (7, true), (8, true), (9, true), (10, true), (11, true), (12, true), (13, true), (14, true), (15, true), (16, true), (17, true), (18, true), (19, true)] (by kernel_rfl) (by kernel_rfl) (by kernel_rfl) (by kernel_rfl) ?_
            repeat (first | (refine wpO_F (v := ?_) rfl (by rfl) (fun w' hL => ?_) ?_; rotate_left; (solve | (go_simp; with_reducible rfl) | go_simp); try simp only [Act.put, List.setIfInBounds_toArray, List.set_cons_zero, List.set_cons_succ]) | (refine wpO_G rfl (by rfl) ?_; try simp only [Act.put, List.setIfInBounds_toArray, List.set_cons_zero, List.set_cons_succ]))
            refine wpO_nil ?_
            clear g0 g2
            rcases hways with ⟨h1, hok⟩ | ⟨h1, h2, hok⟩ | ⟨h1, h2, h3, h4, hok⟩ | ⟨h1, h2, h3, rfl, h5, hok⟩ | ⟨h1, h2, h3, rfl, rfl, hok⟩ | ⟨h1, h2, h3, h4, hok⟩ | ⟨h1, h2, h3, h4, hok⟩
            · have x1 : decide (len < 0) = true := by first | (simp; done) | (simp; omega)
              have HBad := Lib.hid (HB2k.out hok)
              clear HU3 HB2k hok
              go_wp2
              go_ret
              exact ⟨ret_b HBad.out.symm, hbV.drew⟩
            · have x1 : decide (len < 0) = false := by first | (simp; done) | (simp; omega)
              have x2 : decide (8192 < len) = true := by first | (simp; done) | (simp; omega)
              have HBad := Lib.hid (HB2k.out hok)
              clear HU3 HB2k hok
              go_wp2
              go_ret
              exact ⟨ret_b HBad.out.symm, hbV.drew⟩
            · have x1 : decide (len < 0) = false := by first | (simp; done) | (simp; omega)
              have x2 : decide (8192 < len) = false := by first | (simp; done) | (simp; omega)
              have x3 : decide (len ≤ 120) = true := by first | (simp; done) | (simp; omega)
              have x4 : ((data.size : Int) != len) = true := by simpa using h4
              have HBad := Lib.hid (HB2k.out hok)
              clear HU3 HB2k hok
              go_wp2
              go_ret
              exact ⟨ret_b HBad.out.symm, hbV.drew⟩
            · have x1 : decide ((data.size : Int) < 0) = false := by first | (simp; done) | (simp; omega)
              have x2 : decide (8192 < (data.size : Int)) = false := by first | (simp; done) | (simp; omega)
              have x3 : decide ((data.size : Int) ≤ 120) = true := by first | (simp; done) | (simp; omega)
              have x5 : (page != 0) = true := by simpa using h5
              have HBad := Lib.hid (HB2k.out hok)
              clear HU3 HB2k hok
              go_wp2
              go_ret
              exact ⟨ret_b HBad.out.symm, hbV.drew⟩
            · have x1 : decide ((data.size : Int) < 0) = false := by first | (simp; done) | (simp; omega)
              have x2 : decide (8192 < (data.size : Int)) = false := by first | (simp; done) | (simp; omega)
              have x3 : decide ((data.size : Int) ≤ 120) = true := by first | (simp; done) | (simp; omega)
              have x4 : decide (120 < (data.size : Int)) = false := by first | (simp; done) | (simp; omega)
              have HU4 := Lib.hid (HU3.out hok)
              clear HU3 HB2k hok
              go_wp2
              go_roundw
              case rel => exact ⟨k + 1, by omega, by go_num, HU4, hbV.drew, by show w.heap.size < V.heap.size; omega, m0, m2⟩
              case measure => simp [intOf]; omega
            · have x1 : decide (len < 0) = false := by first | (simp; done) | (simp; omega)
              have x2 : decide (8192 < len) = false := by first | (simp; done) | (simp; omega)
              have x3 : decide (len ≤ 120) = false := by first | (simp; done) | (simp; omega)
              have x4 : decide (120 < len) = true := by first | (simp; done) | (simp; omega)
              have x5 := empty_not data h4
              have x6 : (!data.toList.isEmpty) = true := by simpa using x5
              have HBad := Lib.hid (HB2k.out hok)
              clear HU3 HB2k hok
              go_wp2
              go_ret
              exact ⟨ret_b HBad.out.symm, hbV.drew⟩
            · have x1 : decide (len < 0) = false := by first | (simp; done) | (simp; omega)
              have x2 : decide (8192 < len) = false := by first | (simp; done) | (simp; omega)
              have x3 : decide (len ≤ 120) = false := by first | (simp; done) | (simp; omega)
              have x4 : decide (120 < len) = true := by first | (simp; done) | (simp; omega)
              have x5 := empty_list data h4
              generalize hr : okPage page = r at *
              have HIPp := HIP.out page
              rw [hr] at HIPp
              have HIPq := Lib.hid HIPp
              clear hr HIPp
              go_wp2_with fail
              refine (HIPq.out _).mono ?_
              rintro e w5 ⟨rfl, rfl⟩
              cases r with
              | true =>
                have HU4 := Lib.hid (HU3.out hok)
                clear HU3 HB2k hok
                go_wp2
                go_roundw
                case rel => exact ⟨k + 1, by omega, by go_num, HU4, hbV.drew, by show w.heap.size < V.heap.size; omega, m0, m2⟩
                case measure => simp [intOf]; omega
              | false =>
                have HBad := Lib.hid (HB2k.out hok)
                clear HU3 HB2k hok
                go_wp2
                go_ret
                exact ⟨ret_b HBad.out.symm, hbV.drew⟩
          · have gq : ∀ W, Later V.drew W → W.cell? ⟨b, o + (k - 1) * 4, none⟩ = some (.string q.key) := fun W h => ((Later.undrew' h).cell (p := ⟨b, o + (k - 1) * 4, none⟩) (by show b < V.heap.size; omega)).trans ((hbV.cell (p := ⟨b, o + (k - 1) * 4, none⟩) hbN).trans cq)
            have q0 : decide ((0 : Int) < (k : Int)) = true := by first | (simp; done) | (simp; omega)
            have q0' : decide (0 < k) = true := by first | (simp; done) | (simp; omega)
            have hk1 : IntKind.i64.wrap ((k : Int) - 1) = ((k - 1 : Nat) : Int) := by rw [IntWalk.i64_in _ ⟨by omega, by omega⟩]; omega
            have hb1 : k - 1 < ll := by omega
            cases hl : lessK q.key key with
            | true =>
              have HU3 := Lib.hid (HUk2.out h100 (fun _ q' hq' => by rw [hq] at hq'; simp at hq'; subst hq'; exact hl))
              have q4 : Op.bytesLess q.key.toList key.toList = true := hl
              have q5 : (!Op.bytesLess q.key.toList key.toList) = false := by rw [q4]; rfl
              clear HB3k HUk2 HPrev hq cq hl
              refine wp_region_ord [(0, true), (1, true), (2, true), (3, true), (4, true), (5, true), (6, true), (7, true), (8, true), (9, true), (10, true), (11, true), (12, true), (13, true), (14, true), (15, true), (16, true), (17, true), (18, true), (19, true)] (by kernel_rfl) (by kernel_rfl) (by kernel_rfl) (by kernel_rfl) ?_
              repeat (first | (refine wpO_F (v := ?_) rfl (by rfl) (fun w' hL => ?_) ?_; rotate_left; (solve | (go_simp; with_reducible rfl) | go_simp); try simp only [Act.put, List.setIfInBounds_toArray, List.set_cons_zero, List.set_cons_succ]) | (refine wpO_G rfl (by rfl) ?_; try simp only [Act.put, List.setIfInBounds_toArray, List.set_cons_zero, List.set_cons_succ]))
              refine wpO_nil ?_
              clear g0 g2 gq hk1
              rcases hways with ⟨h1, hok⟩ | ⟨h1, h2, hok⟩ | ⟨h1, h2, h3, h4, hok⟩ | ⟨h1, h2, h3, rfl, h5, hok⟩ | ⟨h1, h2, h3, rfl, rfl, hok⟩ | ⟨h1, h2, h3, h4, hok⟩ | ⟨h1, h2, h3, h4, hok⟩
              · have x1 : decide (len < 0) = true := by first | (simp; done) | (simp; omega)
                have HBad := Lib.hid (HB2k.out hok)
                clear HU3 HB2k hok
                go_wp2
                go_ret
                exact ⟨ret_b HBad.out.symm, hbV.drew⟩
              · have x1 : decide (len < 0) = false := by first | (simp; done) | (simp; omega)
                have x2 : decide (8192 < len) = true := by first | (simp; done) | (simp; omega)
                have HBad := Lib.hid (HB2k.out hok)
                clear HU3 HB2k hok
                go_wp2
                go_ret
                exact ⟨ret_b HBad.out.symm, hbV.drew⟩
              · have x1 : decide (len < 0) = false := by first | (simp; done) | (simp; omega)
                have x2 : decide (8192 < len) = false := by first | (simp; done) | (simp; omega)
                have x3 : decide (len ≤ 120) = true := by first | (simp; done) | (simp; omega)
                have x4 : ((data.size : Int) != len) = true := by simpa using h4
                have HBad := Lib.hid (HB2k.out hok)
                clear HU3 HB2k hok
                go_wp2
                go_ret
                exact ⟨ret_b HBad.out.symm, hbV.drew⟩
              · have x1 : decide ((data.size : Int) < 0) = false := by first | (simp; done) | (simp; omega)
                have x2 : decide (8192 < (data.size : Int)) = false := by first | (simp; done) | (simp; omega)
                have x3 : decide ((data.size : Int) ≤ 120) = true := by first | (simp; done) | (simp; omega)
                have x5 : (page != 0) = true := by simpa using h5
                have HBad := Lib.hid (HB2k.out hok)
                clear HU3 HB2k hok
                go_wp2
                go_ret
                exact ⟨ret_b HBad.out.symm, hbV.drew⟩
              · have x1 : decide ((data.size : Int) < 0) = false := by first | (simp; done) | (simp; omega)
                have x2 : decide (8192 < (data.size : Int)) = false := by first | (simp; done) | (simp; omega)
                have x3 : decide ((data.size : Int) ≤ 120) = true := by first | (simp; done) | (simp; omega)
                have x4 : decide (120 < (data.size : Int)) = false := by first | (simp; done) | (simp; omega)
                have HU4 := Lib.hid (HU3.out hok)
                clear HU3 HB2k hok
                go_wp2
                go_roundw
                case rel => exact ⟨k + 1, by omega, by go_num, HU4, hbV.drew, by show w.heap.size < V.heap.size; omega, m0, m2⟩
                case measure => simp [intOf]; omega
              · have x1 : decide (len < 0) = false := by first | (simp; done) | (simp; omega)
                have x2 : decide (8192 < len) = false := by first | (simp; done) | (simp; omega)
                have x3 : decide (len ≤ 120) = false := by first | (simp; done) | (simp; omega)
                have x4 : decide (120 < len) = true := by first | (simp; done) | (simp; omega)
                have x5 := empty_not data h4
                have x6 : (!data.toList.isEmpty) = true := by simpa using x5
                have HBad := Lib.hid (HB2k.out hok)
                clear HU3 HB2k hok
                go_wp2
                go_ret
                exact ⟨ret_b HBad.out.symm, hbV.drew⟩
              · have x1 : decide (len < 0) = false := by first | (simp; done) | (simp; omega)
                have x2 : decide (8192 < len) = false := by first | (simp; done) | (simp; omega)
                have x3 : decide (len ≤ 120) = false := by first | (simp; done) | (simp; omega)
                have x4 : decide (120 < len) = true := by first | (simp; done) | (simp; omega)
                have x5 := empty_list data h4
                generalize hr : okPage page = r at *
                have HIPp := HIP.out page
                rw [hr] at HIPp
                have HIPq := Lib.hid HIPp
                clear hr HIPp
                go_wp2_with fail
                refine (HIPq.out _).mono ?_
                rintro e w5 ⟨rfl, rfl⟩
                cases r with
                | true =>
                  have HU4 := Lib.hid (HU3.out hok)
                  clear HU3 HB2k hok
                  go_wp2
                  go_roundw
                  case rel => exact ⟨k + 1, by omega, by go_num, HU4, hbV.drew, by show w.heap.size < V.heap.size; omega, m0, m2⟩
                  case measure => simp [intOf]; omega
                | false =>
                  have HBad := Lib.hid (HB2k.out hok)
                  clear HU3 HB2k hok
                  go_wp2
                  go_ret
                  exact ⟨ret_b HBad.out.symm, hbV.drew⟩
            | false =>
              have HBad := Lib.hid (HB3k.out q hq hk0 hl)
              have q4 : Op.bytesLess q.key.toList key.toList = false := hl
              have q5 : (!Op.bytesLess q.key.toList key.toList) = true := by rw [q4]; rfl
              clear HB3k HUk2 HPrev hq cq hl hways
              refine wp_region_ord [(0, true), (1, true), (2, true), (3, true), (4, true), (5, true), (6, true), (7, true), (8, true), (9, true), (10, true), (11, true), (12, true), (13, true), (14, true), (15, true), (16, true), (17, true), (18, true), (19, true)] (by kernel_rfl) (by kernel_rfl) (by kernel_rfl) (by kernel_rfl) ?_
              repeat (first | (refine wpO_F (v := ?_) rfl (by rfl) (fun w' hL => ?_) ?_; rotate_left; (solve | (go_simp; with_reducible rfl) | go_simp); try simp only [Act.put, List.setIfInBounds_toArray, List.set_cons_zero, List.set_cons_succ]) | (refine wpO_G rfl (by rfl) ?_; try simp only [Act.put, List.setIfInBounds_toArray, List.set_cons_zero, List.set_cons_succ]))
              refine wpO_nil ?_
              go_wp2
              go_ret
              exact ⟨ret_b HBad.out.symm, hbV.drew⟩
        · have q1 : decide ((100 : Int) < (key.size : Int)) = true := by first | (simp; done) | (simp; omega)
          have HBad := Lib.hid (HB1k.out h100)
          clear HB3k HUk2 HPrev hways
          refine wp_region_ord [(0, true), (1, true), (2, true), (3, true), (4, true), (5, true), (6, true), (7, true), (8, true), (9, true), (10, true), (11, true), (12, true), (13, true), (14, true), (15, true), (16, true), (17, true), (18, true), (19, true)] (by kernel_rfl) (by kernel_rfl) (by kernel_rfl) (by kernel_rfl) ?_
          repeat (first | (refine wpO_F (v := ?_) rfl (by rfl) (fun w' hL => ?_) ?_; rotate_left; (solve | (go_simp; with_reducible rfl) | go_simp); try simp only [Act.put, List.setIfInBounds_toArray, List.set_cons_zero, List.set_cons_succ]) | (refine wpO_G rfl (by rfl) ?_; try simp only [Act.put, List.setIfInBounds_toArray, List.set_cons_zero, List.set_cons_succ]))
          refine wpO_nil ?_
          go_wp2
          go_ret
          exact ⟨ret_b HBad.out.symm, hbV.drew⟩
      · have hkk : k = ll := by omega
        have HOk := Lib.hid (HAll2.out (by rw [← hkk]; exact HUk.out))
        go_wp2
        go_ret
        exact ⟨ret_b HOk.out.symm, hb⟩
  · have HBad := Lib.hid (HBH.out (by simpa using hkid))
    have q1 : (kid != 0) = true := by simpa using hkid
    clear HAll HBH hne
    go_enter Try.func11, Try.ntmps11
    go_wp2
    go_ret
    exact ⟨ret_b HBad.out.symm, Below.box _ _⟩
end Go.Proofs.Ytpcgommdlgmknaa

/- The walk of the reference's Right: nodes that are no leaf, and all. -/
namespace Go.Proofs.Ytpcgommdlgmknaa
open Go.RowKit

set_option maxRecDepth 100000 in
set_option maxHeartbeats 16000000 in
theorem rRight_inner (x : Rn) (m : RB) (w : World) (h : RAt w x m) (hlf : x.leaf = false) :
    Calls Try.prog 11 #[m.v x.leaf x.kid] w fun e w' => e = .returned (.bool x.ok) ∧ Below w.heap.size w w' := by
  have hll := h.hl
  have HA := Lib.hid h.arr
  have HF := Lib.hid h.fair
  have hmax := h.max
  have HIP := Lib.hid (fun p W => risPage_any p W)
  clear h
  have hhead : (if x.leaf then x.kid = 0 else x.l ≠ [] ∧ okPage x.kid = true) ∨ ¬ x.Ok := by
    by_cases hh : (if x.leaf then x.kid = 0 else x.l ≠ [] ∧ okPage x.kid = true)
    · exact .inl hh
    · refine .inr fun H => hh ?_
      have := H.2
      cases hl : x.leaf with
      | true => rw [hl] at this; exact this.1
      | false => rw [hl] at this; exact ⟨this.1, this.2.1⟩
  have hbadh : ¬ (if x.leaf then x.kid = 0 else x.l ≠ [] ∧ okPage x.kid = true) → x.ok = false := fun hh => Rn.ok_no (hhead.resolve_left hh)
  clear hhead
  have HBH := Lib.hid hbadh
  clear hbadh
  have hne : x.l ≠ [] ↔ 0 < m.ll := by rw [hll]; cases x.l <;> simp
  have HU : Hid (∀ k (p : Pt), x.l[k]? = some p → Upto x k → p.key.size ≤ 100 → (0 < k → ∀ q, x.l[k - 1]? = some q → lessK q.key p.key = true) → p.okK x.leaf = true → Upto x (k + 1)) := fun k p hp hu h1 h2 h3 => hu.step hp h1 h2 h3
  have HAll : Hid ((if x.leaf then x.kid = 0 else x.l ≠ [] ∧ okPage x.kid = true) → Upto x m.ll → x.ok = true) := fun hh hu => Rn.ok_yes (hu.all (by omega) hh)
  have HB1 : Hid (∀ k (p : Pt), x.l[k]? = some p → ¬ p.key.size ≤ 100 → x.ok = false) := fun k p hp h1 => Rn.ok_no (bad_len hp h1)
  have HB2 : Hid (∀ k (p : Pt), x.l[k]? = some p → p.okK x.leaf = false → x.ok = false) := fun k p hp h1 => Rn.ok_no (bad_kind hp h1)
  have HB3 : Hid (∀ k (p q : Pt), x.l[k]? = some p → x.l[k - 1]? = some q → 0 < k → lessK q.key p.key = false → x.ok = false) := fun k p q hp hq h0 h1 => Rn.ok_no (bad_order hp hq h0 h1)
  have HU0 : Hid (Upto x 0) := ⟨by intro i k h; simp at h, by simp⟩
  obtain ⟨leaf, kid, l⟩ := x
  obtain ⟨la, ll, lc⟩ := m
  simp only at *
  subst hlf
  have HLL := Lib.hid hll
  clear hll
  generalize Rn.ok ⟨false, kid, l⟩ = OK at *
  generalize hUp : Upto ⟨false, kid, l⟩ = Up at *
  clear hUp
  have HPart : Hid (∀ k, k < ll → ∃ b o p, la = some ⟨b, o, none⟩ ∧ b < w.heap.size ∧ l[k]? = some p ∧ p.fair ∧ w.cell? ⟨b, o + k * 4, none⟩ = some (.string p.key) ∧ w.cell? ⟨b, o + k * 4 + 1, none⟩ = some (.int .i64 p.len) ∧ w.cell? ⟨b, o + k * 4 + 2, none⟩ = some (.string p.data) ∧ w.cell? ⟨b, o + k * 4 + 3, none⟩ = some (.int .i64 p.page)) := by
    intro k hk
    have hkl : k < l.length := by have := HLL.out; omega
    obtain ⟨b, o, e1, hb, c0, c1, c2, c3⟩ := partAt HA.out hkl
    exact ⟨b, o, l[k], e1, hb, List.getElem?_eq_getElem hkl, HF.out _ (List.getElem_mem hkl), c0, c1, c2, c3⟩
  clear HA HF HLL
  simp only [Bool.false_eq_true, if_false] at HBH HAll
  rw [hne] at HBH HAll
  by_cases hll0 : 0 < ll
  · have q2 : ((ll : Int) == 0) = false := by first | (simp; done) | (simp; omega)
    have HIPk := HIP.out kid
    cases hpk : okPage kid with
    | true =>
      rw [hpk] at HIPk
      have HIPk2 := Lib.hid HIPk
      have HAll2 := Lib.hid (HAll.out ⟨hll0, hpk⟩)
      clear HAll HBH hne HIPk hpk
      go_enter Try.func11, Try.ntmps11
      go_wp2_with fail
      refine (HIPk2.out _).mono ?_
      rintro e w5 ⟨rfl, rfl⟩
      clear HIPk2
      go_wp2_with fail
      go_loopw [3] (fun iv wr => ∃ k : Nat, k ≤ ll ∧ iv = .int .i64 k ∧ Hid (Up k) ∧ Below w.heap.size w wr ∧ w.heap.size < wr.heap.size ∧ wr.cell? ⟨w.heap.size, 0, none⟩ = some (.bool false) ∧ wr.cell? ⟨w.heap.size, 2, none⟩ = some (.slice la ll lc)) (fun iv _ => ll - (intOf iv).toNat)
      case atStart => exact ⟨0, by omega, rfl, HU0, Below.box _ _, by simp, by simp, by simp⟩
      case round =>
        obtain ⟨k, hk, rfl, HUk, hb, hsz, n0, n2⟩ := hrel
        by_cases hlt : k < ll
        · obtain ⟨b, o, p, rfl, hbN, hp, hpf, c0, c1, c2, c3⟩ := HPart.out k hlt
          obtain ⟨hf1, hf2, hf3, hf4⟩ := hpf
          have d0 := (hb.cell (p := ⟨b, o + k * 4, none⟩) hbN).trans c0
          have d1 := (hb.cell (p := ⟨b, o + k * 4 + 1, none⟩) hbN).trans c1
          have d2 := (hb.cell (p := ⟨b, o + k * 4 + 2, none⟩) hbN).trans c2
          have d3 := (hb.cell (p := ⟨b, o + k * 4 + 3, none⟩) hbN).trans c3
          have HB1k := Lib.hid (HB1.out k p hp)
          have HB2k := Lib.hid (HB2.out k p hp)
          have HB3k := Lib.hid (fun q => HB3.out k p q hp)
          have HUk2 := Lib.hid (HU.out k p hp HUk.out)
          have hways := inner_ways p
          have hkK : p.okK false = p.okI := rfl
          rw [hkK] at HUk2 HB2k
          have HPrev : Hid (k = 0 ∨ (0 < k ∧ ∃ q : Pt, l[k - 1]? = some q ∧ w.cell? ⟨b, o + (k - 1) * 4, none⟩ = some (.string q.key))) := by
            by_cases h0 : k = 0
            · exact .inl h0
            · obtain ⟨b', o', q, e, _, hq, _, cq, _⟩ := HPart.out (k - 1) (by omega)
              simp only [Option.some.injEq, Addr.mk.injEq, and_true] at e
              obtain ⟨rfl, rfl⟩ := e
              exact .inr ⟨by omega, q, hq, cq⟩
          clear hkK hp c0 c1 c2 c3 HPart HB1 HB2 HB3 HU
          obtain ⟨key, len, data, page⟩ := p
          simp only at *
          have hbV : Below w.heap.size w (wr.alloc (.cells #[.string key, .int .i64 len, .string data, .int .i64 page] 65)) := hb.alloc hb.size _
          have v0 : (wr.alloc (.cells #[.string key, .int .i64 len, .string data, .int .i64 page] 65)).cell? ⟨wr.heap.size, 0, none⟩ = some (.string key) := by simp
          have v1 : (wr.alloc (.cells #[.string key, .int .i64 len, .string data, .int .i64 page] 65)).cell? ⟨wr.heap.size, 1, none⟩ = some (.int .i64 len) := by simp
          have v2 : (wr.alloc (.cells #[.string key, .int .i64 len, .string data, .int .i64 page] 65)).cell? ⟨wr.heap.size, 2, none⟩ = some (.string data) := by simp
          have v3 : (wr.alloc (.cells #[.string key, .int .i64 len, .string data, .int .i64 page] 65)).cell? ⟨wr.heap.size, 3, none⟩ = some (.int .i64 page) := by simp
          have vsz : wr.heap.size < (wr.alloc (.cells #[.string key, .int .i64 len, .string data, .int .i64 page] 65)).heap.size := by simp
          have m0 : (wr.alloc (.cells #[.string key, .int .i64 len, .string data, .int .i64 page] 65)).cell? ⟨w.heap.size, 0, none⟩ = some (.bool false) := by rw [World.cell?_alloc_past _ _ _ hsz]; exact n0
          have m2 : (wr.alloc (.cells #[.string key, .int .i64 len, .string data, .int .i64 page] 65)).cell? ⟨w.heap.size, 2, none⟩ = some (.slice (some ⟨b, o, none⟩) ll lc) := by rw [World.cell?_alloc_past _ _ _ hsz]; exact n2
          go_wp2_with fail
          clear d0 d1 d2 d3 n0 n2 hb
          generalize wr.alloc (.cells #[.string key, .int .i64 len, .string data, .int .i64 page] 65) = V at *
          generalize wr.heap.size = cb at *
          have g0 : ∀ W, Later V.drew W → W.cell? ⟨cb, 0, none⟩ = some (.string key) := fun W h => ((Later.undrew' h).cell (p := ⟨cb, 0, none⟩) vsz).trans v0
          have g2 : ∀ W, Later V.drew W → W.cell? ⟨w.heap.size, 2, none⟩ = some (.slice (some ⟨b, o, none⟩) ll lc) := fun W h => ((Later.undrew' h).cell (p := ⟨w.heap.size, 2, none⟩) (by show w.heap.size < V.heap.size; omega)).trans m2
          by_cases h100 : key.size ≤ 100
          · have q1 : decide ((100 : Int) < (key.size : Int)) = false := by first | (simp; done) | (simp; omega)
            rcases HPrev.out with hk0 | ⟨hk0, q, hq, cq⟩
            · have HU3 := Lib.hid (HUk2.out h100 (fun h => absurd h (by omega)))
              have q0 : decide ((0 : Int) < (k : Int)) = false := by first | (simp; done) | (simp; omega)
              have q0' : decide (0 < k) = false := by first | (simp; done) | (simp; omega)
              have HK0 := Lib.hid hk0
              clear hk0 HB3k HUk2 HPrev
              refine wp_region_ord [(0, true), (1, true), (2, true), (3, true), (4, true), (5, true), (6, true), (7, true), (8, true), (9, true), (10, true), (11, true), (12, true), (13, true), (14, true), (15, true), (16, true), (17, true), (18, true), (19, true)] (by kernel_rfl) (by kernel_rfl) (by kernel_rfl) (by kernel_rfl) ?_
              repeat (first | (refine wpO_F (v := ?_) rfl (by rfl) (fun w' hL => ?_) ?_; rotate_left; (solve | (go_simp; with_reducible rfl) | go_simp); try simp only [Act.put, List.setIfInBounds_toArray, List.set_cons_zero, List.set_cons_succ]) | (refine wpO_G rfl (by rfl) ?_; try simp only [Act.put, List.setIfInBounds_toArray, List.set_cons_zero, List.set_cons_succ]))
              refine wpO_nil ?_
              clear g0 g2
              rcases hways with ⟨h1, hok⟩ | ⟨rfl, h4, hok⟩ | ⟨rfl, h4, hok⟩
              · have x1 : (len != 0) = true := by simpa using h1
                have HBad := Lib.hid (HB2k.out hok)
                clear HU3 HB2k hok
                go_wp2
                go_ret
                exact ⟨ret_b HBad.out.symm, hbV.drew⟩
              · have x5 := empty_not data h4
                have x6 : (!data.toList.isEmpty) = true := by simpa using x5
                have HBad := Lib.hid (HB2k.out hok)
                clear HU3 HB2k hok
                go_wp2
                go_ret
                exact ⟨ret_b HBad.out.symm, hbV.drew⟩
              · have x5 := empty_list data h4
                generalize hr : okPage page = r at *
                have HIPp := HIP.out page
                rw [hr] at HIPp
                have HIPq := Lib.hid HIPp
                clear hr HIPp
                go_wp2_with fail
                refine (HIPq.out _).mono ?_
                rintro e w5 ⟨rfl, rfl⟩
                cases r with
                | true =>
                  have HU4 := Lib.hid (HU3.out hok)
                  clear HU3 HB2k hok
                  go_wp2
                  go_roundw
                  case rel => exact ⟨k + 1, by omega, by go_num, HU4, hbV.drew, by show w.heap.size < V.heap.size; omega, m0, m2⟩
                  case measure => simp [intOf]; omega
                | false =>
                  have HBad := Lib.hid (HB2k.out hok)
                  clear HU3 HB2k hok
                  go_wp2
                  go_ret
                  exact ⟨ret_b HBad.out.symm, hbV.drew⟩
            · have gq : ∀ W, Later V.drew W → W.cell? ⟨b, o + (k - 1) * 4, none⟩ = some (.string q.key) := fun W h => ((Later.undrew' h).cell (p := ⟨b, o + (k - 1) * 4, none⟩) (by show b < V.heap.size; omega)).trans ((hbV.cell (p := ⟨b, o + (k - 1) * 4, none⟩) hbN).trans cq)
              have q0 : decide ((0 : Int) < (k : Int)) = true := by first | (simp; done) | (simp; omega)
              have q0' : decide (0 < k) = true := by first | (simp; done) | (simp; omega)
              have hk1 : IntKind.i64.wrap ((k : Int) - 1) = ((k - 1 : Nat) : Int) := by rw [IntWalk.i64_in _ ⟨by omega, by omega⟩]; omega
              have hb1 : k - 1 < ll := by omega
              cases hl : lessK q.key key with
              | true =>
                have HU3 := Lib.hid (HUk2.out h100 (fun _ q' hq' => by rw [hq] at hq'; simp at hq'; subst hq'; exact hl))
                have q4 : Op.bytesLess q.key.toList key.toList = true := hl
                have q5 : (!Op.bytesLess q.key.toList key.toList) = false := by rw [q4]; rfl
                clear HB3k HUk2 HPrev hq cq hl
                refine wp_region_ord [(0, true), (1, true), (2, true), (3, true), (4, true), (5, true), (6, true), (7, true), (8, true), (9, true), (10, true), (11, true), (12, true), (13, true), (14, true), (15, true), (16, true), (17, true), (18, true), (19, true)] (by kernel_rfl) (by kernel_rfl) (by kernel_rfl) (by kernel_rfl) ?_
                repeat (first | (refine wpO_F (v := ?_) rfl (by rfl) (fun w' hL => ?_) ?_; rotate_left; (solve | (go_simp; with_reducible rfl) | go_simp); try simp only [Act.put, List.setIfInBounds_toArray, List.set_cons_zero, List.set_cons_succ]) | (refine wpO_G rfl (by rfl) ?_; try simp only [Act.put, List.setIfInBounds_toArray, List.set_cons_zero, List.set_cons_succ]))
                refine wpO_nil ?_
                clear g0 g2 gq hk1
                rcases hways with ⟨h1, hok⟩ | ⟨rfl, h4, hok⟩ | ⟨rfl, h4, hok⟩
                · have x1 : (len != 0) = true := by simpa using h1
                  have HBad := Lib.hid (HB2k.out hok)
                  clear HU3 HB2k hok
                  go_wp2
                  go_ret
                  exact ⟨ret_b HBad.out.symm, hbV.drew⟩
                · have x5 := empty_not data h4
                  have x6 : (!data.toList.isEmpty) = true := by simpa using x5
                  have HBad := Lib.hid (HB2k.out hok)
                  clear HU3 HB2k hok
                  go_wp2
                  go_ret
                  exact ⟨ret_b HBad.out.symm, hbV.drew⟩
                · have x5 := empty_list data h4
                  generalize hr : okPage page = r at *
                  have HIPp := HIP.out page
                  rw [hr] at HIPp
                  have HIPq := Lib.hid HIPp
                  clear hr HIPp
                  go_wp2_with fail
                  refine (HIPq.out _).mono ?_
                  rintro e w5 ⟨rfl, rfl⟩
                  cases r with
                  | true =>
                    have HU4 := Lib.hid (HU3.out hok)
                    clear HU3 HB2k hok
                    go_wp2
                    go_roundw
                    case rel => exact ⟨k + 1, by omega, by go_num, HU4, hbV.drew, by show w.heap.size < V.heap.size; omega, m0, m2⟩
                    case measure => simp [intOf]; omega
                  | false =>
                    have HBad := Lib.hid (HB2k.out hok)
                    clear HU3 HB2k hok
                    go_wp2
                    go_ret
                    exact ⟨ret_b HBad.out.symm, hbV.drew⟩
              | false =>
                have HBad := Lib.hid (HB3k.out q hq hk0 hl)
                have q4 : Op.bytesLess q.key.toList key.toList = false := hl
                have q5 : (!Op.bytesLess q.key.toList key.toList) = true := by rw [q4]; rfl
                clear HB3k HUk2 HPrev hq cq hl hways
                refine wp_region_ord [(0, true), (1, true), (2, true), (3, true), (4, true), (5, true), (6, true), (7, true), (8, true), (9, true), (10, true), (11, true), (12, true), (13, true), (14, true), (15, true), (16, true), (17, true), (18, true), (19, true)] (by kernel_rfl) (by kernel_rfl) (by kernel_rfl) (by kernel_rfl) ?_
                repeat (first | (refine wpO_F (v := ?_) rfl (by rfl) (fun w' hL => ?_) ?_; rotate_left; (solve | (go_simp; with_reducible rfl) | go_simp); try simp only [Act.put, List.setIfInBounds_toArray, List.set_cons_zero, List.set_cons_succ]) | (refine wpO_G rfl (by rfl) ?_; try simp only [Act.put, List.setIfInBounds_toArray, List.set_cons_zero, List.set_cons_succ]))
                refine wpO_nil ?_
                go_wp2
                go_ret
                exact ⟨ret_b HBad.out.symm, hbV.drew⟩
          · have q1 : decide ((100 : Int) < (key.size : Int)) = true := by first | (simp; done) | (simp; omega)
            have HBad := Lib.hid (HB1k.out h100)
            clear HB3k HUk2 HPrev hways
            refine wp_region_ord [(0, true), (1, true), (2, true), (3, true), (4, true), (5, true), (6, true), (7, true), (8, true), (9, true), (10, true), (11, true), (12, true), (13, true), (14, true), (15, true), (16, true), (17, true), (18, true), (19, true)] (by kernel_rfl) (by kernel_rfl) (by kernel_rfl) (by kernel_rfl) ?_
            repeat (first | (refine wpO_F (v := ?_) rfl (by rfl) (fun w' hL => ?_) ?_; rotate_left; (solve | (go_simp; with_reducible rfl) | go_simp); try simp only [Act.put, List.setIfInBounds_toArray, List.set_cons_zero, List.set_cons_succ]) | (refine wpO_G rfl (by rfl) ?_; try simp only [Act.put, List.setIfInBounds_toArray, List.set_cons_zero, List.set_cons_succ]))
            refine wpO_nil ?_
            go_wp2
            go_ret
            exact ⟨ret_b HBad.out.symm, hbV.drew⟩
        · have hkk : k = ll := by omega
          have HOk := Lib.hid (HAll2.out (by rw [← hkk]; exact HUk.out))
          go_wp2
          go_ret
          exact ⟨ret_b HOk.out.symm, hb⟩
    | false =>
      rw [hpk] at HIPk
      have HIPk2 := Lib.hid HIPk
      have HBad := Lib.hid (HBH.out (by rw [hpk]; simp))
      clear HAll HBH hne HIPk hpk
      go_enter Try.func11, Try.ntmps11
      go_wp2_with fail
      refine (HIPk2.out _).mono ?_
      rintro e w5 ⟨rfl, rfl⟩
      go_wp2
      go_ret
      exact ⟨ret_b HBad.out.symm, Below.box _ _⟩
  · have HBad := Lib.hid (HBH.out (fun h => hll0 h.1))
    have hl0 : ll = 0 := by omega
    subst hl0
    clear HAll HBH hne
    go_enter Try.func11, Try.ntmps11
    go_wp2
    go_ret
    exact ⟨ret_b HBad.out.symm, Below.box _ _⟩

theorem rRight_any (x : Rn) (m : RB) (w : World) (h : RAt w x m) :
    Calls Try.prog 11 #[m.v x.leaf x.kid] w fun e w' => e = .returned (.bool x.ok) ∧ Below w.heap.size w w' := by
  cases hl : x.leaf with
  | true => have := rRight_leaf x m w h hl; rw [hl] at this; exact this
  | false => have := rRight_inner x m w h hl; rw [hl] at this; exact this
end Go.Proofs.Ytpcgommdlgmknaa

/- The walk of the law NodeFinds. -/
namespace Go.Proofs.Ytpcgommdlgmknaa
open Go.RowKit

theorem NAt.in_ {w : World} {n : Nd} {m : NB} (h : NAt w n m) : NIn w n m :=
  ⟨h.hk, h.hc, h.hd, h.kcap, h.ccap, h.dcap, by have := h.kmax; omega, by have := h.cmax; omega, by have := h.dmax; omega, h.karr, h.carr, h.darr, fun k hk => by have := h.kfair k hk; omega, fun c hc => ⟨by have := (h.cfair c hc).1; omega, (h.cfair c hc).2⟩, h.dfair⟩

theorem asR_keys {n : Nd} (h : n.shaped = true) : n.asR.l.map Pt.key = n.keys := by
  have := (asN_asR h).1
  conv => rhs; rw [← this]
  unfold Rn.asN
  cases n.asR.leaf <;> rfl

set_option maxRecDepth 100000 in
set_option maxHeartbeats 8000000 in
theorem nodeFinds_walk (n : Nd) (m : NB) (key : ByteArray) (w : World) (hin : NAt w n m) (hbig : m.kl ≤ 1048576) :
    Calls Try.prog 4 #[m.v n.leaf, .string key] w fun e w' => e = .returned (.bool true) ∧ Below w.heap.size w w' := by
  have hbx := Below.box w (.cells #[.bool n.leaf, .slice m.ka m.kl m.kc, .slice m.ca m.cl m.cc, .slice m.da m.dl m.dc] 26)
  have HAs := Lib.hid (NAs_any n m _ (hin.later hbx) (by omega))
  have HAl := Lib.hid alive_any10
  have HNA := Lib.hid hin
  have HBx := Lib.hid hbx
  have HBlk0 := Lib.hid (Blk.new w 26 #[.bool n.leaf, .slice m.ka m.kl m.kc, .slice m.ca m.cl m.cc, .slice m.da m.dl m.dc])
  obtain ⟨lf, hlf⟩ : ∃ lf, n.leaf = lf := ⟨_, rfl⟩
  rw [hlf] at HAs HBx HBlk0 ⊢
  have HLf := Lib.hid hlf
  clear hin hbx hlf
  obtain ⟨ka, kl, kc, ca, cl, cc, da, dl, dc⟩ := m
  simp only at *
  go_enter Try.func4, Try.ntmps4
  go_wp2_with fail
  refine HAs.out.mono ?_
  rintro e w1 ⟨x, mb, rfl, hx, hRA, hb1⟩
  have HB1 : Hid (Below w.heap.size w w1) := HBx.out.trans (Below.mono hb1 HBx.out.size)
  have HBk1 : Hid (Blk w1 w.heap.size 26 #[.bool lf, .slice ka kl kc, .slice ca cl cc, .slice da dl dc]) := HBlk0.out.bel hb1 HBlk0.out.lt
  obtain ⟨la, ll, lc⟩ := mb
  obtain ⟨xlf, hxlf⟩ : ∃ xlf, x.leaf = xlf := ⟨_, rfl⟩
  obtain ⟨xkid, hxkid⟩ : ∃ xkid, x.kid = xkid := ⟨_, rfl⟩
  rw [hxlf, hxkid]
  have HXlf := Lib.hid hxlf
  have HXkid := Lib.hid hxkid
  have HX := Lib.hid hx
  have HRA := Lib.hid hRA
  have L12 : Later w1 (w1.alloc (.cells #[.bool xlf, .int .i64 xkid, .slice la ll lc] 32)) := Below.box _ _
  have HB2 : Hid (Below w.heap.size w _) := HB1.out.trans (Below.mono L12 HB1.out.size)
  have HBk2 := Lib.hid (HBk1.out.alloc (.cells #[.bool xlf, .int .i64 xkid, .slice la ll lc] 32))
  have HRk2 := Lib.hid (Blk.new w1 32 #[.bool xlf, .int .i64 xkid, .slice la ll lc])
  have HGr := NGreat_any n ⟨ka, kl, kc, ca, cl, cc, da, dl, dc⟩ _ ((HNA.out.later HB2.out).in_)
  rw [HLf.out] at HGr
  have HGr := Lib.hid HGr
  have x0 : w1.cell? ⟨w.heap.size, 0, none⟩ = some (.bool lf) := Blk.cell HBk1.out 0
  have x1 : w1.cell? ⟨w.heap.size, 1, none⟩ = some (.slice ka kl kc) := Blk.cell HBk1.out 1
  have x2 : w1.cell? ⟨w.heap.size, 2, none⟩ = some (.slice ca cl cc) := Blk.cell HBk1.out 2
  have x3 : w1.cell? ⟨w.heap.size, 3, none⟩ = some (.slice da dl dc) := Blk.cell HBk1.out 3
  have xlt : w.heap.size < w1.heap.size := Blk.lt HBk1.out
  clear hb1 hxlf hxkid hx hRA HAs HBlk0
  obtain ⟨sh, hsh⟩ : ∃ sh, n.shaped = sh := ⟨_, rfl⟩
  rw [hsh]
  rw [hsh] at HX
  have HSh := Lib.hid hsh
  have HRA2 := Lib.hid (HRA.out.later L12)
  clear hsh L12
  go_wp2_with fail
  refine HGr.out.mono ?_
  rintro e w3 ⟨r, rfl, hfit, L23⟩
  have HB3 : Hid (Below w.heap.size w w3) := HB2.out.trans (Below.mono L23 HB2.out.size)
  have HBk3 := Lib.hid (HBk2.out.bel L23 HBk2.out.lt)
  have HRk3 := Lib.hid (HRk2.out.bel L23 HRk2.out.lt)
  have HRA3 := Lib.hid (HRA2.out.later L23)
  clear hfit L23 x0 x1 x2 x3 xlt HGr
  cases r with
  | true =>
    go_wp2_with fail
    refine (HAl.out _).mono ?_
    rintro e w9 ⟨rfl, L9⟩
    go_wp2
    go_ret
    exact ⟨rfl, HB3.out.trans (Below.mono L9 HB3.out.size)⟩
  | false =>
    cases sh with
    | false =>
      go_wp2_with fail
      refine (HAl.out _).mono ?_
      rintro e w9 ⟨rfl, L9⟩
      go_wp2
      go_ret
      exact ⟨rfl, HB3.out.trans (Below.mono L9 HB3.out.size)⟩
    | true =>
      have hxe := HX.out rfl
      subst hxe
      have HRt := rRight_any n.asR ⟨la, ll, lc⟩ w3 HRA3.out
      rw [HXlf.out, HXkid.out] at HRt
      have hokc : n.asR.ok = true → KeysOk n.keys := fun h => by rw [← asR_keys HSh.out]; exact (Rn.ok_true h).1
      have HOk := Lib.hid hokc
      obtain ⟨ok, hok⟩ : ∃ ok, n.asR.ok = ok := ⟨_, rfl⟩
      rw [hok] at HRt HOk
      have HRt := Lib.hid HRt
      clear hok hokc
      have y0 : w3.cell? ⟨w1.heap.size, 0, none⟩ = some (.bool xlf) := Blk.cell HRk3.out 0
      have y1 : w3.cell? ⟨w1.heap.size, 1, none⟩ = some (.int .i64 xkid) := Blk.cell HRk3.out 1
      have y2 : w3.cell? ⟨w1.heap.size, 2, none⟩ = some (.slice la ll lc) := Blk.cell HRk3.out 2
      have ylt : w1.heap.size < w3.heap.size := Blk.lt HRk3.out
      go_wp2_with fail
      refine HRt.out.mono ?_
      rintro e w4 ⟨rfl, L34⟩
      have HB4 : Hid (Below w.heap.size w w4) := HB3.out.trans (Below.mono L34 HB3.out.size)
      have HBk4 := Lib.hid (HBk3.out.bel L34 HBk3.out.lt)
      have HRk4 := Lib.hid (HRk3.out.bel L34 HRk3.out.lt)
      have HRA4 := Lib.hid (HRA3.out.later L34)
      clear L34 y0 y1 y2 ylt HRt
      cases ok with
      | false =>
        go_wp2_with fail
        refine (HAl.out _).mono ?_
        rintro e w9 ⟨rfl, L9⟩
        go_wp2
        go_ret
        exact ⟨rfl, HB4.out.trans (Below.mono L9 HB4.out.size)⟩
      | true =>
        have HKs := Lib.hid (HOk.out rfl)
        have HFd := NFind_any n ⟨ka, kl, kc, ca, cl, cc, da, dl, dc⟩ key w4 (HNA.out.later HB4.out)
        rw [HLf.out] at HFd
        have HFd := Lib.hid HFd
        have x0 : w4.cell? ⟨w.heap.size, 0, none⟩ = some (.bool lf) := Blk.cell HBk4.out 0
        have x1 : w4.cell? ⟨w.heap.size, 1, none⟩ = some (.slice ka kl kc) := Blk.cell HBk4.out 1
        have x2 : w4.cell? ⟨w.heap.size, 2, none⟩ = some (.slice ca cl cc) := Blk.cell HBk4.out 2
        have x3 : w4.cell? ⟨w.heap.size, 3, none⟩ = some (.slice da dl dc) := Blk.cell HBk4.out 3
        have xlt : w.heap.size < w4.heap.size := Blk.lt HBk4.out
        go_wp2_with fail
        refine HFd.out.mono ?_
        rintro e w5 ⟨r, rfl, hr, L45⟩
        have HB5 : Hid (Below w.heap.size w w5) := HB4.out.trans (Below.mono L45 HB4.out.size)
        have HBk5 := Lib.hid (HBk4.out.bel L45 HBk4.out.lt)
        have HRk5 := Lib.hid (HRk4.out.bel L45 HRk4.out.lt)
        have HRA5 := Lib.hid (HRA4.out.later L45)
        have HRFd := rFind_any n.asR ⟨la, ll, lc⟩ key w5 HRA5.out
        rw [HXlf.out, HXkid.out, asR_keys HSh.out] at HRFd
        have HRFd := Lib.hid HRFd
        have Hr := Lib.hid hr
        clear L45 x0 x1 x2 x3 xlt HFd hr
        have y0 : w5.cell? ⟨w1.heap.size, 0, none⟩ = some (.bool xlf) := Blk.cell HRk5.out 0
        have y1 : w5.cell? ⟨w1.heap.size, 1, none⟩ = some (.int .i64 xkid) := Blk.cell HRk5.out 1
        have y2 : w5.cell? ⟨w1.heap.size, 2, none⟩ = some (.slice la ll lc) := Blk.cell HRk5.out 2
        have ylt : w1.heap.size < w5.heap.size := Blk.lt HRk5.out
        go_wp2_with fail
        refine HRFd.out.mono ?_
        rintro e w6 ⟨r', rfl, hr', L56⟩
        have hrr := find_eq HKs.out Hr.out hr'
        subst hrr
        have HB6 : Hid (Below w.heap.size w w6) := HB5.out.trans (Below.mono L56 HB5.out.size)
        have HBk6 := Lib.hid (HBk5.out.bel L56 HBk5.out.lt)
        have HRk6 := Lib.hid (HRk5.out.bel L56 HRk5.out.lt)
        have HRA6 := Lib.hid (HRA5.out.later L56)
        obtain ⟨r1, r2⟩ := r
        simp only
        clear L56 y0 y1 y2 ylt HRFd hr' Hr
        have HWy := fun W (hW : Below w6.heap.size w6 W) => NWay_any n ⟨ka, kl, kc, ca, cl, cc, da, dl, dc⟩ key W ((HNA.out.later HB6.out).later hW)
        rw [HLf.out] at HWy
        have HRWy := fun W (hW : Below w6.heap.size w6 W) => rWay_any n.asR ⟨la, ll, lc⟩ key W (HRA6.out.later hW)
        rw [HXlf.out, HXkid.out, asR_keys HSh.out] at HRWy
        have HWy := Lib.hid HWy
        have HRWy := Lib.hid HRWy
        have D : Hid (∀ W, Later w6.drew W → (W.cell? ⟨w.heap.size, 0, none⟩ = some (.bool lf) ∧ W.cell? ⟨w.heap.size, 1, none⟩ = some (.slice ka kl kc) ∧ W.cell? ⟨w.heap.size, 2, none⟩ = some (.slice ca cl cc) ∧ W.cell? ⟨w.heap.size, 3, none⟩ = some (.slice da dl dc)) ∧ W.cell? ⟨w1.heap.size, 0, none⟩ = some (.bool xlf) ∧ W.cell? ⟨w1.heap.size, 1, none⟩ = some (.int .i64 xkid) ∧ W.cell? ⟨w1.heap.size, 2, none⟩ = some (.slice la ll lc)) := by
          intro W hW
          have h1 := HBk6.out.bel (Later.undrew hW) HBk6.out.lt
          have h2 := HRk6.out.bel (Later.undrew hW) HRk6.out.lt
          exact ⟨⟨h1.cell 0, h1.cell 1, h1.cell 2, h1.cell 3⟩, h2.cell 0, h2.cell 1, h2.cell 2⟩
        go_wp2_with fail
        refine wp_region_ord [(0, false), (1, true), (2, true), (3, true), (4, true), (5, true), (6, true), (7, true), (8, true), (9, true), (10, true), (11, true), (12, true), (13, true), (15, true), (16, true), (14, false), (17, false), (18, true), (19, true), (20, true)] (by kernel_rfl) (by kernel_rfl) (by kernel_rfl) (by kernel_rfl) ?_
        repeat (first | (refine wpO_F (v := ?_) rfl (by rfl) (fun w' hL => ?_) ?_; rotate_left; (solve | (go_simp; with_reducible rfl) | go_simp); try simp only [Act.put, List.setIfInBounds_toArray, List.set_cons_zero, List.set_cons_succ]) | (refine wpO_G rfl (by rfl) ?_; try simp only [Act.put, List.setIfInBounds_toArray, List.set_cons_zero, List.set_cons_succ]))
        refine wpO_C rfl (by rfl) ?_
        go_simp
        refine (HAl.out _).mono ?_
        rintro e w7 ⟨rfl, L67⟩
        refine ⟨L67, ?_⟩
        try simp only [Act.put, List.setIfInBounds_toArray, List.set_cons_zero, List.set_cons_succ]
        have e0 : ∀ W, Later w7 W → W.cell? ⟨w.heap.size, 0, none⟩ = some (.bool lf) := fun W h => (D.out W (Later.trans L67 h)).1.1
        have e1 : ∀ W, Later w7 W → W.cell? ⟨w.heap.size, 1, none⟩ = some (.slice ka kl kc) := fun W h => (D.out W (Later.trans L67 h)).1.2.1
        have e2 : ∀ W, Later w7 W → W.cell? ⟨w.heap.size, 2, none⟩ = some (.slice ca cl cc) := fun W h => (D.out W (Later.trans L67 h)).1.2.2.1
        have e3 : ∀ W, Later w7 W → W.cell? ⟨w.heap.size, 3, none⟩ = some (.slice da dl dc) := fun W h => (D.out W (Later.trans L67 h)).1.2.2.2
        have e4 : ∀ W, Later w7 W → W.cell? ⟨w1.heap.size, 0, none⟩ = some (.bool xlf) := fun W h => (D.out W (Later.trans L67 h)).2.1
        have e5 : ∀ W, Later w7 W → W.cell? ⟨w1.heap.size, 1, none⟩ = some (.int .i64 xkid) := fun W h => (D.out W (Later.trans L67 h)).2.2.1
        have e6 : ∀ W, Later w7 W → W.cell? ⟨w1.heap.size, 2, none⟩ = some (.slice la ll lc) := fun W h => (D.out W (Later.trans L67 h)).2.2.2
        have M67 : Hid (Below w6.heap.size w6 w7) := Later.undrew L67
        clear L67
        repeat (first | (refine wpO_F (v := ?_) rfl (by rfl) (fun w' hL => ?_) ?_; rotate_left; (solve | (go_simp; with_reducible rfl) | go_simp); try simp only [Act.put, List.setIfInBounds_toArray, List.set_cons_zero, List.set_cons_succ]) | (refine wpO_G rfl (by rfl) ?_; try simp only [Act.put, List.setIfInBounds_toArray, List.set_cons_zero, List.set_cons_succ]))
        refine wpO_C rfl (by rfl) ?_
        go_simp
        refine (HWy.out _ M67.out).mono ?_
        rintro e w8 ⟨rfl, L78⟩
        refine ⟨L78, ?_⟩
        try simp only [Act.put, List.setIfInBounds_toArray, List.set_cons_zero, List.set_cons_succ]
        have M68 : Hid (Below w6.heap.size w6 w8) := M67.out.trans (Below.mono L78 M67.out.size)
        refine wpO_C rfl (by rfl) ?_
        go_simp
        refine (HRWy.out _ M68.out).mono ?_
        rintro e w9 ⟨k, rfl, hp, he, L89⟩
        refine ⟨L89, ?_⟩
        try simp only [Act.put, List.setIfInBounds_toArray, List.set_cons_zero, List.set_cons_succ]
        have hwy := way_eq HKs.out hp he
        have HB9 : Hid (Below w.heap.size w w9) := HB6.out.trans (Below.mono (M68.out.trans (Below.mono L89 M68.out.size)) HB6.out.size)
        clear hp he L78 L89 e0 e1 e2 e3 e4 e5 e6
        repeat (first | (refine wpO_F (v := ?_) rfl (by rfl) (fun w' hL => ?_) ?_; rotate_left; (solve | (go_simp; with_reducible rfl) | go_simp); try simp only [Act.put, List.setIfInBounds_toArray, List.set_cons_zero, List.set_cons_succ]) | (refine wpO_G rfl (by rfl) ?_; try simp only [Act.put, List.setIfInBounds_toArray, List.set_cons_zero, List.set_cons_succ]))
        refine wpO_nil ?_
        go_wp2
        go_ret
        exact ⟨rfl, HB9.out⟩
end Go.Proofs.Ytpcgommdlgmknaa

/- A node that comes in as an argument of bounded bulk. -/
namespace Go.Proofs.Ytpcgommdlgmknaa
open Go.RowKit Go.ChangeShapes Go.WideShapes Go.Deep Go.Joins

theorem bulk_one {H : Type} (d : DataW H) : 1 ≤ Rows.uptoBulk d := by
  cases d with
  | lit l => cases l <;> simp [Rows.uptoBulk]
  | _ => simp [Rows.uptoBulk]
theorem bulk_part {H : Type} {d : DataW H} {l : List (DataW H)} (h : d ∈ l) : Rows.uptoBulk d ≤ Rows.uptoBulkAll l := by
  induction l with
  | nil => cases h
  | cons x r ih =>
    simp only [Rows.uptoBulkAll]
    cases List.mem_cons.1 h with
    | inl e => subst e; omega
    | inr e => have := ih e; omega
theorem bulk_len {H : Type} (l : List (DataW H)) : l.length ≤ Rows.uptoBulkAll l := by
  induction l with
  | nil => simp [Rows.uptoBulkAll]
  | cons x r ih => have := bulk_one x; simp only [Rows.uptoBulkAll, List.length_cons]; omega
theorem bulk_slice {H : Type} (e s : List (DataW H)) : Rows.uptoBulkAll e + 1 ≤ Rows.uptoBulk (.slice e s) := by
  simp only [Rows.uptoBulk]; omega

set_option maxRecDepth 100000 in
theorem trod_strsU {H : Type} {enc : TypeId × Value → H} {w : World} {fuel : Nat} {cs : List Value} {x : DataW H × List MemPlace}
    (h : DataW.trod enc Try.prog w 0 (fun _ => true) true fuel 22 cs = some x) :
    ∃ (a : Option Addr) (len cap : Nat) (L : List ByteArray), cs = [.slice a len cap] ∧ L.length = len ∧ len ≤ cap ∧ cap ≤ 9223372036854775807 ∧ Arr w.heap.size w a (cellsS L) ∧ (∀ s ∈ L, s.size ≤ Rows.uptoBulk x.1) ∧ len ≤ Rows.uptoBulk x.1 := by
  rcases open_slice Try.underlying22 h with ⟨hcs, _⟩ | ⟨a, l, c, m, n, D, Pl, hcs, _, hl, hm, hmm, hx, hi⟩
  · exact ⟨none, 0, 0, [], hcs, rfl, by omega, by omega, .inl rfl, by simp, by omega⟩
  · have hmc : m = c := by simpa using hmm
    have hC : Try.prog.cellsOf 9 = 1 := by kernel_rfl
    unfold maxLen at hm
    have hxb : Rows.uptoBulkAll ((List.range l).map D) + 1 ≤ Rows.uptoBulk x.1 := by rw [hx]; exact bulk_slice _ _
    have hln := bulk_len ((List.range l).map D)
    rw [List.length_map, List.length_range] at hln
    obtain ⟨L, h1, h2, h3⟩ := row_of (fun s : ByteArray => [Value.string s]) 1 (by omega) (fun _ => rfl) (fun s => s.size ≤ Rows.uptoBulk x.1) w a l (fun i => by
      obtain ⟨cs', hc', ht'⟩ := hi i.1 (by have := i.2; omega)
      rw [hC] at hc'
      obtain ⟨_, hlen, hat⟩ := World.cells?_some hc'
      obtain ⟨s, e0, e1, w0⟩ := DataW.trod_string Try.underlying9 ht'
      have hp : Rows.uptoBulk (D i.1) ≤ Rows.uptoBulkAll ((List.range l).map D) := bulk_part (List.mem_map.2 ⟨i.1, List.mem_range.2 i.2, rfl⟩)
      have hD : D i.1 = .lit (.string s.data.toList) := congrArg Prod.fst e1
      rw [hD] at hp
      simp only [Rows.uptoBulk, Array.length_toList] at hp
      subst e0
      refine ⟨s, ?_, fun j v hj => by rw [hat j (by have := (List.getElem?_eq_some_iff.1 hj).1; simpa using this)]; exact hj⟩
      have : s.size = s.data.size := rfl
      omega)
    exact ⟨some a, l, c, L, hcs, h1, hl, by omega, h2, h3, by omega⟩

set_option maxRecDepth 100000 in
theorem trod_cellsU {H : Type} {enc : TypeId × Value → H} {w : World} {fuel : Nat} {cs : List Value} {x : DataW H × List MemPlace}
    (h : DataW.trod enc Try.prog w 0 (fun _ => true) true fuel 23 cs = some x) :
    ∃ (a : Option Addr) (len cap : Nat) (L : List Cl), cs = [.slice a len cap] ∧ L.length = len ∧ len ≤ cap ∧ cap ≤ 9223372036854775807 ∧ Arr w.heap.size w a (cellsC L) ∧
      (∀ c ∈ L, c.data.size ≤ Rows.uptoBulk x.1 ∧ (-9223372036854775808 ≤ c.len ∧ c.len ≤ 9223372036854775807) ∧ (-9223372036854775808 ≤ c.page ∧ c.page ≤ 9223372036854775807)) ∧ len ≤ Rows.uptoBulk x.1 := by
  rcases open_slice Try.underlying23 h with ⟨hcs, _⟩ | ⟨a, l, c, m, n, D, Pl, hcs, _, hl, hm, hmm, hx, hi⟩
  · exact ⟨none, 0, 0, [], hcs, rfl, by omega, by omega, .inl rfl, by simp, by omega⟩
  · have hmc : m = c := by simpa using hmm
    have hC : Try.prog.cellsOf 63 = 3 := by kernel_rfl
    unfold maxLen at hm
    have hxb : Rows.uptoBulkAll ((List.range l).map D) + 1 ≤ Rows.uptoBulk x.1 := by rw [hx]; exact bulk_slice _ _
    have hln := bulk_len ((List.range l).map D)
    rw [List.length_map, List.length_range] at hln
    obtain ⟨L, h1, h2, h3⟩ := row_of (fun c : Cl => [Value.int .i64 c.len, .string c.data, .int .i64 c.page]) 3 (by omega) (fun _ => rfl) (fun c => c.data.size ≤ Rows.uptoBulk x.1 ∧ (-9223372036854775808 ≤ c.len ∧ c.len ≤ 9223372036854775807) ∧ (-9223372036854775808 ≤ c.page ∧ c.page ≤ 9223372036854775807)) w a l (fun i => by
      obtain ⟨cs', hc', ht'⟩ := hi i.1 (by have := i.2; omega)
      rw [hC] at hc'
      obtain ⟨_, hlen, hat⟩ := World.cells?_some hc'
      obtain ⟨y0, y1, y2, n', hxx, _, h0, h1, h2⟩ := trod_struct3 Try.underlying63 ht'
      match cs', hlen with
      | [v0, v1, v2], _ =>
        have g0 : DataW.trod enc Try.prog w 0 (fun _ => true) true n' 3 [v0] = some y0 := h0
        have g1 : DataW.trod enc Try.prog w 0 (fun _ => true) true n' 9 [v1] = some y1 := h1
        have g2 : DataW.trod enc Try.prog w 0 (fun _ => true) true n' 3 [v2] = some y2 := h2
        obtain ⟨z, e0, -, w0⟩ := DataW.trod_int Try.underlying3 g0
        obtain ⟨s, e1, ey, w1⟩ := DataW.trod_string Try.underlying9 g1
        obtain ⟨p, e2, -, w2⟩ := DataW.trod_int Try.underlying3 g2
        have hp : Rows.uptoBulk (D i.1) ≤ Rows.uptoBulkAll ((List.range l).map D) := bulk_part (List.mem_map.2 ⟨i.1, List.mem_range.2 i.2, rfl⟩)
        have hD : D i.1 = .agg [y0.1, y1.1, y2.1] := congrArg Prod.fst hxx
        rw [hD, ey] at hp
        simp only [Rows.uptoBulk, Rows.uptoBulkAll, Array.length_toList] at hp
        simp only [List.cons.injEq, and_true] at e0 e1 e2
        subst e0 e1 e2
        have : s.size = s.data.size := rfl
        exact ⟨⟨z, s, p⟩, ⟨by simp only; omega, bd_i64 w0, bd_i64 w2⟩, fun j v hj => by rw [hat j (by have := (List.getElem?_eq_some_iff.1 hj).1; simpa using this)]; exact hj⟩)
    exact ⟨some a, l, c, L, hcs, h1, hl, by omega, h2, h3, by omega⟩

set_option maxRecDepth 100000 in
theorem trod_numsU {H : Type} {enc : TypeId × Value → H} {w : World} {fuel : Nat} {cs : List Value} {x : DataW H × List MemPlace}
    (h : DataW.trod enc Try.prog w 0 (fun _ => true) true fuel 24 cs = some x) :
    ∃ (a : Option Addr) (len cap : Nat) (L : List Int), cs = [.slice a len cap] ∧ L.length = len ∧ len ≤ cap ∧ cap ≤ 9223372036854775807 ∧ Arr w.heap.size w a (cellsI L) ∧ (∀ p ∈ L, -9223372036854775808 ≤ p ∧ p ≤ 9223372036854775807) ∧ len ≤ Rows.uptoBulk x.1 := by
  obtain ⟨a, len, cap, L, h1, h2, h3, h4, h5, h6⟩ := trod_nums h
  refine ⟨a, len, cap, L, h1, h2, h3, h4, h5, h6, ?_⟩
  rcases open_slice Try.underlying24 h with ⟨hcs, _⟩ | ⟨a', l, c, m, n, D, Pl, hcs, _, hl, hm, hmm, hx, hi⟩
  · rw [h1] at hcs
    simp only [List.cons.injEq, Value.slice.injEq, and_true] at hcs
    omega
  · rw [h1] at hcs
    simp only [List.cons.injEq, Value.slice.injEq, and_true] at hcs
    have hxb : Rows.uptoBulkAll ((List.range l).map D) + 1 ≤ Rows.uptoBulk x.1 := by rw [hx]; exact bulk_slice _ _
    have hln := bulk_len ((List.range l).map D)
    rw [List.length_map, List.length_range] at hln
    omega

set_option maxRecDepth 100000 in
theorem open_nodeU {H : Type} {enc : TypeId × Value → H} {w : World} {r : Reach} {b0 : Nat} {v : Value} {d : DataW H} {p : List MemPlace} (hv : Value.okWide Try.prog w r b0 26 v) (h : DataW.Trod enc Try.prog w 0 (fun _ => true) true 26 v d p) (hk : Rows.uptoBulk d ≤ 1048576) :
    ∃ (n : Nd) (m : NB), v = m.v n.leaf ∧ NAt w n m ∧ m.kl ≤ 1048576 := by
  obtain ⟨cs, rfl, _⟩ := okWide_struct Try.underlying26 hv
  obtain ⟨fuel, hf⟩ := h
  have hf2 : DataW.trod enc Try.prog w 0 (fun _ => true) true fuel 26 cs.toList = some (d, p) := hf
  obtain ⟨xs, n, _, hx, hl, hlen, hfin⟩ := DataW.trod_struct Try.underlying26 hf2
  have hC : Try.prog.cellsOf 26 = 4 := by kernel_rfl
  rw [hC] at hl
  obtain ⟨cl, hcl⟩ : ∃ cl, cs.toList = cl := ⟨_, rfl⟩
  have hcs : cs = cl.toArray := by rw [← hcl]
  rw [hcl] at hl hfin
  subst hcs
  match cl, hl with
  | [v0, v1, v2, v3], _ =>
    match xs, hlen with
    | [y0, y1, y2, y3], _ =>
      have g0 : DataW.trod enc Try.prog w 0 (fun _ => true) true n 4 [v0] = some y0 := hfin 0 _ rfl
      have g1 : DataW.trod enc Try.prog w 0 (fun _ => true) true n 22 [v1] = some y1 := hfin 1 _ rfl
      have g2 : DataW.trod enc Try.prog w 0 (fun _ => true) true n 23 [v2] = some y2 := hfin 2 _ rfl
      have g3 : DataW.trod enc Try.prog w 0 (fun _ => true) true n 24 [v3] = some y3 := hfin 3 _ rfl
      have hd : d = .agg [y0.1, y1.1, y2.1, y3.1] := congrArg Prod.fst hx
      rw [hd] at hk
      simp only [Rows.uptoBulk, Rows.uptoBulkAll] at hk
      obtain ⟨bl, e0, -⟩ := DataW.trod_bool Try.underlying4 g0
      obtain ⟨ka, kl, kc, ks, e1, k1, k2, k3, k4, k5, k6⟩ := trod_strsU g1
      obtain ⟨ca, cl, cc, cs, e2, c1, c2, c3, c4, c5, c6⟩ := trod_cellsU g2
      obtain ⟨da, dl, dc, ps, e3, d1, d2, d3, d4, d5, d6⟩ := trod_numsU g3
      simp only [List.cons.injEq, and_true] at e0 e1 e2 e3
      subst e0 e1 e2 e3
      refine ⟨⟨bl, ks, cs, ps⟩, ⟨ka, kl, kc, ca, cl, cc, da, dl, dc⟩, rfl, ⟨k1.symm, c1.symm, d1.symm, k2, c2, d2, by simp only; omega, by simp only; omega, by simp only; omega, k4, c4, d4, fun s hs => by have := k5 s hs; omega, fun c hc => ?_, d5⟩, by simp only; omega⟩
      have := c5 c hc
      exact ⟨by omega, this.2⟩
end Go.Proofs.Ytpcgommdlgmknaa
