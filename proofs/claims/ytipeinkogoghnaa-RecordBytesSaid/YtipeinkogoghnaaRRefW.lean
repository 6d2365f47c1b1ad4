/- The walk of the reference's Write of rows. -/
import Derived.Test.YtipeinkogoghnaaRWrite
namespace Go.Proofs.Ytipeinkogoghnaa
open Go.RowKit

theorem encL_take_le (l : List Vl) (k : Nat) : (encL (l.take k)).length ≤ (encL l).length := by
  conv => rhs; rw [← List.take_append_drop k l]
  unfold encL
  rw [List.flatMap_append, List.length_append]; omega

/-- A length of at most five bytes' bytes. -/
theorem encV_len2 (x : Vl) (hs : x.s.size ≤ 1000000) (hf : x.fair) : (encV x).length ≤ 1000020 := by
  have h1 := putL_len10 (zigN_lt x.n hf.2.1.1 hf.2.1.2)
  have h2 := putL_len10 (show x.s.size < 18446744073709551616 by omega)
  unfold encV
  split
  · simp
  · split
    · simp only [List.length_cons]; omega
    · simp only [List.length_cons, textL, List.length_append, bytesOf_len]; omega

set_option maxHeartbeats 4000000 in
theorem rWrite_any (l : List Vl) (a : Option Addr) (len cap : Nat) (w : World) (hV : Vs w.heap.size w a l) (hlen : len = l.length) (hmax : len ≤ 140737488355328) (hf : ∀ x ∈ l, x.fair) (hs : ∀ x ∈ l, x.s.size ≤ 1000000) :
    Calls Try.prog 24 #[.slice a len cap] w (RetBE w (writeV l)) := by
  obtain ⟨i0, hi, hz0, hz1, hz2⟩ := info_parts Try.info5
  have HV := Lib.hid hV
  have HL := Lib.hid hlen
  have HF := Lib.hid hf
  have HSz := Lib.hid hs
  by_cases h16 : 16 < len
  · have HW : Hid (writeV l = ([], 3)) := writeV_bad (by unfold rowOk; rw [← hlen]; simp; omega)
    clear hV hlen hf hs
    go_enter Try.func24, Try.ntmps24
    go_wp2
    go_ret2
    rw [HW.out]
    exact ⟨none, 0, rfl, by simp, ⟨by simp, .inl rfl⟩, Below.refl _ _⟩
  · have q16 : decide ((16 : Int) < (len : Int)) = false := by simp; omega
    clear hV hlen hf hs
    go_enter Try.func24, Try.ntmps24
    go_wp2
    go_loopw [4] (fun i wr => ∃ k : Nat, k ≤ len ∧ i = .int .i64 k ∧ Hid (∀ x ∈ l.take k, x.right = true) ∧ Below w.heap.size w wr) (fun i _ => len - (intOf i).toNat)
    case atStart => exact ⟨0, by omega, rfl, by simp [Hid], Below.refl _ _⟩
    case round =>
      obtain ⟨k, hk, rfl, HI, hb⟩ := hrel
      have hsz := hb.size
      by_cases hlt : k < len
      · have hkl : k < l.length := by have := HL.out; omega
        obtain ⟨b, o, rfl, hbN, hc⟩ := HV.out.at_ hkl
        obtain ⟨c0, c1, c2⟩ := hc.below hb hbN
        obtain ⟨y, hy⟩ : ∃ y, y = l[k] := ⟨_, rfl⟩
        have HA := Lib.hid (all_false l k hkl)
        have HT : Hid (y.right = true → ∀ x ∈ l.take (k + 1), x.right = true) := by
          intro h x hx
          rw [List.take_succ_eq_append_getElem hkl] at hx
          rcases List.mem_append.1 hx with hx | hx
          · exact HI.out x hx
          · rw [List.mem_singleton.1 hx, ← hy]; exact h
        rw [← hy] at c0 c1 c2 HA
        clear hy hc
        obtain ⟨ky, ny, sy⟩ := y
        have HN := Lib.hid (fun W => rright_any ky ny sy W)
        obtain ⟨r, hr⟩ : ∃ r, Vl.right ⟨ky, ny, sy⟩ = r := ⟨_, rfl⟩
        rw [hr] at HN HA HT
        clear hr
        go_wp2_with fail
        refine (HN.out _).mono ?_
        rintro e w1 ⟨rfl, hb1⟩
        clear HN
        cases r with
        | true =>
          have HT2 := Lib.hid (HT.out (by trivial))
          go_wp2
          go_roundw
          case rel => exact ⟨k + 1, by omega, by go_num, HT2, hb.trans (Below.mono hb1 hsz)⟩
          case measure => simp [intOf]; omega
        | false =>
          have HW : Hid (writeV l = ([], 3)) := writeV_bad (by unfold rowOk; rw [HA.out (by trivial)]; simp)
          go_wp2
          go_ret2
          rw [HW.out]
          exact ⟨none, 0, rfl, by simp, ⟨by simp, .inl rfl⟩, hb.trans (Below.mono hb1 hsz)⟩
      · have hall : l.take k = l := List.take_of_length_le (by have := HL.out; omega)
        have hri := HI.out
        rw [hall] at hri
        have HRo : Hid (rowOk l = true) := (rowOk_iff l).2 ⟨by have := HL.out; omega, hri⟩
        have HR := Lib.hid hri
        clear HI hall hri
        have hmod : (len : Int) % 256 = len := by omega
        have hown := OwnB.new wr w.heap.size 5 len (len : Int) wr.heap.size rfl (by omega) hsz rfl
        have hbw : Below w.heap.size w (wr.alloc (.cells #[.int .u8 (len : Int)] 5)) := hb.alloc hsz _
        clear hb hsz
        go_wp2_with fail
        generalize (wr.alloc (.cells #[.int .u8 (len : Int)] 5)) = w0 at *
        go_loopw [5, 6] (fun v i wr => ∃ k : Nat, k ≤ len ∧ i = .int .i64 k ∧ OwnB wr w.heap.size 5 v (len :: encL (l.take k)) ∧ Hid ((encL (l.take k)).length ≤ 1010000) ∧ Below w.heap.size w wr) (fun _ i _ => len - (intOf i).toNat)
        case atStart => exact ⟨0, by omega, rfl, hown, by simp [Hid, encL], hbw⟩
        case round =>
          obtain ⟨k, hk, rfl, hown, HS, hb⟩ := hrel
          have hsz := hb.size
          obtain ⟨n, hn⟩ : ∃ n, n = (len :: encL (l.take k)).length := ⟨_, rfl⟩
          obtain ⟨a5, c5, rfl, hcap5, hB5, _⟩ := hown.slice
          have hn2 : n = 1 + (encL (l.take k)).length := by rw [hn, List.length_cons]; omega
          rw [← hn] at hcap5 hown ⊢
          have hnl : n ≤ 1010001 := by have := HS.out; omega
          have HN := Lib.hid hn
          have HN2 := Lib.hid hn2
          have HB5 := Lib.hid hB5
          have HTL := Lib.hid (encL_take_le l k)
          clear hn hn2 hB5
          by_cases hlt : k < len
          · by_cases hbig : 8192 < n
            · have HW : Hid (writeV l = ([], 2)) := writeV_long HRo.out (by have := HN2.out; have := HTL.out; omega)
              have q1 : decide ((n : Int) ≤ 8192) = false := by simp; omega
              go_wp2
              go_ret2
              rw [HW.out]
              exact ⟨none, 0, rfl, by simp, ⟨by simp, .inl rfl⟩, hb⟩
            · have q1 : decide ((n : Int) ≤ 8192) = true := by simp; omega
              have hkl : k < l.length := by have := HL.out; omega
              obtain ⟨b, o, rfl, hbN, hc⟩ := HV.out.at_ hkl
              have hfy := HF.out _ (List.getElem_mem hkl)
              have hry := HR.out _ (List.getElem_mem hkl)
              have hsy := HSz.out _ (List.getElem_mem hkl)
              have HT := Lib.hid (encL_take l k hkl)
              obtain ⟨y, hy⟩ : ∃ y, y = l[k] := ⟨_, rfl⟩
              rw [← hy] at hc HT hfy hry hsy
              clear hy
              have HS2 : Hid ((encL (l.take (k + 1))).length ≤ 1010000) := by
                have h1 := encV_len2 y hsy hfy
                have h2 := HN2.out
                rw [HT.out]
                show (_ : Nat) ≤ _
                rw [List.length_append]; omega
              have HC := Lib.hid hc
              obtain ⟨c0, c1, c2⟩ := hc.below hb hbN
              clear hc
              have hnlen : (len :: encL (l.take k)).length ≤ 1010001 := by rw [← HN.out]; exact hnl
              have hnE : (encL (l.take k)).length ≤ 1010000 := HS.out
              rcases right_kind hry with h | h | ⟨hk2, h⟩
              · subst h
                have HT2 : Hid (encL (l.take (k + 1)) = encL (l.take k) ++ [0]) := HT.out
                clear hfy hry hsy HT
                go_wp2_with (at_builtin; refine wpList_app1 rfl _ _ 33 rfl w.heap.size 5 i0 Try.underlying33 hi hz0 hz1 hz2 _ _ wr hown rfl 0 (by omega) _ rfl rfl (by omega) hsz ?_; intro v1 w1 hown1 hb1 hsz1; obtain ⟨d0, d1, d2⟩ := HC.out.below (hb.trans hb1) hbN)
                go_roundw
                case rel => exact ⟨k + 1, by omega, by go_num, by rw [HT2.out]; exact hown1, HS2, hb.trans hb1⟩
                case measure => simp [intOf]; omega
              · obtain ⟨ky, ny, sy⟩ := y
                simp only [Vl.mk.injEq] at h
                obtain ⟨rfl, -, rfl⟩ := h
                have hz := zigN_lt ny hfy.2.1.1 hfy.2.1.2
                have hn1 := hfy.2.1.1
                have hn2 := hfy.2.1.2
                simp only at hn1 hn2
                have HT2 : Hid (encL (l.take (k + 1)) = (encL (l.take k) ++ [1]) ++ putL (zigN ny)) := by rw [HT.out, List.append_assoc]; rfl
                have hp1 := putL_pos (zigN ny)
                have hp2 := putL_len10 hz
                have hne1 : putL (zigN ny) ≠ [] := by intro h; rw [h] at hp1; simp at hp1
                clear hfy hry hsy HT
                go_wp2_with (at_builtin; refine wpList_app1 rfl _ _ 33 rfl w.heap.size 5 i0 Try.underlying33 hi hz0 hz1 hz2 _ _ wr hown rfl 1 (by omega) _ rfl rfl (by omega) hsz ?_; intro v1 w1 hown1 hb1 hsz1; obtain ⟨d0, d1, d2⟩ := HC.out.below (hb.trans hb1) hbN)
                refine (rzig_any ny _ hn1 hn2).mono ?_
                rintro e w2 ⟨rfl, rfl⟩
                go_wp2_with fail
                refine (rput_ret (zigN ny) _ hz).mono ?_
                rintro e w2 ⟨a2, c2', rfl, hcap2, hB2, hb2⟩
                have hbB := hb.trans hb1
                have hszB := hbB.size
                have hbC := hbB.trans (hb2.mono hszB)
                have hszC := hbC.size
                obtain ⟨f0, f1, f2⟩ := HC.out.below hbC hbN
                clear d0 d1 d2 c0 c1 c2
                go_wp2_with (at_builtin; refine wpList_appB rfl _ _ 33 rfl w.heap.size 5 i0 Try.underlying33 hi hz0 hz1 hz2 _ _ w2 (hown1.below (Nat.le_refl _) hb2) rfl w2.heap.size a2 (putL (zigN ny)) (putL (zigN ny)).length c2' hB2 hne1 rfl rfl (by simp only [List.length_append, List.length_cons, List.length_nil]; omega) hszC ?_; intro v3 w3 hown3 hb3 hsz3; obtain ⟨g0, g1, g2⟩ := HC.out.below (hbC.trans hb3) hbN)
                go_roundw
                case rel => exact ⟨k + 1, by omega, by go_num, by rw [HT2.out]; exact hown3, HS2, hbC.trans hb3⟩
                case measure => simp [intOf]; omega
              · obtain ⟨ky, ny, sy⟩ := y
                simp only at hk2 hsy
                have e1 : ((ky : Int) == 1) = false := by simp; omega
                have e2 : decide ((1 : Int) < (ky : Int)) = true := by simp; omega
                have hp1 := putL_pos sy.size
                have hp2 := putL_len10 (show sy.size < 18446744073709551616 by omega)
                have hne1 : putL sy.size ≠ [] := by intro h; rw [h] at hp1; simp at hp1
                have HT2' : encL (l.take (k + 1)) = ((encL (l.take k) ++ [ky]) ++ putL sy.size) ++ bytesOf sy := by
                  rw [HT.out]
                  unfold encV
                  rw [if_neg (by simp only; omega), if_neg (by simp only; omega)]
                  simp only [textL, List.append_assoc, List.cons_append, List.nil_append]
                have HT2 := Lib.hid HT2'
                clear HT2'
                have hk256 : ky < 256 := by omega
                clear hfy hry HT h hk2
                go_wp2_with (at_builtin; refine wpList_app1 rfl _ _ 33 rfl w.heap.size 5 i0 Try.underlying33 hi hz0 hz1 hz2 _ _ wr hown rfl ky hk256 _ rfl rfl (by omega) hsz ?_; intro v1 w1 hown1 hb1 hsz1; obtain ⟨d0, d1, d2⟩ := HC.out.below (hb.trans hb1) hbN)
                refine (rput_ret sy.size _ (by omega)).mono ?_
                rintro e w2 ⟨a2, c2', rfl, hcap2, hB2, hb2⟩
                have hbB := hb.trans hb1
                have hszB := hbB.size
                have hbC := hbB.trans (hb2.mono hszB)
                have hszC := hbC.size
                obtain ⟨f0, f1, f2⟩ := HC.out.below hbC hbN
                clear d0 d1 d2 c0 c1 c2
                go_wp2_with (first
                  | (at_builtin; refine wpList_appB rfl _ _ 33 rfl w.heap.size 5 i0 Try.underlying33 hi hz0 hz1 hz2 _ _ w2 (hown1.below (Nat.le_refl _) hb2) rfl w2.heap.size a2 (putL sy.size) (putL sy.size).length c2' hB2 hne1 rfl rfl (by simp only [List.length_append, List.length_cons, List.length_nil]; omega) hszC ?_; intro v3 w3 hown3 hb3 hsz3; obtain ⟨g0, g1, g2⟩ := HC.out.below (hbC.trans hb3) hbN)
                  | (at_builtin; refine wpList_appStr rfl _ _ 33 9 rfl w.heap.size 5 i0 Try.underlying33 Try.underlying9 hi hz0 hz1 hz2 v3 _ w3 hown3 rfl sy rfl (by simp only [List.length_append, List.length_cons, List.length_nil]; omega) (hbC.trans hb3).size ?_; intro v4 w4 hown4 hb4 hsz4; obtain ⟨g0, g1, g2⟩ := HC.out.below ((hbC.trans hb3).trans hb4) hbN))
                go_roundw
                case rel => exact ⟨k + 1, by omega, by go_num, by rw [HT2.out]; exact hown4, HS2, (hbC.trans hb3).trans hb4⟩
                case measure => simp [intOf]; omega
          · have hall : l.take k = l := List.take_of_length_le (by have := HL.out; omega)
            have HAll := Lib.hid hall
            clear hall
            by_cases hbig : 8192 < n
            · have HW : Hid (writeV l = ([], 2)) := writeV_long HRo.out (by have := HN2.out; have := HTL.out; omega)
              go_wp2
              go_ret2
              rw [HW.out]
              exact ⟨none, 0, rfl, by simp, ⟨by simp, .inl rfl⟩, hb⟩
            · have q2 : decide ((8192 : Int) < (n : Int)) = false := by simp; omega
              have HW : Hid (writeV l = (l.length :: encL l, 0)) := writeV_good HRo.out (by have := HN2.out; rw [HAll.out] at this; omega)
              go_wp2
              go_ret2
              rw [HW.out, ← HL.out]
              have e1 := HN.out
              have e2 := HB5.out
              rw [HAll.out] at e1 e2
              refine ⟨a5, c5, ?_, by rw [← e1]; exact hcap5, e2, hb⟩
              rw [← e1]; rfl
end Go.Proofs.Ytipeinkogoghnaa
