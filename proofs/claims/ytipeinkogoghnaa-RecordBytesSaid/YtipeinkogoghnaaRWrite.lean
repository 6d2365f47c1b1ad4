/- The walk of record.Write; record.Right. -/
import Derived.Test.YtipeinkogoghnaaREnc
namespace Go.Proofs.Ytipeinkogoghnaa
open Go.RowKit

theorem encV_len (x : Vl) (hs : x.s.size ≤ 8192) (hf : x.fair) : (encV x).length ≤ 8300 := by
  have h1 := putL_len10 (zigN_lt x.n hf.2.1.1 hf.2.1.2)
  have h2 := putL_len10 (show x.s.size < 18446744073709551616 by omega)
  unfold encV
  split
  · simp
  · split
    · simp only [List.length_cons]; omega
    · simp only [List.length_cons, textL, List.length_append, bytesOf_len]; omega

theorem encL_len (l : List Vl) (hs : ∀ x ∈ l, x.s.size ≤ 8192) (hf : ∀ x ∈ l, x.fair) : (encL l).length ≤ l.length * 8300 := by
  induction l with
  | nil => simp [encL]
  | cons x r ih =>
    have h1 := ih (fun y hy => hs y (by simp [hy])) (fun y hy => hf y (by simp [hy]))
    have h2 := encV_len x (hs x (by simp)) (hf x (by simp))
    have e : encL (x :: r) = encV x ++ encL r := rfl
    rw [e, List.length_append, List.length_cons]
    omega

/-- A text that is too long makes the row too long. -/
theorem encL_great (l : List Vl) (x : Vl) (hx : x ∈ l) (hr : x.right = true) (hs : 8192 < x.s.size) : 8192 < (encL l).length := by
  have h1 : x.s.size ≤ (encV x).length := by
    rcases right_kind hr with h | h | ⟨hk, h⟩
    · rw [h] at hs; simp [ByteArray.size] at hs
    · rw [h] at hs; simp [ByteArray.size] at hs
    · unfold encV
      rw [if_neg (by omega), if_neg (by omega)]
      simp only [List.length_cons, textL, List.length_append, bytesOf_len]; omega
  have h2 : (encV x).length ≤ (encL l).length := by
    obtain ⟨a, b, rfl⟩ := List.append_of_mem hx
    unfold encL
    rw [List.flatMap_append, List.flatMap_cons]
    simp only [List.length_append]; omega
  omega

theorem writeV_bad {l : List Vl} (h : rowOk l = false) : writeV l = ([], 3) := by unfold writeV; rw [if_pos h]
theorem writeV_long {l : List Vl} (h : rowOk l = true) (h2 : 8192 < 1 + (encL l).length) : writeV l = ([], 2) := by
  unfold writeV; rw [if_neg (by rw [h]; simp), if_pos h2]
theorem writeV_good {l : List Vl} (h : rowOk l = true) (h2 : ¬ 8192 < 1 + (encL l).length) : writeV l = (l.length :: encL l, 0) := by
  unfold writeV; rw [if_neg (by rw [h]; simp), if_neg h2]

theorem take_fair {l : List Vl} (k : Nat) {p : Vl → Prop} (h : ∀ x ∈ l, p x) : ∀ x ∈ l.take k, p x := fun x hx => h x (List.mem_of_mem_take hx)

set_option maxHeartbeats 2000000 in
theorem Write_any (l : List Vl) (a : Option Addr) (len cap : Nat) (w : World) (hV : Vs w.heap.size w a l) (hlen : len = l.length) (hmax : len ≤ 140737488355328) (hf : ∀ x ∈ l, x.fair) :
    Calls Try.prog 23 #[.slice a len cap] w (RetBE w (writeV l)) := by
  have HI := Lib.hid (isRow_any l a len cap w hV hlen hmax)
  cases hro : rowOk l with
  | false =>
    rw [hro] at HI
    rw [writeV_bad hro]
    clear hV hlen hf hro
    go_enter Try.func23, Try.ntmps23
    go_wp2_with fail
    refine HI.out.mono ?_
    rintro e w1 ⟨rfl, hb⟩
    go_wp2
    go_ret2
    exact ⟨none, 0, rfl, by simp, ⟨by simp, .inl rfl⟩, hb⟩
  | true =>
    rw [hro] at HI
    obtain ⟨i0, hi, hz0, hz1, hz2⟩ := info_parts Try.info5
    obtain ⟨h16, hright⟩ := (rowOk_iff l).1 hro
    have hlen16 : len ≤ 16 := by omega
    have HV := Lib.hid hV
    have HL := Lib.hid hlen
    have HF := Lib.hid hf
    have HR := Lib.hid hright
    have HRo := Lib.hid hro
    have hp1 : putL len = [len] := putL_small (by omega)
    have HP := Lib.hid hp1
    clear hV hlen hf hright hro h16 hp1
    go_enter Try.func23, Try.ntmps23
    go_wp2_with fail
    refine HI.out.mono ?_
    rintro e w1 ⟨rfl, hb1⟩
    clear HI
    have hsz1 := hb1.size
    go_wp2_with fail
    refine (put_any len _ (by omega)).mono ?_
    rintro e w2 ⟨r, rfl, hown, hb2⟩
    have hown2 : OwnB w2 w.heap.size 5 r (len :: encL (l.take 0)) := by
      rw [HP.out] at hown
      obtain ⟨h0, h1, h2⟩ := hown
      refine ⟨h0, h1, ?_⟩
      rcases h2 with h2 | ⟨g, c, cur, hv, hg, rest⟩
      · exact .inl h2
      · exact .inr ⟨g, c, cur, hv, by omega, rest⟩
    have hbw := hb1.trans (hb2.mono hsz1)
    clear hown hb1 hb2 hsz1
    go_wp2_with fail
    go_loopw [4, 16] (fun v i wr => ∃ k : Nat, k ≤ len ∧ i = .int .i64 k ∧ OwnB wr w.heap.size 5 v (len :: encL (l.take k)) ∧ Hid (∀ x ∈ l.take k, x.s.size ≤ 8192) ∧ Below w.heap.size w wr) (fun _ i _ => len - (intOf i).toNat)
    case atStart => exact ⟨0, by omega, rfl, hown2, by simp [Hid], hbw⟩
    case round =>
      obtain ⟨k, hk, rfl, hown, HS, hb⟩ := hrel
      have hsz := hb.size
      by_cases hlt : k < len
      · have hkl : k < l.length := by have := HL.out; omega
        obtain ⟨b, o, rfl, hbN, hc⟩ := HV.out.at_ hkl
        obtain ⟨c0, c1, c2⟩ := hc.below hb hbN
        have hfy := HF.out _ (List.getElem_mem hkl)
        have hry := HR.out _ (List.getElem_mem hkl)
        have HT := Lib.hid (encL_take l k hkl)
        have hlen1 := encL_len (l.take k) HS.out (take_fair k HF.out)
        rw [List.length_take] at hlen1
        have hlen2 : (len :: encL (l.take k)).length ≤ 200000 := by
          rw [List.length_cons]
          have := HL.out
          have : min k l.length ≤ 16 := by omega
          omega
        have HG := Lib.hid (fun (h : 8192 < l[k].s.size) => encL_great l l[k] (List.getElem_mem hkl) hry h)
        have HSn : Hid (l[k].s.size ≤ 8192 → ∀ x ∈ l.take (k + 1), x.s.size ≤ 8192) := by
          intro h x hx
          rw [List.take_succ_eq_append_getElem hkl] at hx
          rcases List.mem_append.1 hx with hx | hx
          · exact HS.out x hx
          · rw [List.mem_singleton.1 hx]; exact h
        clear hlen1
        obtain ⟨y, hy⟩ : ∃ y, y = l[k] := ⟨_, rfl⟩
        rw [← hy] at c0 c1 c2 HT HG HSn hfy hry
        clear hy hc
        by_cases hbig : 8192 < y.s.size
        · have HW : Hid (writeV l = ([], 2)) := writeV_long HRo.out (by have := HG.out hbig; omega)
          go_wp2
          go_ret2
          rw [HW.out]
          exact ⟨none, 0, rfl, by simp, ⟨by simp, .inl rfl⟩, hb.trans (((Below.refl _ _).alloc (Nat.le_refl _) _).mono hsz)⟩
        · have q1 : decide ((8192 : Int) < (y.s.size : Int)) = false := by simp; omega
          have hel := encV_len y (by omega) hfy
          have hne := encV_ne y
          have HE := Lib.hid (fun W => encode_any y W hry hfy.2.1.1 hfy.2.1.2 (by omega))
          have HSn2 : Hid (∀ x ∈ l.take (k + 1), x.s.size ≤ 8192) := HSn.out (by omega)
          clear hfy hry HG HSn hbig
          go_wp2_with fail
          refine (HE.out _).mono ?_
          rintro e w3 ⟨a3, c3, rfl, hcap3, hB3, hb3⟩
          clear HE
          have hsz3 := hb3.size
          have hown3 := (hown.below (Nat.le_refl _) ((Below.refl _ _).alloc (Nat.le_refl _) _)).below (N := wr.heap.size + 1) (by simp) (by simpa using hb3)
          have hb4 : Below w.heap.size w w3 := hb.trans (Below.trans ((Below.refl _ _).alloc hsz _) (hb3.mono (by simp; omega)))
          have hsz4 := hb4.size
          clear hb3 hown
          go_wp2_with (at_builtin; refine wpList_appB rfl _ _ 33 rfl w.heap.size 5 i0 Try.underlying33 hi hz0 hz1 hz2 _ _ w3 hown3 rfl w3.heap.size a3 (encV y) (encV y).length c3 hB3 hne rfl rfl (by omega) hsz4 ?_; intro v5 w5 hown5 hb5 hsz5)
          go_roundw
          case rel => exact ⟨k + 1, by omega, by go_num, by rw [HT.out]; exact hown5, HSn2, hb4.trans hb5⟩
          case measure => simp [intOf]; omega
      · have hall : l.take k = l := List.take_of_length_le (by have := HL.out; omega)
        have hlen1 := encL_len (l.take k) HS.out (take_fair k HF.out)
        rw [hall] at hown hlen1
        clear hall
        obtain ⟨n, hn⟩ : ∃ n, n = (len :: encL l).length := ⟨_, rfl⟩
        have hn2 : n = 1 + (encL l).length := by rw [hn, List.length_cons]; omega
        obtain ⟨a5, c5, rfl, hcap5, hB5, _⟩ := hown.slice
        rw [← hn] at hcap5 ⊢
        have hnl : n ≤ 200000 := by have := HL.out; omega
        have HN := Lib.hid hn
        have HN2 := Lib.hid hn2
        have HB5 := Lib.hid hB5
        clear hn hn2 hown hB5 hlen1
        by_cases hbig : 8192 < n
        · have HW : Hid (writeV l = ([], 2)) := writeV_long HRo.out (by have := HN2.out; omega)
          go_wp2
          go_ret2
          rw [HW.out]
          exact ⟨none, 0, rfl, by simp, ⟨by simp, .inl rfl⟩, hb⟩
        · have q1 : decide ((8192 : Int) < (n : Int)) = false := by simp; omega
          have HW : Hid (writeV l = (l.length :: encL l, 0)) := writeV_good HRo.out (by have := HN2.out; omega)
          go_wp2
          go_ret2
          rw [HW.out, ← HL.out]
          refine ⟨a5, c5, ?_, by rw [← HN.out]; exact hcap5, HB5.out, hb⟩
          rw [← HN.out]; rfl

theorem Right_any (l : List Vl) (a : Option Addr) (len cap : Nat) (w : World) (hV : Vs w.heap.size w a l) (hlen : len = l.length) (hmax : len ≤ 140737488355328) (hf : ∀ x ∈ l, x.fair) :
    Calls Try.prog 28 #[.slice a len cap] w fun e w' => e = .returned (.bool ((writeV l).2 == 0)) ∧ Below w.heap.size w w' := by
  have HW := Lib.hid (Write_any l a len cap w hV hlen hmax hf)
  clear hV hlen hf
  obtain ⟨⟨b, q⟩, hR⟩ : ∃ R, writeV l = R := ⟨_, rfl⟩
  rw [hR] at HW ⊢
  clear hR
  go_enter Try.func28, Try.ntmps28
  go_wp2_with fail
  refine HW.out.mono ?_
  rintro e w1 ⟨a1, c1, rfl, hcap, hB, hb⟩
  clear hB HW hcap
  go_wp2
  go_ret
  exact ⟨rfl, hb⟩
end Go.Proofs.Ytipeinkogoghnaa
