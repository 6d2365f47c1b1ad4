/- The walks of hindsightref05.Quote and Unquote. -/
import Derived.Test.YtfbknfdbfnklmaaDoorRnLit
namespace Go.Proofs.YtfbknfdbfnklmaaDoor
set_option linter.unusedSimpArgs false
open Go.RowKit

def dblN : List Nat → List Nat
  | [] => []
  | c :: l => if c = 39 then 39 :: 39 :: dblN l else c :: dblN l
theorem dblN_app : ∀ a b : List Nat, dblN (a ++ b) = dblN a ++ dblN b
  | [], b => rfl
  | c :: a, b => by
    rw [List.cons_append, dblN, dblN, dblN_app a b]
    split <;> rfl
theorem dblN_take (l : List Nat) (k : Nat) (hk : k < l.length) : dblN (l.take (k + 1)) = dblN (l.take k) ++ (if l[k] = 39 then [39, 39] else [l[k]]) := by
  have e : dblN [l[k]] = if l[k] = 39 then [39, 39] else [l[k]] := by
    rw [dblN]
    split <;> rfl
  rw [List.take_add_one, List.getElem?_eq_getElem hk, dblN_app]
  exact congrArg _ e
theorem dblN_len : ∀ l : List Nat, (dblN l).length ≤ 2 * l.length
  | [] => Nat.le_refl _
  | c :: l => by
    have := dblN_len l
    rw [dblN]
    split <;> simp only [List.length_cons] <;> omega
theorem dbl_map : ∀ l : List UInt8, (dblL l).map UInt8.toNat = dblN (l.map UInt8.toNat)
  | [] => rfl
  | c :: l => by
    rw [dblL, List.map_cons, dblN]
    by_cases h : c = 39
    · subst h
      rw [if_pos rfl, if_pos (by rfl : UInt8.toNat 39 = 39), List.map_cons, List.map_cons, dbl_map l]; rfl
    · have h2 : c.toNat ≠ 39 := by
        intro h2
        apply h
        apply UInt8.toNat_inj.1
        rw [h2]; rfl
      rw [if_neg h, if_neg h2, List.map_cons, dbl_map l]

theorem strN_map (l : List UInt8) : strN (l.map UInt8.toNat) = baL l := by
  unfold strN baL
  have hid : (UInt8.ofNat ∘ UInt8.toNat) = id := by funext c; simp
  rw [List.map_map, hid, List.map_id]

theorem quoteS_N (s : ByteArray) : quoteS s = strN (39 :: (dblN (bytesU s) ++ [39])) := by
  unfold quoteS quoteL
  rw [← strN_map, List.map_cons, List.map_append, dbl_map]; rfl

theorem OwnB.newU (w : World) (base : Nat) (T : TypeId) (c : Nat) (n : Int) (g : Nat) (hn : n = (c : Int)) (hc : c < 256) (hb : base ≤ w.heap.size) (hg : g = w.heap.size) : OwnB (w.alloc (.cells #[.int .u8 n] T)) base T (.slice (some ⟨g, 0, none⟩) 1 1) [c] := by
  subst hn hg
  refine ⟨by simpa using hc, by simp, .inr ⟨w.heap.size, 1, #[.int .u8 (c : Int)], by simp, hb, heap_alloc_new _ _, by simp, by unfold maxLen; omega, by simp, by simp⟩⟩

set_option maxHeartbeats 2000000 in
theorem rQuote_any (s : ByteArray) (w : World) (hs : s.size ≤ 1000000) :
    Calls Tryd.prog 26 #[.string s] w fun e w' => e = .returned (.string (quoteS s)) ∧ Below w.heap.size w w' := by
  obtain ⟨i0, hi, hz0, hz1, hz2⟩ := info_parts Tryd.info5
  go_enter Tryd.func26, Tryd.ntmps26
  go_wp2
  go_loopw [3, 4] (fun v i wr => ∃ k : Nat, k ≤ s.size ∧ i = .int .i64 k ∧ OwnB wr w.heap.size 5 v (39 :: dblN ((bytesU s).take k)) ∧ Below w.heap.size w wr) (fun _ i _ => s.size - (intOf i).toNat)
  case atStart => exact ⟨0, by omega, rfl, OwnB.newU w w.heap.size 5 39 39 _ rfl (by omega) (Nat.le_refl _) rfl, (Below.refl _ w).alloc (Nat.le_refl _) _⟩
  case round =>
    obtain ⟨k, hk, rfl, hown, hb⟩ := hrel
    have hsz := hb.size
    have hle : (39 :: dblN ((bytesU s).take k)).length ≤ 2000001 := by
      have h1 := dblN_len ((bytesU s).take k)
      rw [List.length_take, bytesU_len] at h1
      rw [List.length_cons]; omega
    by_cases hlt : k < s.size
    · have hkl : k < (bytesU s).length := by rw [bytesU_len]; exact hlt
      have hx : (bytesU s)[k] = (s[k]'hlt).toNat := by simp [bytesU]; rfl
      have hm := dblN_take (bytesU s) k hkl
      rw [hx] at hm
      have HM := Lib.hid hm
      have hc256 := (s[k]'hlt).toNat_lt
      clear hx hm
      by_cases h39 : (s[k]'hlt).toNat = 39
      · have HM2 : Hid (39 :: dblN ((bytesU s).take (k + 1)) = ((39 :: dblN ((bytesU s).take k)) ++ [39]) ++ [39]) := by rw [HM.out, if_pos h39]; simp [Hid]
        have q39 : (((s[k]'hlt).toNat : Int) == 39) = true := by rw [h39]; rfl
        clear HM
        go_wp2_with (first
          | (at_builtin; refine wpList_app1 rfl _ _ 33 rfl w.heap.size 5 i0 Tryd.underlying33 hi hz0 hz1 hz2 _ _ wr hown rfl 39 (by omega) _ (by omega) rfl (by omega) hsz ?_; intro v1 w1 hown1 hb1' hsz1')
          | (at_builtin; refine wpList_app1 rfl _ _ 33 rfl w.heap.size 5 i0 Tryd.underlying33 hi hz0 hz1 hz2 _ _ w1 hown1 rfl 39 (by omega) _ rfl rfl (by rw [List.length_append]; simp only [List.length_cons, List.length_nil] at hle ⊢; omega) (hb.trans hb1').size ?_; intro v2 w2 hown2 hb2' hsz2'))
        go_roundw
        case rel => exact ⟨k + 1, by omega, by go_num, by rw [HM2.out]; exact hown2, (hb.trans hb1').trans hb2'⟩
        case measure => simp [intOf]; omega
      · have HM2 : Hid (39 :: dblN ((bytesU s).take (k + 1)) = (39 :: dblN ((bytesU s).take k)) ++ [(s[k]'hlt).toNat]) := by rw [HM.out, if_neg h39]; simp [Hid]
        have q39 : (((s[k]'hlt).toNat : Int) == 39) = false := by
          rw [Bool.eq_false_iff]; intro h; rw [beq_iff_eq] at h; omega
        clear HM
        go_wp2_with (at_builtin; refine wpList_app1 rfl _ _ 33 rfl w.heap.size 5 i0 Tryd.underlying33 hi hz0 hz1 hz2 _ _ wr hown rfl (s[k]'hlt).toNat (by omega) _ rfl rfl (by omega) hsz ?_; intro v1 w1 hown1 hb1' hsz1')
        go_roundw
        case rel => exact ⟨k + 1, by omega, by go_num, by rw [HM2.out]; exact hown1, hb.trans hb1'⟩
        case measure => simp [intOf]; omega
    · have hall : (bytesU s).take k = bytesU s := List.take_of_length_le (by rw [bytesU_len]; omega)
      rw [hall] at hown hle
      have HQ : Hid (strN (39 :: dblN (bytesU s) ++ [39]) = quoteS s) := (quoteS_N s).symm
      clear hall
      have HCV : Hid (∀ (v : Value) (w1 : World), OwnB w1 w.heap.size 5 v (39 :: dblN (bytesU s) ++ [39]) → (convert 33 9 v).run Tryd.prog w1 = .ok (.string (quoteS s)) w1) := fun v w1 h => by
        obtain ⟨a, cap, rfl, hcap, hB, _⟩ := h.slice
        rw [← HQ.out]
        exact hB.conv (P := Tryd.prog) 33 5 Tryd.underlying33 Tryd.underlying5 9 Tryd.underlying9 _ cap rfl
      clear HQ
      go_wp2_with (at_builtin; refine wpList_app1 rfl _ _ 33 rfl w.heap.size 5 i0 Tryd.underlying33 hi hz0 hz1 hz2 _ _ wr hown rfl 39 (by omega) _ rfl rfl (by omega) hsz ?_; intro v1 w1 hown1 hb1' hsz1'; have hcv1 := HCV.out v1 w1 hown1)
      go_ret
      exact ⟨rfl, hb.trans hb1'⟩

/-! Unquote. -/
theorem toListU_inj {a b : ByteArray} (h : a.toList = b.toList) : a = b := by
  rw [ByteArray.toList_eq, ByteArray.toList_eq] at h
  apply ByteArray.ext
  exact Array.toList_inj.1 h

def uL : List Nat → List Nat
  | [] => []
  | [_] => []
  | c :: d :: r => if c = 39 then c :: uL r else c :: uL (d :: r)

theorem uL_short {l : List Nat} (h : l.length ≤ 1) : uL l = [] := by
  match l, h with
  | [], _ => rfl
  | [_], _ => rfl
  | _ :: _ :: _, h => simp at h
theorem uL_len : ∀ (n : Nat) (l : List Nat), l.length ≤ n → (uL l).length ≤ l.length
  | _, [], _ => Nat.le_refl _
  | _, [_], _ => by simp [uL]
  | 0, _ :: _ :: _, h => by simp at h
  | n + 1, c :: d :: r, h => by
    rw [uL]
    simp only [List.length_cons] at h
    split
    · have := uL_len n r (by omega)
      simp only [List.length_cons]; omega
    · have := uL_len n (d :: r) (by simp only [List.length_cons]; omega)
      simp only [List.length_cons] at this ⊢; omega
theorem uL_back : ∀ x : List Nat, uL (dblN x ++ [39]) = x
  | [] => rfl
  | c :: x => by
    have ih := uL_back x
    rw [dblN]
    by_cases h : c = 39
    · subst h
      rw [if_pos rfl]
      show uL (39 :: 39 :: (dblN x ++ [39])) = _
      rw [uL, if_pos rfl, ih]
    · rw [if_neg h]
      show uL (c :: (dblN x ++ [39])) = _
      cases hd : dblN x ++ [39] with
      | nil => simp at hd
      | cons d r =>
        rw [uL, if_neg h, ← hd, ih]

theorem uL_step {l : List Nat} {k : Nat} (h : k + 1 < l.length) : uL (l.drop k) = if l[k] = 39 then l[k] :: uL (l.drop (k + 2)) else l[k] :: uL (l.drop (k + 1)) := by
  rw [List.drop_eq_getElem_cons (by omega : k < l.length), List.drop_eq_getElem_cons h, uL]

theorem unq_ref (s : ByteArray) : unquoteS s = if quoteS (strN (uL ((bytesU s).drop 1))) = s then (strN (uL ((bytesU s).drop 1)), 0) else (⟨#[]⟩, 3) := by
  have hback : ∀ x : List UInt8, s = baL (quoteL x) → strN (uL ((bytesU s).drop 1)) = baL x := by
    intro x hx
    have e : bytesU s = 39 :: (dblN (x.map UInt8.toNat) ++ [39]) := by
      rw [hx]
      show (quoteL x).map UInt8.toNat = _
      unfold quoteL
      rw [List.map_cons, List.map_append, dbl_map]; rfl
    rw [e]
    show strN (uL (dblN (x.map UInt8.toNat) ++ [39])) = _
    rw [uL_back, strN_map]
  have hsb : baL s.data.toList = s := by unfold baL; simp
  unfold unquoteS unquoteL
  by_cases h1 : quoteL (plainL s.data.toList) = s.data.toList
  · have hb := hback (plainL s.data.toList) (by rw [h1, hsb])
    rw [if_pos h1, hb, if_pos]
    unfold quoteS
    rw [baL_list, h1, hsb]
  · rw [if_neg h1, if_neg]
    · rfl
    · intro h2
      apply h1
      have h3 : s.data.toList = quoteL (strN (uL ((bytesU s).drop 1))).data.toList := by
        have := congrArg (fun t : ByteArray => t.data.toList) h2
        simp only [quoteS, baL_list] at this
        exact this.symm
      rw [h3, plain_quote]

set_option maxRecDepth 1000000 in
set_option maxHeartbeats 4000000 in
theorem rUnquote_any (s : ByteArray) (w : World) (hs : s.size ≤ 400000) :
    Calls Tryd.prog 22 #[.string s] w fun e w' => e = .returned (.tuple #[.string (unquoteS s).1, .int .i64 (unquoteS s).2]) ∧ Below w.heap.size w w' := by
  obtain ⟨i0, hi, hz0, hz1, hz2⟩ := info_parts Tryd.info5
  have HL := Lib.hid (bytesU_len s)
  have HU := Lib.hid (unq_ref s)
  have hul := uL_len _ ((bytesU s).drop 1) (Nat.le_refl _)
  rw [List.length_drop, HL.out] at hul
  go_enter Tryd.func22, Tryd.ntmps22
  go_wp2
  go_loopw [4, 5] (fun v i wr => ∃ (k : Nat) (q : List Nat), 1 ≤ k ∧ k ≤ s.size + 1 ∧ i = .int .i64 k ∧ OwnB wr w.heap.size 5 v q ∧ Hid (q ++ uL ((bytesU s).drop k) = uL ((bytesU s).drop 1)) ∧ Below w.heap.size w wr) (fun _ i _ => s.size - (intOf i).toNat)
  case atStart => exact ⟨1, [], by omega, by omega, rfl, OwnB.nil _ _ _, rfl, Below.refl _ _⟩
  case round =>
    obtain ⟨k, q, hk1, hk, rfl, hown, HQ, hb⟩ := hrel
    have hsz := hb.size
    have hql : q.length ≤ 400000 := by
      have h1 := congrArg List.length HQ.out
      rw [List.length_append] at h1
      omega
    by_cases hlt : k + 1 < s.size
    · have hlt' : k < s.size := by omega
      have hkl : k + 1 < (bytesU s).length := by rw [bytesU_len]; exact hlt
      have hx : (bytesU s)[k] = (s[k]'hlt').toNat := by simp [bytesU]; rfl
      have hm := uL_step hkl
      rw [hx] at hm
      have HM := Lib.hid hm
      have hc256 := (s[k]'hlt').toNat_lt
      have qc : decide (((k : Int) + 1) < (s.size : Int)) = true := by simp; omega
      clear hx hm hkl hul hlt
      by_cases h39 : (s[k]'hlt').toNat = 39
      · have HM2 : Hid ((q ++ [39]) ++ uL ((bytesU s).drop (k + 2)) = uL ((bytesU s).drop 1)) := by rw [← HQ.out, HM.out, if_pos h39, h39]; simp [Hid]
        have q39 : (((s[k]'hlt').toNat : Int) == 39) = true := by rw [h39]; rfl
        clear HM HQ
        go_wp2_with (at_builtin; refine wpList_app1 rfl _ _ 33 rfl w.heap.size 5 i0 Tryd.underlying33 hi hz0 hz1 hz2 _ _ wr hown rfl 39 (by omega) _ (by omega) rfl (by omega) hsz ?_; intro v1 w1 hown1 hb1' hsz1')
        go_roundw
        case rel => exact ⟨k + 2, _, by omega, by omega, by go_num, hown1, HM2, hb.trans hb1'⟩
        case measure => simp [intOf]; omega
      · have HM2 : Hid ((q ++ [(s[k]'hlt').toNat]) ++ uL ((bytesU s).drop (k + 1)) = uL ((bytesU s).drop 1)) := by rw [← HQ.out, HM.out, if_neg h39]; simp [Hid]
        have q39 : (((s[k]'hlt').toNat : Int) == 39) = false := by
          rw [Bool.eq_false_iff]; intro h; rw [beq_iff_eq] at h; omega
        clear HM HQ
        go_wp2_with (at_builtin; refine wpList_app1 rfl _ _ 33 rfl w.heap.size 5 i0 Tryd.underlying33 hi hz0 hz1 hz2 _ _ wr hown rfl (s[k]'hlt').toNat (by omega) _ rfl rfl (by omega) hsz ?_; intro v1 w1 hown1 hb1' hsz1')
        go_roundw
        case rel => exact ⟨k + 1, _, by omega, by omega, by go_num, hown1, HM2, hb.trans hb1'⟩
        case measure => simp [intOf]; omega
    · have hq : q = uL ((bytesU s).drop 1) := by
        rw [← HQ.out, uL_short (by rw [List.length_drop, HL.out]; omega), List.append_nil]
      clear HQ hul
      have HQr := Lib.hid (fun W => rQuote_any (strN q) W (by
        show (strN q).size ≤ 1000000
        unfold strN ByteArray.size
        simp; omega))
      rw [← hq] at HU
      clear hq
      obtain ⟨a, cap, rfl, hcap, hB, _⟩ := hown.slice
      have HCV : Hid (∀ W, Below wr.heap.size wr W → (convert 33 9 (.slice a q.length cap)).run Tryd.prog W = .ok (.string (strN q)) W) := fun W h => (hB.below h).conv (P := Tryd.prog) 33 5 Tryd.underlying33 Tryd.underlying5 9 Tryd.underlying9 _ cap rfl
      have hcv := HCV.out wr (Below.refl _ _)
      obtain ⟨t, ht⟩ : ∃ t, strN q = t := ⟨_, rfl⟩
      rw [ht] at HU HQr HCV hcv
      obtain ⟨u, hu⟩ : ∃ u, quoteS t = u := ⟨_, rfl⟩
      rw [hu] at HU HQr
      have qc : decide (((k : Int) + 1) < (s.size : Int)) = false := by simp; omega
      clear hB hown ht hu hlt
      go_wp2_with fail
      refine (HQr.out _).mono ?_
      rintro e w1 ⟨rfl, hb1⟩
      have hcv1 := HCV.out w1 hb1
      clear hcv HCV HQr
      by_cases hus : u = s
      · subst hus
        have HU2 : Hid (unquoteS u = (t, 0)) := by rw [HU.out, if_pos rfl]; rfl
        clear HU
        have qu2 : (u.toList == u.toList) = true := by simp
        go_wp2
        go_ret2
        exact ⟨by rw [HU2.out]; rfl, hb.trans (hb1.mono hsz)⟩
      · have HU2 : Hid (unquoteS s = (⟨#[]⟩, 3)) := by rw [HU.out, if_neg hus]; rfl
        clear HU
        have qu : (u.toList == s.toList) = false := by
          rw [Bool.eq_false_iff]
          intro h
          rw [beq_iff_eq] at h
          exact hus (toListU_inj h)
        go_wp2
        go_ret2
        exact ⟨by rw [HU2.out]; rfl, hb.trans (hb1.mono hsz)⟩
end Go.Proofs.YtfbknfdbfnklmaaDoor
