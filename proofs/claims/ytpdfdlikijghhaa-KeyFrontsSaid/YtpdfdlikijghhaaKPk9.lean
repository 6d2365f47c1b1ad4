/- Several texts of one proof, one behind the other. -/
import Derived.Test.YtpdfdlikijghhaaKPk8

/- The walk of key.unescape. -/
namespace Go.Proofs.Ytpdfdlikijghhaa
open Go.RowKit

/-- A string, the bytes of its marked form, and whether there is one. -/
def RetU (w : World) (o : Option (List Nat × Nat)) (e : Ending) (w' : World) : Prop :=
  Below w.heap.size w w' ∧ ((o = none ∧ ∃ s : ByteArray, e = .returned (.tuple #[.string s, .int .i64 0, .bool false])) ∨ ∃ (s : List Nat) (m : Nat), o = some (s, m) ∧ e = .returned (.tuple #[.string (strN s), .int .i64 (m : Int), .bool true]))

/-- What is still to be read, behind a mark or not. -/
def unLeft (D : List Nat) (k : Nat) : Bool → List Nat
  | true => 0 :: D.drop k
  | false => D.drop k
def unOff (k : Nat) : Bool → Nat
  | true => k - 1
  | false => k
def unInv (D : List Nat) (k : Nat) (mark : Bool) (A : List Nat) : Prop := (mark = true → 0 < k) ∧ (∀ c ∈ A, c < 256) ∧ unesc D = (unesc (unLeft D k mark)).map (fun p => (A ++ p.1, p.2 + unOff k mark))

theorem un_end {D A : List Nat} {k : Nat} {mark : Bool} (h : unInv D k mark A) (hk : D.length ≤ k) : unesc D = none := by
  rw [h.2.2]
  cases mark
  · show (unesc (D.drop k)).map _ = none
    rw [List.drop_of_length_le hk]; rfl
  · show (unesc (0 :: D.drop k)).map _ = none
    rw [List.drop_of_length_le hk]; rfl

theorem un_done {D A : List Nat} {k : Nat} (h : unInv D k true A) (hk : k < D.length) (hc : D[k] = 1) : unesc D = some (A, k + 1) := by
  have h0 := h.1 rfl
  rw [h.2.2]
  show (unesc (0 :: D.drop k)).map (fun p => (A ++ p.1, p.2 + (k - 1))) = _
  rw [List.drop_eq_getElem_cons hk, hc, unesc_zero, if_pos rfl]
  simp; omega

theorem un_bad {D A : List Nat} {k : Nat} (h : unInv D k true A) (hk : k < D.length) (hc : D[k] ≠ 1) (hc2 : D[k] ≠ 255) : unesc D = none := by
  rw [h.2.2]
  show (unesc (0 :: D.drop k)).map _ = _
  rw [List.drop_eq_getElem_cons hk, unesc_zero, if_neg hc, if_neg hc2]; rfl

theorem un_mark {D A : List Nat} {k : Nat} (h : unInv D k true A) (hk : k < D.length) (hc : D[k] = 255) : unInv D (k + 1) false (A ++ [0]) := by
  have h0 := h.1 rfl
  refine ⟨by simp, ?_, ?_⟩
  · intro c hc; rcases List.mem_append.1 hc with hc | hc
    · exact h.2.1 c hc
    · rw [List.mem_singleton.1 hc]; omega
  · rw [h.2.2]
    show (unesc (0 :: D.drop k)).map (fun p => (A ++ p.1, p.2 + (k - 1))) = (unesc (D.drop (k + 1))).map (fun p => (A ++ [0] ++ p.1, p.2 + (k + 1)))
    rw [List.drop_eq_getElem_cons hk, hc, unesc_zero, if_neg (by omega), if_pos rfl]
    cases unesc (D.drop (k + 1)) with
    | none => rfl
    | some p => simp; omega

theorem un_zero {D A : List Nat} {k : Nat} (h : unInv D k false A) (hk : k < D.length) (hc : D[k] = 0) : unInv D (k + 1) true A := by
  refine ⟨by simp, h.2.1, ?_⟩
  rw [h.2.2]
  show (unesc (D.drop k)).map _ = (unesc (0 :: D.drop (k + 1))).map (fun p => (A ++ p.1, p.2 + (k + 1 - 1)))
  rw [List.drop_eq_getElem_cons hk, hc]
  rfl

theorem un_plain {D A : List Nat} {k : Nat} (h : unInv D k false A) (hk : k < D.length) (hc : D[k] ≠ 0) (h256 : D[k] < 256) : unInv D (k + 1) false (A ++ [D[k]]) := by
  refine ⟨by simp, ?_, ?_⟩
  · intro c hc; rcases List.mem_append.1 hc with hc | hc
    · exact h.2.1 c hc
    · rw [List.mem_singleton.1 hc]; exact h256
  · rw [h.2.2]
    show (unesc (D.drop k)).map (fun p => (A ++ p.1, p.2 + k)) = (unesc (D.drop (k + 1))).map (fun p => (A ++ [D[k]] ++ p.1, p.2 + (k + 1)))
    rw [List.drop_eq_getElem_cons hk, unesc_cons hc]
    cases unesc (D.drop (k + 1)) with
    | none => rfl
    | some p => simp; omega

set_option maxHeartbeats 4000000 in
theorem unescape_any (N : Nat) (l : List Nat) (a : Option Addr) (n cap : Nat) (w : World) (hB : Bs N w a l) (hN : N ≤ w.heap.size) (hn : n = l.length) (hmax : n ≤ 1000000) (hcap : n ≤ cap) :
    Calls Try.prog 40 #[.slice a n cap] w (RetU w (unesc l)) := by
  obtain ⟨i0, hi, hz0, hz1, hz2⟩ := info_parts Try.info5
  have HB := Lib.hid hB
  have HL := Lib.hid hn
  clear hB hn
  go_enter Try.func40, Try.ntmps40
  go_wp2
  go_step3
  go_wp2
  go_step3
  go_wp2
  go_loopw [5, 6, 7, 12] (fun v mk sz i wr => ∃ (k : Nat) (mark : Bool) (A : List Nat), k ≤ n ∧ i = .int .i64 k ∧ mk = .bool mark ∧ sz = .int .i64 0 ∧ A.length ≤ k ∧ OwnB wr w.heap.size 5 v A ∧ Hid (unInv l k mark A) ∧ Below w.heap.size w wr) (fun _ _ _ i _ => n - (intOf i).toNat)
  case atStart => exact ⟨0, false, [], by omega, rfl, rfl, rfl, by simp, OwnB.nil _ _ _, ⟨by simp, by simp, by show unesc l = (unesc l).map (fun p => ([] ++ p.1, p.2 + 0)); cases unesc l <;> rfl⟩, Below.refl _ _⟩
  case round =>
    obtain ⟨k, mark, A, hk, rfl, rfl, rfl, hAl, hown, HI, hb⟩ := hrel
    have hsz := hb.size
    by_cases hlt : k < n
    · have hkl : k < l.length := by have := HL.out; omega
      rcases HB.out.2 with hnil | ⟨b, o, rfl, hbN, hcell⟩
      · rw [hnil] at hkl; simp at hkl
      · have hc := (hb.cell (p := ⟨b, o + k, none⟩) (show b < w.heap.size by omega)).trans (hcell k l[k] (List.getElem?_eq_getElem hkl))
        have h256 := HB.out.1 _ (List.getElem_mem hkl)
        obtain ⟨c, hcd⟩ : ∃ c, c = l[k] := ⟨_, rfl⟩
        rw [← hcd] at hc h256
        have HCD := Lib.hid hcd
        clear hcd hcell
        cases mark with
        | true =>
          by_cases h1 : c = 1
          · have HU := Lib.hid (un_done HI.out hkl (by rw [← HCD.out]; exact h1))
            have q1 : ((c : Int) == 1) = true := by simp [h1]
            obtain ⟨a5, c5, rfl, hcap5, hB5, _⟩ := hown.slice
            have hcv := hB5.str A.length c5 rfl
            clear hB5 hown hcap5 h1 HI HCD
            go_wp2
            all_goals (
              (try rw [Exit.noGoto_ret])
              go_ret3
              exact ⟨hb, .inr ⟨A, k + 1, HU.out, rfl⟩⟩)
          · have q1 : ((c : Int) == 1) = false := by simp; omega
            by_cases h2 : c = 255
            · have q2 : ((c : Int) != 255) = false := by simp [h2]
              have HI2 := Lib.hid (un_mark HI.out hkl (by rw [← HCD.out]; exact h2))
              clear h1 h2 HI HCD
              go_wp2_with (at_builtin; refine wpList_app1 rfl _ _ 22 rfl w.heap.size 5 i0 Try.underlying22 hi hz0 hz1 hz2 _ _ wr hown rfl 0 (by omega) _ rfl rfl (by omega) hsz ?_; intro v1 w1 hown1 hb1 hsz1)
              all_goals (
                go_roundw
                case rel => exact ⟨k + 1, false, A ++ [0], by omega, by go_num, rfl, rfl, by simp; omega, hown1, HI2, hb.trans hb1⟩
                case measure => simp [intOf]; omega)
            · have q2 : ((c : Int) != 255) = true := by simp; omega
              have HU := Lib.hid (un_bad HI.out hkl (by rw [← HCD.out]; exact h1) (by rw [← HCD.out]; exact h2))
              obtain ⟨a5, c5, rfl, hcap5, hB5, _⟩ := hown.slice
              have hcv := hB5.str A.length c5 rfl
              clear hB5 hown hcap5 h1 h2 HI HCD
              go_wp2
              all_goals (
                (try rw [Exit.noGoto_ret])
                go_ret3
                exact ⟨hb, .inl ⟨HU.out, _, rfl⟩⟩)
        | false =>
          by_cases h0 : c = 0
          · have q0 : ((c : Int) == 0) = true := by simp [h0]
            have HI2 := Lib.hid (un_zero HI.out hkl (by rw [← HCD.out]; exact h0))
            clear h0 HI HCD
            go_wp2
            all_goals (
              go_roundw
              case rel => exact ⟨k + 1, true, A, by omega, by go_num, rfl, rfl, by omega, hown, HI2, hb⟩
              case measure => simp [intOf]; omega)
          · have q0 : ((c : Int) == 0) = false := by simp; omega
            have HI2 := Lib.hid (un_plain HI.out hkl (by rw [← HCD.out]; exact h0) (by rw [← HCD.out]; exact h256))
            rw [← HCD.out] at HI2
            clear h0 HI HCD
            go_wp2_with (at_builtin; refine wpList_app1 rfl _ _ 22 rfl w.heap.size 5 i0 Try.underlying22 hi hz0 hz1 hz2 _ _ wr hown rfl c h256 _ rfl rfl (by omega) hsz ?_; intro v1 w1 hown1 hb1 hsz1)
            all_goals (
              go_roundw
              case rel => exact ⟨k + 1, false, A ++ [c], by omega, by go_num, rfl, rfl, by simp; omega, hown1, HI2, hb.trans hb1⟩
              case measure => simp [intOf]; omega)
    · have HU := Lib.hid (un_end HI.out (by have := HL.out; omega))
      obtain ⟨a5, c5, rfl, hcap5, hB5, _⟩ := hown.slice
      have hcv := hB5.str A.length c5 rfl
      clear hB5 hown hcap5 HI
      go_wp2
      all_goals (
        (try rw [Exit.noGoto_ret])
        go_ret3
        exact ⟨hb, .inl ⟨HU.out, _, rfl⟩⟩)
end Go.Proofs.Ytpdfdlikijghhaa

/- The walk of the reference's Write of rows. -/
namespace Go.Proofs.Ytpdfdlikijghhaa
open Go.RowKit

theorem encL_take_le (l : List Vl) (k : Nat) : (encL (l.take k)).length ≤ (encL l).length := by
  conv => rhs; rw [← List.take_append_drop k l]
  unfold encL
  rw [List.flatMap_append, List.length_append]; omega

/-- A length of at most five bytes' bytes. -/
theorem encV_len2 (x : Vl) (hs : x.s.size ≤ 1000000) (hf : x.fair) : (encV x).length ≤ 1000020 := by
  have h1 := putL_len10 (zigN_lt x.n hf.2.1.1 hf.2.1.2)
  have h2 := putL_len10 (show x.s.size < 18446744073709551616 by omega)
  unfold encV
  split
  · simp
  · split
    · simp only [List.length_cons]; omega
    · simp only [List.length_cons, textL, List.length_append, bytesOf_len]; omega

end Go.Proofs.Ytpdfdlikijghhaa

/- The walks of record.decode and the reference's one. -/
namespace Go.Proofs.Ytpdfdlikijghhaa
open Go.RowKit

theorem slots2_here (w : World) (T : TypeId) (a0 a1 a2 b0 b1 b2 : Value) : Slot ((w.alloc (.cells #[a0, a1, a2] T)).alloc (.cells #[b0, b1, b2] T)) w.heap.size a0 a1 a2 ∧ Slot ((w.alloc (.cells #[a0, a1, a2] T)).alloc (.cells #[b0, b1, b2] T)) (w.heap.size + 1) b0 b1 b2 := by
  obtain ⟨h1, h2, _⟩ := slots2 w T a0 a1 a2 b0 b1 b2 ((w.alloc (.cells #[a0, a1, a2] T)).alloc (.cells #[b0, b1, b2] T)) (Later.refl _)
  exact ⟨h1, h2⟩

/-- What a value that begins at an index is answered as. -/
def RetD (w : World) (o : Option (Vl × Nat)) (e : Ending) (w' : World) : Prop :=
  Below w.heap.size w w' ∧ ((o = none ∧ ∃ (k n : Int) (s : ByteArray) (m : Int), e = .returned (.tuple #[.agg #[.int .u8 k, .int .i64 n, .string s], .int .i64 m, .bool false])) ∨
    ∃ (x : Vl) (n : Nat), o = some (x, n) ∧ e = .returned (.tuple #[.agg #[.int .u8 x.k, .int .i64 x.n, .string x.s], .int .i64 (n : Int), .bool true]))

theorem RetD.no {w w' : World} {o : Option (Vl × Nat)} (h : o = none) (hb : Below w.heap.size w w') (k n : Int) (s : ByteArray) (m : Int) : RetD w o (.returned (.tuple #[.agg #[.int .u8 k, .int .i64 n, .string s], .int .i64 m, .bool false])) w' :=
  ⟨hb, .inl ⟨h, k, n, s, m, rfl⟩⟩
theorem RetD.yes {w w' : World} {o : Option (Vl × Nat)} {k : Nat} {n : Int} {s : ByteArray} {m : Nat} (h : o = some (⟨k, n, s⟩, m)) (hb : Below w.heap.size w w') : RetD w o (.returned (.tuple #[.agg #[.int .u8 (k : Int), .int .i64 n, .string s], .int .i64 (m : Int), .bool true])) w' :=
  ⟨hb, .inr ⟨_, _, h, rfl⟩⟩

theorem decV_at {l : List Nat} {p k : Nat} (h : l[p]? = some k) : decV l p =
    if k = 0 then some (⟨0, 0, ⟨#[]⟩⟩, p + 1)
    else if k = 1 then (if (getR l ((p + 1 : Nat) : Int)).2.2 = 0 then some (⟨1, zagZ (getR l ((p + 1 : Nat) : Int)).1, ⟨#[]⟩⟩, (getR l ((p + 1 : Nat) : Int)).2.1.toNat) else none)
    else if k = 2 ∨ k = 3 then (if (textR l ((p + 1 : Nat) : Int)).2.2 = 0 then some (⟨k, 0, (textR l ((p + 1 : Nat) : Int)).1⟩, (textR l ((p + 1 : Nat) : Int)).2.1.toNat) else none)
    else none := by
  unfold decV; rw [h]

theorem textR_nat (l : List Nat) (h256 : ∀ c ∈ l, c < 256) (p : Nat) (s : ByteArray) (n : Int) (q : Nat) (h : textR l (p : Nat) = (s, n, q)) : ∃ m : Nat, n = m ∧ m ≤ l.length := by
  by_cases hq : q = 0
  · subst hq
    obtain ⟨m, h1, h2, h3, _⟩ := textR_only l h256 p s n h
    exact ⟨m, h1, h3⟩
  · unfold textR at h
    simp only [] at h
    split at h
    · simp only [Prod.mk.injEq] at h; exact ⟨0, by omega, by omega⟩
    · split at h
      · simp only [Prod.mk.injEq] at h; exact ⟨0, by omega, by omega⟩
      · simp only [Prod.mk.injEq] at h; omega

end Go.Proofs.Ytpdfdlikijghhaa

/- The walk of key.decode. -/
namespace Go.Proofs.Ytpdfdlikijghhaa
open Go.RowKit

set_option maxHeartbeats 1000000 in
theorem kdecode_one (k b o : Nat) (w : World) (hN : b < w.heap.size) (c0 : w.cell? ⟨b, o, none⟩ = some (.int .u8 (k : Int))) (hk256 : k < 256) :
    Calls Try.prog 32 #[.slice (some ⟨b, o, none⟩) 1 1] w (RetD w (decK [k])) := by
  have hBn : ∀ W : World, Bs W.heap.size W (some ⟨b, o, none⟩) [] := fun W => ⟨by simp, .inl rfl⟩
  have hkc : k = 16 ∨ k = 17 ∨ k = 18 ∨ k = 19 ∨ (k ≠ 16 ∧ k ≠ 17 ∧ k ≠ 18 ∧ k ≠ 19) := by omega
  rcases hkc with rfl | rfl | rfl | rfl | ⟨h16, h17, h18, h19⟩
  · have HD2 : Hid (decK [16] = some (⟨0, 0, ⟨#[]⟩⟩, 1)) := rfl
    clear hBn
    go_enter Try.func32, Try.ntmps32
    go_wp2
    refine bodyPost_ret (v := .tuple #[.agg #[.int .u8 ((0 : Nat) : Int), .int .i64 0, .string ⟨#[]⟩], .int .i64 ((1 : Nat) : Int), .bool true]) (by simp [results, Try.results32, go_sem]) rfl (RetD.yes HD2.out ?_)
    repeat (refine Below.setCell ?_ (by first | exact Nat.le_refl _ | (simp; done) | (simp; omega)) _)
    first | exact ((Below.refl _ _).alloc (Nat.le_refl _) _).alloc (by simp) _ | exact (Below.refl _ _).alloc (Nat.le_refl _) _ | exact (((Below.refl _ _).alloc (Nat.le_refl _) _).alloc (by simp) _).alloc (by simp; omega) _
  · have HD2 : Hid (decK [17] = none) := rfl
    have HG := Lib.hid (fun W => readWhole_any _ [] (some ⟨b, o, none⟩) 0 0 W (hBn W) (Nat.le_refl _) rfl (by intro h; cases h) (by omega) (by omega))
    clear hBn
    go_enter Try.func32, Try.ntmps32
    go_wp2_with fail
    refine (HG.out _).mono ?_
    rw [if_neg (show ¬ 8 ≤ 0 by omega), decide_eq_false (show ¬ 8 ≤ 0 by omega)]
    rintro e w1 ⟨rfl, hb⟩
    obtain ⟨S2, _⟩ := slots1 _ _ _ _ _ _ hb
    have hw : Below w.heap.size w w1 := (Below.box _ _).trans (hb.mono (by simp))
    obtain ⟨p0, p1, p2, p3, p4, p5⟩ := S2
    clear HG hb
    go_wp2
    refine bodyPost_ret (v := .tuple #[.agg #[.int .u8 1, .int .i64 0, .string ⟨#[]⟩], .int .i64 9, .bool false]) (by simp [results, Try.results32, go_sem, *]) rfl (RetD.no HD2.out ?_ _ _ _ _)
    repeat (refine Below.setCell ?_ (by first | exact Nat.le_refl _ | (simp; done) | (simp; omega)) _)
    exact hw
  · have HD2 : Hid (decK [18] = none) := rfl
    have HG := Lib.hid (fun W => unescape_any _ [] (some ⟨b, o, none⟩) 0 0 W (hBn W) (Nat.le_refl _) rfl (by omega) (by omega))
    clear hBn
    go_enter Try.func32, Try.ntmps32
    go_wp2_with fail
    refine (HG.out _).mono ?_
    rintro e w1 ⟨hb, ⟨_, s, rfl⟩ | ⟨s, m, hsome, rfl⟩⟩
    · obtain ⟨S2, _⟩ := slots1 _ _ _ _ _ _ hb
      have hw : Below w.heap.size w w1 := (Below.box _ _).trans (hb.mono (by simp))
      obtain ⟨p0, p1, p2, p3, p4, p5⟩ := S2
      clear HG hb
      go_wp2
      refine bodyPost_ret (v := .tuple #[.agg #[.int .u8 2, .int .i64 0, .string s], .int .i64 1, .bool false]) (by simp [results, Try.results32, go_sem, *]) rfl (RetD.no HD2.out ?_ _ _ _ _)
      repeat (refine Below.setCell ?_ (by first | exact Nat.le_refl _ | (simp; done) | (simp; omega)) _)
      exact hw
    · exact absurd hsome (by simp [unesc])
  · have HD2 : Hid (decK [19] = none) := rfl
    have HG := Lib.hid (fun W => unescape_any _ [] (some ⟨b, o, none⟩) 0 0 W (hBn W) (Nat.le_refl _) rfl (by omega) (by omega))
    clear hBn
    go_enter Try.func32, Try.ntmps32
    go_wp2_with fail
    refine (HG.out _).mono ?_
    rintro e w1 ⟨hb, ⟨_, s, rfl⟩ | ⟨s, m, hsome, rfl⟩⟩
    · obtain ⟨S2, _⟩ := slots1 _ _ _ _ _ _ hb
      have hw : Below w.heap.size w w1 := (Below.box _ _).trans (hb.mono (by simp))
      obtain ⟨p0, p1, p2, p3, p4, p5⟩ := S2
      clear HG hb
      go_wp2
      refine bodyPost_ret (v := .tuple #[.agg #[.int .u8 3, .int .i64 0, .string s], .int .i64 1, .bool false]) (by simp [results, Try.results32, go_sem, *]) rfl (RetD.no HD2.out ?_ _ _ _ _)
      repeat (refine Below.setCell ?_ (by first | exact Nat.le_refl _ | (simp; done) | (simp; omega)) _)
      exact hw
    · exact absurd hsome (by simp [unesc])
  · have HD2 : Hid (decK [k] = none) := by rw [decK, if_neg h16, if_neg h17, if_neg (by omega)]; rfl
    have e0 : (((k : Int) - 16) % 256 == 0) = false := by simp; omega
    have e1 : (((k : Int) - 16) % 256 == 1) = false := by simp; omega
    have e2 : (((k : Int) - 16) % 256 == 2) = false := by simp; omega
    have e3 : (((k : Int) - 16) % 256 == 3) = false := by simp; omega
    clear hBn
    go_enter Try.func32, Try.ntmps32
    go_wp2
    refine bodyPost_ret (v := .tuple #[.agg #[.int .u8 0, .int .i64 0, .string ⟨#[]⟩], .int .i64 0, .bool false]) (by simp [results, Try.results32, go_sem]) rfl (RetD.no HD2.out ?_ _ _ _ _)
    repeat (refine Below.setCell ?_ (by first | exact Nat.le_refl _ | (simp; done) | (simp; omega)) _)
    first | exact ((Below.refl _ _).alloc (Nat.le_refl _) _).alloc (by simp) _ | exact (Below.refl _ _).alloc (Nat.le_refl _) _ | exact (((Below.refl _ _).alloc (Nat.le_refl _) _).alloc (by simp) _).alloc (by simp; omega) _

set_option maxHeartbeats 1000000 in
theorem kdecode_any (l : List Nat) (a : Option Addr) (len cap : Nat) (w : World) (hB : Bs w.heap.size w a l) (hlen : len = l.length) (hcap : len ≤ cap) (hmax : len ≤ 1000000) (hpos : 0 < len) :
    Calls Try.prog 32 #[.slice a len cap] w (RetD w (decK l)) := by
  have HB := Lib.hid hB
  have HL := Lib.hid hlen
  obtain ⟨h256, hcell⟩ := hB
  rcases hcell with hnil | ⟨b, o, rfl, hN, hcell⟩
  · rw [hnil] at hlen; simp at hlen; omega
  · obtain ⟨k, r, hkr⟩ : ∃ k r, l = k :: r := by
      cases l with
      | nil => simp at hlen; omega
      | cons k r => exact ⟨k, r, rfl⟩
    have c0 := hcell 0 k (by rw [hkr]; rfl)
    simp only [Nat.add_zero] at c0
    have hk256 := h256 k (by rw [hkr]; simp)
    by_cases hc1 : cap = 1
    · have hl1 : len = 1 := by omega
      subst hc1 hl1
      have hr : r = [] := by rw [hkr] at hlen; simpa using hlen
      rw [hkr, hr]
      exact kdecode_one k b o w hN c0 hk256
    have hc2 : 1 < cap := by omega
    clear hc1
    have hB1 : Bs w.heap.size w (some ⟨b, o + 1, none⟩) r := by
      refine ⟨fun c hc => h256 c (by rw [hkr]; simp [hc]), .inr ⟨b, o + 1, rfl, hN, fun i c hi => ?_⟩⟩
      have := hcell (i + 1) c (by rw [hkr]; simpa using hi)
      rw [show o + 1 + i = o + (i + 1) by omega]; exact this
    have HB1 := Lib.hid hB1
    have HR : Hid (len - 1 = r.length) := by rw [hlen, hkr]; simp [Hid]
    have HD : Hid (decK l = decK (k :: r)) := by rw [hkr]; rfl
    clear hcell h256 hlen hkr hB1 HB HL
    have HRW := Lib.hid (fun W (hW : Below w.heap.size w W) => readWhole_any w.heap.size r (some ⟨b, o + 1, none⟩) (len - 1) (cap - 1) W (HB1.out.below hW) hW.size HR.out (by intro h; cases h) (by omega) (by omega))
    have HUN := Lib.hid (fun W (hW : Below w.heap.size w W) => unescape_any w.heap.size r (some ⟨b, o + 1, none⟩) (len - 1) (cap - 1) W (HB1.out.below hW) hW.size HR.out (by omega) (by omega))
    clear HB1
    have hkc : k = 16 ∨ k = 17 ∨ k = 18 ∨ k = 19 ∨ (k ≠ 16 ∧ k ≠ 17 ∧ k ≠ 18 ∧ k ≠ 19) := by omega
    rcases hkc with rfl | rfl | rfl | rfl | ⟨h16, h17, h18, h19⟩
    · have HD2 : Hid (decK l = some (⟨0, 0, ⟨#[]⟩⟩, 1)) := HD.out
      clear HD HRW HUN
      go_enter Try.func32, Try.ntmps32
      go_wp2
      refine bodyPost_ret (v := .tuple #[.agg #[.int .u8 ((0 : Nat) : Int), .int .i64 0, .string ⟨#[]⟩], .int .i64 ((1 : Nat) : Int), .bool true]) (by simp [results, Try.results32, go_sem]) rfl (RetD.yes HD2.out ?_)
      repeat (refine Below.setCell ?_ (by first | exact Nat.le_refl _ | (simp; done) | (simp; omega)) _)
      first | exact ((Below.refl _ _).alloc (Nat.le_refl _) _).alloc (by simp) _ | exact (Below.refl _ _).alloc (Nat.le_refl _) _ | exact (((Below.refl _ _).alloc (Nat.le_refl _) _).alloc (by simp) _).alloc (by simp; omega) _
    · have HG := HRW
      by_cases h8 : 8 ≤ len - 1
      · have HD2 : Hid (decK l = some (⟨1, (unB (r.take 8) : Int) - 9223372036854775808, ⟨#[]⟩⟩, 9)) := by
          rw [HD.out, decK, if_neg (by omega), if_pos rfl, if_pos (by rw [← HR.out]; exact h8)]; rfl
        rw [if_pos h8, decide_eq_true h8] at HG
        clear HD HRW HUN
        go_enter Try.func32, Try.ntmps32
        go_wp2_with fail
        refine (HG.out _ (Below.box _ _)).mono ?_
        rintro e w1 ⟨rfl, hb⟩
        obtain ⟨S2, _⟩ := slots1 _ _ _ _ _ _ hb
        have hw : Below w.heap.size w w1 := (Below.box _ _).trans (hb.mono (by simp))
        obtain ⟨p0, p1, p2, p3, p4, p5⟩ := S2
        clear HG hb
        generalize unB (r.take 8) = V at *
        go_wp2
        refine bodyPost_ret (v := .tuple #[.agg #[.int .u8 ((1 : Nat) : Int), .int .i64 ((V : Int) - 9223372036854775808), .string ⟨#[]⟩], .int .i64 ((9 : Nat) : Int), .bool true]) (by simp [results, Try.results32, go_sem, *]) rfl (RetD.yes HD2.out ?_)
        repeat (refine Below.setCell ?_ (by first | exact Nat.le_refl _ | (simp; done) | (simp; omega)) _)
        exact hw
      · have HD2 : Hid (decK l = none) := by
          rw [HD.out, decK, if_neg (by omega), if_pos rfl, if_neg (by rw [← HR.out]; exact h8)]; rfl
        rw [if_neg h8, decide_eq_false h8] at HG
        clear HD HRW HUN
        go_enter Try.func32, Try.ntmps32
        go_wp2_with fail
        refine (HG.out _ (Below.box _ _)).mono ?_
        rintro e w1 ⟨rfl, hb⟩
        obtain ⟨S2, _⟩ := slots1 _ _ _ _ _ _ hb
        have hw : Below w.heap.size w w1 := (Below.box _ _).trans (hb.mono (by simp))
        obtain ⟨p0, p1, p2, p3, p4, p5⟩ := S2
        clear HG hb
        go_wp2
        refine bodyPost_ret (v := .tuple #[.agg #[.int .u8 1, .int .i64 0, .string ⟨#[]⟩], .int .i64 9, .bool false]) (by simp [results, Try.results32, go_sem, *]) rfl (RetD.no HD2.out ?_ _ _ _ _)
        repeat (refine Below.setCell ?_ (by first | exact Nat.le_refl _ | (simp; done) | (simp; omega)) _)
        exact hw
    · have HG := HUN
      clear HRW HUN
      go_enter Try.func32, Try.ntmps32
      go_wp2_with fail
      refine (HG.out _ (Below.box _ _)).mono ?_
      rintro e w1 ⟨hb, ⟨hnone, s, rfl⟩ | ⟨s, m, hsome, rfl⟩⟩
      · have HD2 : Hid (decK l = none) := by rw [HD.out, decK, if_neg (by omega), if_neg (by omega), if_pos (by omega), hnone]; rfl
        obtain ⟨S2, _⟩ := slots1 _ _ _ _ _ _ hb
        have hw : Below w.heap.size w w1 := (Below.box _ _).trans (hb.mono (by simp))
        obtain ⟨p0, p1, p2, p3, p4, p5⟩ := S2
        clear HG hb HD hnone
        go_wp2
        refine bodyPost_ret (v := .tuple #[.agg #[.int .u8 2, .int .i64 0, .string s], .int .i64 1, .bool false]) (by simp [results, Try.results32, go_sem, *]) rfl (RetD.no HD2.out ?_ _ _ _ _)
        repeat (refine Below.setCell ?_ (by first | exact Nat.le_refl _ | (simp; done) | (simp; omega)) _)
        exact hw
      · have HD2 : Hid (decK l = some (⟨2, 0, strN s⟩, 1 + m)) := by rw [HD.out, decK, if_neg (by omega), if_neg (by omega), if_pos (by omega), hsome]; rfl
        obtain ⟨hm1, _⟩ := esc_unesc r.length r (Nat.le_refl _) s m hsome
        have hm : m ≤ 1000000 := by have := HR.out; omega
        obtain ⟨S2, _⟩ := slots1 _ _ _ _ _ _ hb
        have hw : Below w.heap.size w w1 := (Below.box _ _).trans (hb.mono (by simp))
        obtain ⟨p0, p1, p2, p3, p4, p5⟩ := S2
        clear HG hb HD hsome hm1
        go_wp2
        refine bodyPost_ret (v := .tuple #[.agg #[.int .u8 ((2 : Nat) : Int), .int .i64 0, .string (strN s)], .int .i64 ((1 + m : Nat) : Int), .bool true]) (by simp [results, Try.results32, go_sem, *]) rfl (RetD.yes HD2.out ?_)
        repeat (refine Below.setCell ?_ (by first | exact Nat.le_refl _ | (simp; done) | (simp; omega)) _)
        exact hw
    · have HG := HUN
      clear HRW HUN
      go_enter Try.func32, Try.ntmps32
      go_wp2_with fail
      refine (HG.out _ (Below.box _ _)).mono ?_
      rintro e w1 ⟨hb, ⟨hnone, s, rfl⟩ | ⟨s, m, hsome, rfl⟩⟩
      · have HD2 : Hid (decK l = none) := by rw [HD.out, decK, if_neg (by omega), if_neg (by omega), if_pos (by omega), hnone]; rfl
        obtain ⟨S2, _⟩ := slots1 _ _ _ _ _ _ hb
        have hw : Below w.heap.size w w1 := (Below.box _ _).trans (hb.mono (by simp))
        obtain ⟨p0, p1, p2, p3, p4, p5⟩ := S2
        clear HG hb HD hnone
        go_wp2
        refine bodyPost_ret (v := .tuple #[.agg #[.int .u8 3, .int .i64 0, .string s], .int .i64 1, .bool false]) (by simp [results, Try.results32, go_sem, *]) rfl (RetD.no HD2.out ?_ _ _ _ _)
        repeat (refine Below.setCell ?_ (by first | exact Nat.le_refl _ | (simp; done) | (simp; omega)) _)
        exact hw
      · have HD2 : Hid (decK l = some (⟨3, 0, strN s⟩, 1 + m)) := by rw [HD.out, decK, if_neg (by omega), if_neg (by omega), if_pos (by omega), hsome]; rfl
        obtain ⟨hm1, _⟩ := esc_unesc r.length r (Nat.le_refl _) s m hsome
        have hm : m ≤ 1000000 := by have := HR.out; omega
        obtain ⟨S2, _⟩ := slots1 _ _ _ _ _ _ hb
        have hw : Below w.heap.size w w1 := (Below.box _ _).trans (hb.mono (by simp))
        obtain ⟨p0, p1, p2, p3, p4, p5⟩ := S2
        clear HG hb HD hsome hm1
        go_wp2
        refine bodyPost_ret (v := .tuple #[.agg #[.int .u8 ((3 : Nat) : Int), .int .i64 0, .string (strN s)], .int .i64 ((1 + m : Nat) : Int), .bool true]) (by simp [results, Try.results32, go_sem, *]) rfl (RetD.yes HD2.out ?_)
        repeat (refine Below.setCell ?_ (by first | exact Nat.le_refl _ | (simp; done) | (simp; omega)) _)
        exact hw
    · have HD2 : Hid (decK l = none) := by rw [HD.out, decK, if_neg h16, if_neg h17, if_neg (by omega)]; rfl
      have e0 : (((k : Int) - 16) % 256 == 0) = false := by simp; omega
      have e1 : (((k : Int) - 16) % 256 == 1) = false := by simp; omega
      have e2 : (((k : Int) - 16) % 256 == 2) = false := by simp; omega
      have e3 : (((k : Int) - 16) % 256 == 3) = false := by simp; omega
      clear HD HRW HUN
      go_enter Try.func32, Try.ntmps32
      go_wp2
      refine bodyPost_ret (v := .tuple #[.agg #[.int .u8 0, .int .i64 0, .string ⟨#[]⟩], .int .i64 0, .bool false]) (by simp [results, Try.results32, go_sem]) rfl (RetD.no HD2.out ?_ _ _ _ _)
      repeat (refine Below.setCell ?_ (by first | exact Nat.le_refl _ | (simp; done) | (simp; omega)) _)
      first | exact ((Below.refl _ _).alloc (Nat.le_refl _) _).alloc (by simp) _ | exact (Below.refl _ _).alloc (Nat.le_refl _) _ | exact (((Below.refl _ _).alloc (Nat.le_refl _) _).alloc (by simp) _).alloc (by simp; omega) _
end Go.Proofs.Ytpdfdlikijghhaa
