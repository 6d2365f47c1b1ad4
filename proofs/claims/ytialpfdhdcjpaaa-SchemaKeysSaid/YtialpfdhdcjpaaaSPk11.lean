/- Several texts of one proof, one behind the other. -/
import Derived.Test.YtialpfdhdcjpaaaSPk10
set_option linter.unusedSimpArgs false
set_option linter.unusedVariables false

/- The walk of key.readWhole. -/
set_option linter.unusedSimpArgs false
set_option linter.unusedVariables false
set_option maxRecDepth 100000
namespace Go.Proofs.Ytialpfdhdcjpaaa
open Go.RowKit

end Go.Proofs.Ytialpfdhdcjpaaa

/- The walks of key.encode and key.Write. -/
set_option linter.unusedSimpArgs false
set_option linter.unusedVariables false
set_option maxRecDepth 100000
namespace Go.Proofs.Ytialpfdhdcjpaaa
open Go.RowKit

theorem Bs.arrK (w : World) (T : TypeId) (l : List Nat) (h256 : ∀ c ∈ l, c < 256) : Bs (w.heap.size + 1) (w.alloc (.cells (l.map fun (c : Nat) => Value.int .u8 (c : Int)).toArray T)) (some ⟨w.heap.size, 0, none⟩) l :=
  Bs.new w l h256 _ T (by intro i c hi; simp [hi])

theorem esc_ne (s : ByteArray) : escL (bytesOf s) ++ [0, 1] ≠ [] := by simp

set_option maxHeartbeats 2000000 in
theorem kencode_any (x : Vl) (w : World) (hr : x.right = true) (hn1 : -9223372036854775808 ≤ x.n) (hn2 : x.n ≤ 9223372036854775807) (hs : x.s.size ≤ 1000000) :
    Calls Try.prog 72 #[.agg #[.int .u8 x.k, .int .i64 x.n, .string x.s]] w (RetB w (encK x)) := by
  obtain ⟨i0, hi, hz0, hz1, hz2⟩ := info_parts Try.info5
  rcases right_kind hr with h | h | ⟨hk, h⟩
  · rw [h]
    clear hn1 hn2 hs hr h
    have hown := OwnB.new (w.alloc (.cells #[.int .u8 0, .int .i64 0, .string ⟨#[]⟩] 52)) w.heap.size 5 16 16 (w.heap.size + 1) rfl (by omega) (by simp) (by simp)
    go_enter Try.func72, Try.ntmps72
    go_wp2
    go_ret
    exact RetB.of ⟨_, rfl, hown, ((Below.refl _ _).alloc (Nat.le_refl _) _).alloc (by simp) _⟩
  · obtain ⟨k, n, s⟩ := x
    simp only [Vl.mk.injEq] at h
    obtain ⟨rfl, -, rfl⟩ := h
    simp only at hn1 hn2
    clear hs hr
    have HK := Lib.hid (fun W => Whole_any n W hn1 hn2)
    have h256 := whole8_lt (up64 n)
    have HE : Hid (encK ⟨1, n, ⟨#[]⟩⟩ = [17] ++ whole8 (up64 n)) := rfl
    obtain ⟨L, hL⟩ : ∃ L, whole8 (up64 n) = L := ⟨_, rfl⟩
    have h8 : L.length = 8 := by rw [← hL]; rfl
    rw [hL] at HK h256 HE
    clear hL hn1 hn2
    match L, h8 with
    | [b0, b1, b2, b3, b4, b5, b6, b7], _ =>
      have HL256 := Lib.hid h256
      clear h256
      go_enter Try.func72, Try.ntmps72
      go_wp2_with fail
      have hown := OwnB.new (w.alloc (.cells #[.int .u8 1, .int .i64 n, .string ⟨#[]⟩] 52)) w.heap.size 5 17 17 (w.heap.size + 1) rfl (by omega) (by simp) (by simp)
      have hw : Below w.heap.size w ((w.alloc (.cells #[.int .u8 1, .int .i64 n, .string ⟨#[]⟩] 52)).alloc (.cells #[.int .u8 17] 5)) := ((Below.refl _ _).alloc (Nat.le_refl _) _).alloc (by simp) _
      refine (HK.out _).mono ?_
      rintro e w2 ⟨rfl, hb2⟩
      rw [show aggB [b0, b1, b2, b3, b4, b5, b6, b7] = .agg #[.int .u8 (b0 : Int), .int .u8 (b1 : Int), .int .u8 (b2 : Int), .int .u8 (b3 : Int), .int .u8 (b4 : Int), .int .u8 (b5 : Int), .int .u8 (b6 : Int), .int .u8 (b7 : Int)] from rfl]
      have hown2 := hown.below (Nat.le_refl _) hb2
      replace hw := hw.trans (hb2.mono hw.size)
      have hsz := hw.size
      clear hown hb2 HK
      have hB : Bs (w2.heap.size + 1) (w2.alloc (.cells #[.int .u8 (b0 : Int), .int .u8 (b1 : Int), .int .u8 (b2 : Int), .int .u8 (b3 : Int), .int .u8 (b4 : Int), .int .u8 (b5 : Int), .int .u8 (b6 : Int), .int .u8 (b7 : Int)] 124)) (some ⟨w2.heap.size, 0, none⟩) [b0, b1, b2, b3, b4, b5, b6, b7] := Bs.arrK w2 124 _ HL256.out
      have hown3 := hown2.below (Nat.le_refl _) (Below.box w2 (.cells #[.int .u8 (b0 : Int), .int .u8 (b1 : Int), .int .u8 (b2 : Int), .int .u8 (b3 : Int), .int .u8 (b4 : Int), .int .u8 (b5 : Int), .int .u8 (b6 : Int), .int .u8 (b7 : Int)] 124))
      have hw3 := hw.alloc hsz (.cells #[.int .u8 (b0 : Int), .int .u8 (b1 : Int), .int .u8 (b2 : Int), .int .u8 (b3 : Int), .int .u8 (b4 : Int), .int .u8 (b5 : Int), .int .u8 (b6 : Int), .int .u8 (b7 : Int)] 124)
      have hsz3 := hw3.size
      clear hown2
      go_wp2_with (at_builtin; refine wpList_appB rfl _ _ 32 rfl w.heap.size 5 i0 Try.underlying32 hi hz0 hz1 hz2 _ _ _ hown3 rfl (w2.heap.size + 1) (some ⟨w2.heap.size, 0, none⟩) [b0, b1, b2, b3, b4, b5, b6, b7] 8 8 hB (by simp) rfl rfl (by simp) hsz3 ?_; intro v4 w4 hown4 hb4 hsz4)
      go_ret
      rw [HE.out]
      exact RetB.of ⟨_, rfl, hown4, hw3.trans hb4⟩
  · obtain ⟨k, n, s⟩ := x
    simp only [Vl.mk.injEq] at h
    obtain ⟨-, rfl, -⟩ := h
    simp only at hk hs
    clear hn1 hn2 hr
    have hel := escL_len (bytesOf s)
    rw [bytesOf_len] at hel
    have hne := esc_ne s
    have HE : ∀ k, k = 2 ∨ k = 3 → encK ⟨k, 0, s⟩ = [16 + k] ++ (escL (bytesOf s) ++ [0, 1]) := by
      intro k hk; unfold encK; rw [if_neg (by simp only; omega), if_neg (by simp only; omega)]; rfl
    have HE := Lib.hid HE
    obtain ⟨L, hL⟩ : ∃ L, escL (bytesOf s) ++ [0, 1] = L := ⟨_, rfl⟩
    have hLl : L.length ≤ 3000000 := by rw [← hL, List.length_append]; simp only [List.length_cons, List.length_nil]; omega
    have HEs := Lib.hid (fun W => escape_any s W hs)
    rw [hL] at HE HEs hne
    clear hL hel
    rcases hk with rfl | rfl
    all_goals
      go_enter Try.func72, Try.ntmps72
      go_wp2_with fail
    · have hown := OwnB.new (w.alloc (.cells #[.int .u8 2, .int .i64 0, .string s] 52)) w.heap.size 5 18 18 (w.heap.size + 1) rfl (by omega) (by simp) (by simp)
      have hw : Below w.heap.size w ((w.alloc (.cells #[.int .u8 2, .int .i64 0, .string s] 52)).alloc (.cells #[.int .u8 18] 5)) := ((Below.refl _ _).alloc (Nat.le_refl _) _).alloc (by simp) _
      refine (HEs.out _).mono ?_
      rintro e w2 ⟨a2, c2, rfl, hcap2, hB2, hb2⟩
      have hown2 := hown.below (Nat.le_refl _) hb2
      replace hw := hw.trans (hb2.mono hw.size)
      have hsz := hw.size
      clear hown hb2
      go_wp2_with (at_builtin; refine wpList_appB rfl _ _ 32 rfl w.heap.size 5 i0 Try.underlying32 hi hz0 hz1 hz2 _ _ w2 hown2 rfl w2.heap.size a2 L L.length c2 hB2 hne rfl rfl (by simp; omega) hsz ?_; intro v3 w3 hown3 hb3 hsz3)
      go_ret
      rw [HE.out 2 (.inl rfl)]
      exact RetB.of ⟨_, rfl, hown3, hw.trans hb3⟩
    · have hown := OwnB.new (w.alloc (.cells #[.int .u8 3, .int .i64 0, .string s] 52)) w.heap.size 5 19 19 (w.heap.size + 1) rfl (by omega) (by simp) (by simp)
      have hw : Below w.heap.size w ((w.alloc (.cells #[.int .u8 3, .int .i64 0, .string s] 52)).alloc (.cells #[.int .u8 19] 5)) := ((Below.refl _ _).alloc (Nat.le_refl _) _).alloc (by simp) _
      refine (HEs.out _).mono ?_
      rintro e w2 ⟨a2, c2, rfl, hcap2, hB2, hb2⟩
      have hown2 := hown.below (Nat.le_refl _) hb2
      replace hw := hw.trans (hb2.mono hw.size)
      have hsz := hw.size
      clear hown hb2
      go_wp2_with (at_builtin; refine wpList_appB rfl _ _ 32 rfl w.heap.size 5 i0 Try.underlying32 hi hz0 hz1 hz2 _ _ w2 hown2 rfl w2.heap.size a2 L L.length c2 hB2 hne rfl rfl (by simp; omega) hsz ?_; intro v3 w3 hown3 hb3 hsz3)
      go_ret
      rw [HE.out 3 (.inr rfl)]
      exact RetB.of ⟨_, rfl, hown3, hw.trans hb3⟩

theorem encK_len (x : Vl) (hs : x.s.size ≤ 100) : (encK x).length ≤ 300 := by
  have h := escL_len (bytesOf x.s)
  rw [bytesOf_len] at h
  unfold encK
  split
  · simp
  · split
    · simp [whole8]
    · simp only [List.length_cons, List.length_append, List.length_nil]; omega

theorem keyL_len (l : List Vl) (hs : ∀ x ∈ l, x.s.size ≤ 100) : (keyL l).length ≤ l.length * 300 := by
  induction l with
  | nil => simp [keyL]
  | cons x r ih =>
    have h1 := ih (fun y hy => hs y (by simp [hy]))
    have h2 := encK_len x (hs x (by simp))
    rw [keyL_cons, List.length_append, List.length_cons]
    omega

theorem escL_ge (l : List Nat) : l.length ≤ (escL l).length := by
  induction l with
  | nil => simp
  | cons c r ih =>
    by_cases hc : c = 0
    · subst hc; rw [escL_cons0]; simp; omega
    · rw [escL_cons hc]; simp; omega

theorem keyL_great (l : List Vl) (x : Vl) (hx : x ∈ l) (hr : x.right = true) (hs : 100 < x.s.size) : 100 < (keyL l).length := by
  have h1 : x.s.size ≤ (encK x).length := by
    rcases right_kind hr with h | h | ⟨hk, h⟩
    · rw [h] at hs; simp [ByteArray.size] at hs
    · rw [h] at hs; simp [ByteArray.size] at hs
    · have := escL_ge (bytesOf x.s)
      rw [bytesOf_len] at this
      unfold encK
      rw [if_neg (by omega), if_neg (by omega)]
      simp only [List.length_cons, List.length_append]; omega
  have h2 : (encK x).length ≤ (keyL l).length := by
    obtain ⟨a, b, rfl⟩ := List.append_of_mem hx
    unfold keyL
    rw [List.flatMap_append, List.flatMap_cons]
    simp only [List.length_append]; omega
  omega

theorem writeK_bad {l : List Vl} (h : rowOk l = false) : writeK l = ([], 3) := by unfold writeK; rw [if_pos h]
theorem writeK_long {l : List Vl} (h : rowOk l = true) (h2 : 100 < (keyL l).length) : writeK l = ([], 2) := by
  unfold writeK; rw [if_neg (by rw [h]; simp), if_pos h2]
theorem writeK_good {l : List Vl} (h : rowOk l = true) (h2 : ¬ 100 < (keyL l).length) : writeK l = (keyL l, 0) := by
  unfold writeK; rw [if_neg (by rw [h]; simp), if_neg h2]

theorem encK_ne (x : Vl) : encK x ≠ [] := by intro h; have := encK_pos x; rw [h] at this; simp at this

set_option maxHeartbeats 2000000 in
theorem KWrite_any (l : List Vl) (a : Option Addr) (len cap : Nat) (w : World) (hV : Vs w.heap.size w a l) (hlen : len = l.length) (hmax : len ≤ 140737488355328) (hf : ∀ x ∈ l, x.fair) :
    Calls Try.prog 50 #[.slice a len cap] w (RetBE w (writeK l)) := by
  have HI := Lib.hid (isTuple_any l a len cap w hV hlen hmax)
  cases hro : rowOk l with
  | false =>
    rw [hro] at HI
    rw [writeK_bad hro]
    clear hV hlen hf hro
    go_enter Try.func50, Try.ntmps50
    go_wp2_with fail
    refine HI.out.mono ?_
    rintro e w1 ⟨rfl, hb⟩
    go_wp2
    go_ret2
    exact ⟨none, 0, rfl, by simp, ⟨by simp, .inl rfl⟩, hb⟩
  | true =>
    rw [hro] at HI
    obtain ⟨i0, hi, hz0, hz1, hz2⟩ := info_parts Try.info5
    obtain ⟨h16, hright⟩ := (rowOk_iff l).1 hro
    have hlen16 : len ≤ 16 := by omega
    have HV := Lib.hid hV
    have HL := Lib.hid hlen
    have HF := Lib.hid hf
    have HR := Lib.hid hright
    have HRo := Lib.hid hro
    clear hV hlen hf hright hro h16
    go_enter Try.func50, Try.ntmps50
    go_wp2_with fail
    refine HI.out.mono ?_
    rintro e w1 ⟨rfl, hb1⟩
    clear HI
    go_wp2
    go_loopw [4, 12] (fun v i wr => ∃ k : Nat, k ≤ len ∧ i = .int .i64 k ∧ OwnB wr w.heap.size 5 v (keyL (l.take k)) ∧ Hid (∀ x ∈ l.take k, x.s.size ≤ 100) ∧ Below w.heap.size w wr) (fun _ i _ => len - (intOf i).toNat)
    case atStart => exact ⟨0, by omega, rfl, OwnB.nil _ _ _, by simp [Hid], hb1⟩
    case round =>
      obtain ⟨k, hk, rfl, hown, HS, hb⟩ := hrel
      have hsz := hb.size
      by_cases hlt : k < len
      · have hkl : k < l.length := by have := HL.out; omega
        obtain ⟨b, o, rfl, hbN, hc⟩ := HV.out.at_ hkl
        obtain ⟨c0, c1, c2⟩ := hc.below hb hbN
        have hfy := HF.out _ (List.getElem_mem hkl)
        have hry := HR.out _ (List.getElem_mem hkl)
        have HT := Lib.hid (keyL_take l k hkl)
        have hlen1 := keyL_len (l.take k) HS.out
        rw [List.length_take] at hlen1
        have hlen2 : (keyL (l.take k)).length ≤ 200000 := by
          have : min k l.length ≤ 16 := by omega
          omega
        have HG := Lib.hid (fun (h : 100 < l[k].s.size) => keyL_great l l[k] (List.getElem_mem hkl) hry h)
        have HSn : Hid (l[k].s.size ≤ 100 → ∀ x ∈ l.take (k + 1), x.s.size ≤ 100) := by
          intro h x hx
          rw [List.take_succ_eq_append_getElem hkl] at hx
          rcases List.mem_append.1 hx with hx | hx
          · exact HS.out x hx
          · rw [List.mem_singleton.1 hx]; exact h
        clear hlen1
        obtain ⟨y, hy⟩ : ∃ y, y = l[k] := ⟨_, rfl⟩
        rw [← hy] at c0 c1 c2 HT HG HSn hfy hry
        clear hy hc
        by_cases hbig : 100 < y.s.size
        · have HW : Hid (writeK l = ([], 2)) := writeK_long HRo.out (by have := HG.out hbig; omega)
          go_wp2
          go_ret2
          rw [HW.out]
          exact ⟨none, 0, rfl, by simp, ⟨by simp, .inl rfl⟩, hb.trans (((Below.refl _ _).alloc (Nat.le_refl _) _).mono hsz)⟩
        · have q1 : decide ((100 : Int) < (y.s.size : Int)) = false := by simp; omega
          have hel := encK_len y (by omega)
          have hne := encK_ne y
          have HE := Lib.hid (fun W => kencode_any y W hry hfy.2.1.1 hfy.2.1.2 (by omega))
          have HSn2 : Hid (∀ x ∈ l.take (k + 1), x.s.size ≤ 100) := HSn.out (by omega)
          clear hfy hry HG HSn hbig
          go_wp2_with fail
          refine (HE.out _).mono ?_
          rintro e w3 ⟨a3, c3, rfl, hcap3, hB3, hb3⟩
          clear HE
          have hown3 := (hown.below (Nat.le_refl _) ((Below.refl _ _).alloc (Nat.le_refl _) _)).below (N := wr.heap.size + 1) (by simp) (by simpa using hb3)
          have hb4 : Below w.heap.size w w3 := hb.trans (Below.trans ((Below.refl _ _).alloc hsz _) (hb3.mono (by simp; omega)))
          have hsz4 := hb4.size
          clear hb3 hown
          go_wp2_with (at_builtin; refine wpList_appB rfl _ _ 32 rfl w.heap.size 5 i0 Try.underlying32 hi hz0 hz1 hz2 _ _ w3 hown3 rfl w3.heap.size a3 (encK y) (encK y).length c3 hB3 hne rfl rfl (by omega) hsz4 ?_; intro v5 w5 hown5 hb5 hsz5)
          go_roundw
          case rel => exact ⟨k + 1, by omega, by go_num, by rw [HT.out]; exact hown5, HSn2, hb4.trans hb5⟩
          case measure => simp [intOf]; omega
      · have hall : l.take k = l := List.take_of_length_le (by have := HL.out; omega)
        have hlen1 := keyL_len (l.take k) HS.out
        rw [hall] at hown hlen1
        clear hall
        obtain ⟨n, hn⟩ : ∃ n, n = (keyL l).length := ⟨_, rfl⟩
        obtain ⟨a5, c5, rfl, hcap5, hB5, _⟩ := hown.slice
        rw [← hn] at hcap5 hlen1 ⊢
        have hnl : n ≤ 200000 := by have := HL.out; omega
        have HN := Lib.hid hn
        have HB5 := Lib.hid hB5
        clear hn hown hB5 hlen1
        by_cases hbig : 100 < n
        · have HW : Hid (writeK l = ([], 2)) := writeK_long HRo.out (by have := HN.out; omega)
          go_wp2
          go_ret2
          rw [HW.out]
          exact ⟨none, 0, rfl, by simp, ⟨by simp, .inl rfl⟩, hb⟩
        · have q1 : decide ((100 : Int) < (n : Int)) = false := by simp; omega
          have HW : Hid (writeK l = (keyL l, 0)) := writeK_good HRo.out (by have := HN.out; omega)
          go_wp2
          go_ret2
          rw [HW.out]
          refine ⟨a5, c5, ?_, by rw [← HN.out]; exact hcap5, HB5.out, hb⟩
          rw [← HN.out]; rfl
end Go.Proofs.Ytialpfdhdcjpaaa

/- The walk of key.unescape. -/
set_option linter.unusedSimpArgs false
set_option linter.unusedVariables false
set_option maxRecDepth 100000
namespace Go.Proofs.Ytialpfdhdcjpaaa
open Go.RowKit

/-- A string, the bytes of its marked form, and whether there is one. -/
def RetU (w : World) (o : Option (List Nat × Nat)) (e : Ending) (w' : World) : Prop :=
  Below w.heap.size w w' ∧ ((o = none ∧ ∃ s : ByteArray, e = .returned (.tuple #[.string s, .int .i64 0, .bool false])) ∨ ∃ (s : List Nat) (m : Nat), o = some (s, m) ∧ e = .returned (.tuple #[.string (strN s), .int .i64 (m : Int), .bool true]))

/-- What is still to be read, behind a mark or not. -/
def unLeft (D : List Nat) (k : Nat) : Bool → List Nat
  | true => 0 :: D.drop k
  | false => D.drop k
def unOff (k : Nat) : Bool → Nat
  | true => k - 1
  | false => k
def unInv (D : List Nat) (k : Nat) (mark : Bool) (A : List Nat) : Prop := (mark = true → 0 < k) ∧ (∀ c ∈ A, c < 256) ∧ unesc D = (unesc (unLeft D k mark)).map (fun p => (A ++ p.1, p.2 + unOff k mark))

theorem un_end {D A : List Nat} {k : Nat} {mark : Bool} (h : unInv D k mark A) (hk : D.length ≤ k) : unesc D = none := by
  rw [h.2.2]
  cases mark
  · show (unesc (D.drop k)).map _ = none
    rw [List.drop_of_length_le hk]; rfl
  · show (unesc (0 :: D.drop k)).map _ = none
    rw [List.drop_of_length_le hk]; rfl

theorem un_done {D A : List Nat} {k : Nat} (h : unInv D k true A) (hk : k < D.length) (hc : D[k] = 1) : unesc D = some (A, k + 1) := by
  have h0 := h.1 rfl
  rw [h.2.2]
  show (unesc (0 :: D.drop k)).map (fun p => (A ++ p.1, p.2 + (k - 1))) = _
  rw [List.drop_eq_getElem_cons hk, hc, unesc_zero, if_pos rfl]
  simp; omega

theorem un_bad {D A : List Nat} {k : Nat} (h : unInv D k true A) (hk : k < D.length) (hc : D[k] ≠ 1) (hc2 : D[k] ≠ 255) : unesc D = none := by
  rw [h.2.2]
  show (unesc (0 :: D.drop k)).map _ = _
  rw [List.drop_eq_getElem_cons hk, unesc_zero, if_neg hc, if_neg hc2]; rfl

theorem un_mark {D A : List Nat} {k : Nat} (h : unInv D k true A) (hk : k < D.length) (hc : D[k] = 255) : unInv D (k + 1) false (A ++ [0]) := by
  have h0 := h.1 rfl
  refine ⟨by simp, ?_, ?_⟩
  · intro c hc; rcases List.mem_append.1 hc with hc | hc
    · exact h.2.1 c hc
    · rw [List.mem_singleton.1 hc]; omega
  · rw [h.2.2]
    show (unesc (0 :: D.drop k)).map (fun p => (A ++ p.1, p.2 + (k - 1))) = (unesc (D.drop (k + 1))).map (fun p => (A ++ [0] ++ p.1, p.2 + (k + 1)))
    rw [List.drop_eq_getElem_cons hk, hc, unesc_zero, if_neg (by omega), if_pos rfl]
    cases unesc (D.drop (k + 1)) with
    | none => rfl
    | some p => simp; omega

theorem un_zero {D A : List Nat} {k : Nat} (h : unInv D k false A) (hk : k < D.length) (hc : D[k] = 0) : unInv D (k + 1) true A := by
  refine ⟨by simp, h.2.1, ?_⟩
  rw [h.2.2]
  show (unesc (D.drop k)).map _ = (unesc (0 :: D.drop (k + 1))).map (fun p => (A ++ p.1, p.2 + (k + 1 - 1)))
  rw [List.drop_eq_getElem_cons hk, hc]
  rfl

theorem un_plain {D A : List Nat} {k : Nat} (h : unInv D k false A) (hk : k < D.length) (hc : D[k] ≠ 0) (h256 : D[k] < 256) : unInv D (k + 1) false (A ++ [D[k]]) := by
  refine ⟨by simp, ?_, ?_⟩
  · intro c hc; rcases List.mem_append.1 hc with hc | hc
    · exact h.2.1 c hc
    · rw [List.mem_singleton.1 hc]; exact h256
  · rw [h.2.2]
    show (unesc (D.drop k)).map (fun p => (A ++ p.1, p.2 + k)) = (unesc (D.drop (k + 1))).map (fun p => (A ++ [D[k]] ++ p.1, p.2 + (k + 1)))
    rw [List.drop_eq_getElem_cons hk, unesc_cons hc]
    cases unesc (D.drop (k + 1)) with
    | none => rfl
    | some p => simp; omega

end Go.Proofs.Ytialpfdhdcjpaaa

/- The walk of the reference's Write of rows. -/
set_option linter.unusedSimpArgs false
set_option linter.unusedVariables false
set_option maxRecDepth 100000
namespace Go.Proofs.Ytialpfdhdcjpaaa
open Go.RowKit

theorem encL_take_le (l : List Vl) (k : Nat) : (encL (l.take k)).length ≤ (encL l).length := by
  conv => rhs; rw [← List.take_append_drop k l]
  unfold encL
  rw [List.flatMap_append, List.length_append]; omega

/-- A length of at most five bytes' bytes. -/
theorem encV_len2 (x : Vl) (hs : x.s.size ≤ 1000000) (hf : x.fair) : (encV x).length ≤ 1000020 := by
  have h1 := putL_len10 (zigN_lt x.n hf.2.1.1 hf.2.1.2)
  have h2 := putL_len10 (show x.s.size < 18446744073709551616 by omega)
  unfold encV
  split
  · simp
  · split
    · simp only [List.length_cons]; omega
    · simp only [List.length_cons, textL, List.length_append, bytesOf_len]; omega

end Go.Proofs.Ytialpfdhdcjpaaa

/- The walks of record.decode and the reference's one. -/
set_option linter.unusedSimpArgs false
set_option linter.unusedVariables false
set_option maxRecDepth 100000
namespace Go.Proofs.Ytialpfdhdcjpaaa
open Go.RowKit

theorem slots2_here (w : World) (T : TypeId) (a0 a1 a2 b0 b1 b2 : Value) : Slot ((w.alloc (.cells #[a0, a1, a2] T)).alloc (.cells #[b0, b1, b2] T)) w.heap.size a0 a1 a2 ∧ Slot ((w.alloc (.cells #[a0, a1, a2] T)).alloc (.cells #[b0, b1, b2] T)) (w.heap.size + 1) b0 b1 b2 := by
  obtain ⟨h1, h2, _⟩ := slots2 w T a0 a1 a2 b0 b1 b2 ((w.alloc (.cells #[a0, a1, a2] T)).alloc (.cells #[b0, b1, b2] T)) (Later.refl _)
  exact ⟨h1, h2⟩

/-- What a value that begins at an index is answered as. -/
def RetD (w : World) (o : Option (Vl × Nat)) (e : Ending) (w' : World) : Prop :=
  Below w.heap.size w w' ∧ ((o = none ∧ ∃ (k n : Int) (s : ByteArray) (m : Int), e = .returned (.tuple #[.agg #[.int .u8 k, .int .i64 n, .string s], .int .i64 m, .bool false])) ∨
    ∃ (x : Vl) (n : Nat), o = some (x, n) ∧ e = .returned (.tuple #[.agg #[.int .u8 x.k, .int .i64 x.n, .string x.s], .int .i64 (n : Int), .bool true]))

theorem RetD.no {w w' : World} {o : Option (Vl × Nat)} (h : o = none) (hb : Below w.heap.size w w') (k n : Int) (s : ByteArray) (m : Int) : RetD w o (.returned (.tuple #[.agg #[.int .u8 k, .int .i64 n, .string s], .int .i64 m, .bool false])) w' :=
  ⟨hb, .inl ⟨h, k, n, s, m, rfl⟩⟩
theorem RetD.yes {w w' : World} {o : Option (Vl × Nat)} {k : Nat} {n : Int} {s : ByteArray} {m : Nat} (h : o = some (⟨k, n, s⟩, m)) (hb : Below w.heap.size w w') : RetD w o (.returned (.tuple #[.agg #[.int .u8 (k : Int), .int .i64 n, .string s], .int .i64 (m : Int), .bool true])) w' :=
  ⟨hb, .inr ⟨_, _, h, rfl⟩⟩

theorem decV_at {l : List Nat} {p k : Nat} (h : l[p]? = some k) : decV l p =
    if k = 0 then some (⟨0, 0, ⟨#[]⟩⟩, p + 1)
    else if k = 1 then (if (getR l ((p + 1 : Nat) : Int)).2.2 = 0 then some (⟨1, zagZ (getR l ((p + 1 : Nat) : Int)).1, ⟨#[]⟩⟩, (getR l ((p + 1 : Nat) : Int)).2.1.toNat) else none)
    else if k = 2 ∨ k = 3 then (if (textR l ((p + 1 : Nat) : Int)).2.2 = 0 then some (⟨k, 0, (textR l ((p + 1 : Nat) : Int)).1⟩, (textR l ((p + 1 : Nat) : Int)).2.1.toNat) else none)
    else none := by
  unfold decV; rw [h]

theorem textR_nat (l : List Nat) (h256 : ∀ c ∈ l, c < 256) (p : Nat) (s : ByteArray) (n : Int) (q : Nat) (h : textR l (p : Nat) = (s, n, q)) : ∃ m : Nat, n = m ∧ m ≤ l.length := by
  by_cases hq : q = 0
  · subst hq
    obtain ⟨m, h1, h2, h3, _⟩ := textR_only l h256 p s n h
    exact ⟨m, h1, h3⟩
  · unfold textR at h
    simp only [] at h
    split at h
    · simp only [Prod.mk.injEq] at h; exact ⟨0, by omega, by omega⟩
    · split at h
      · simp only [Prod.mk.injEq] at h; exact ⟨0, by omega, by omega⟩
      · simp only [Prod.mk.injEq] at h; omega

end Go.Proofs.Ytialpfdhdcjpaaa

/- The walk of key.decode. -/
set_option linter.unusedSimpArgs false
set_option linter.unusedVariables false
set_option maxRecDepth 100000
namespace Go.Proofs.Ytialpfdhdcjpaaa
open Go.RowKit

end Go.Proofs.Ytialpfdhdcjpaaa
