/- Several texts of one proof, one behind the other. -/
import Derived.Test.YtbglchoamihdlaaKPk5
import Derived.Lib.ConvBytes

/- The walks of key.isTuple and what it calls. -/
namespace Go.Proofs.Ytbglchoamihdlaa
open Go.RowKit

theorem notRightK_any (x : Vl) (w : World) : Calls Try.prog 28 #[.agg #[.int .u8 x.k, .int .i64 x.n, .string x.s]] w fun e w' => e = .returned (.bool (!x.right)) ∧ Below w.heap.size w w' := by
  obtain ⟨k, n, s⟩ := x
  have HR := Lib.hid (fun W => right_any k n s W)
  obtain ⟨r, hr⟩ : ∃ r, Vl.right ⟨k, n, s⟩ = r := ⟨_, rfl⟩
  rw [hr] at HR ⊢
  clear hr
  go_enter Try.func28, Try.ntmps28
  go_wp2_with fail
  refine (HR.out _).mono ?_
  rintro e w1 ⟨rfl, hb⟩
  clear HR
  go_wp2
  go_ret
  exact ⟨rfl, (Below.box _ _).trans (Below.mono hb (by simp))⟩

set_option maxHeartbeats 1000000 in
theorem indexFuncK_any (l : List Vl) (a : Option Addr) (len cap : Nat) (w : World) (hV : Vs w.heap.size w a l) (hlen : len = l.length) (hmax : len ≤ 140737488355328) :
    Calls Try.prog 36 #[.slice a len cap, .func (.func 28) #[] #[]] w (RetIx w l) := by
  have HV := Lib.hid hV
  have HL := Lib.hid hlen
  clear hV hlen
  go_enter Try.func36, Try.ntmps36
  go_wp2
  go_loopw [8] (fun i wr => ∃ k : Nat, k ≤ len ∧ i = .int .i64 k ∧ Hid ((l.take k).all Vl.right = true) ∧ Below w.heap.size w wr) (fun i _ => len - (intOf i).toNat)
  case atStart => exact ⟨0, by omega, rfl, by simp [Hid], Below.refl _ _⟩
  case round =>
    obtain ⟨k, hk, rfl, HI, hb⟩ := hrel
    have hsz := hb.size
    by_cases hlt : k < len
    · have hkl : k < l.length := by have := HL.out; omega
      obtain ⟨b, o, rfl, hbN, hc⟩ := HV.out.at_ hkl
      obtain ⟨c0, c1, c2⟩ := hc.below hb hbN
      obtain ⟨y, hy⟩ : ∃ y, y = l[k] := ⟨_, rfl⟩
      have HA := Lib.hid (all_take l k hkl)
      have HF := Lib.hid (all_false l k hkl)
      rw [← hy] at c0 c1 c2 HA HF
      clear hy hc
      have HN := Lib.hid (fun W => notRightK_any y W)
      obtain ⟨r, hr⟩ : ∃ r, y.right = r := ⟨_, rfl⟩
      rw [hr] at HN HA HF
      clear hr
      go_wp2_with fail
      refine (HN.out _).mono ?_
      rintro e w1 ⟨rfl, hb1⟩
      clear HN
      cases r with
      | true =>
        go_wp2
        go_roundw
        case rel => exact ⟨k + 1, by omega, by go_num, by rw [HA.out, HI.out]; rfl, hb.trans (Below.mono hb1 hsz)⟩
        case measure => simp [intOf]; omega
      | false =>
        go_wp2
        go_ret
        exact ⟨k, rfl, by rw [HF.out (by trivial)]; simp, by omega, hb.trans (Below.mono hb1 hsz)⟩
    · go_wp2
      go_ret
      have hk2 : l.take k = l := List.take_of_length_le (by have := HL.out; omega)
      have := HI.out
      rw [hk2] at this
      exact ⟨-1, rfl, by rw [this]; rfl, by omega, hb⟩

theorem containsFuncK_any (l : List Vl) (a : Option Addr) (len cap : Nat) (w : World) (hV : Vs w.heap.size w a l) (hlen : len = l.length) (hmax : len ≤ 140737488355328) :
    Calls Try.prog 27 #[.slice a len cap, .func (.func 28) #[] #[]] w fun e w' => e = .returned (.bool (!(l.all Vl.right))) ∧ Below w.heap.size w w' := by
  have HC := Lib.hid (indexFuncK_any l a len cap w hV hlen hmax)
  clear hV hlen
  go_enter Try.func27, Try.ntmps27
  go_wp2_with fail
  refine HC.out.mono ?_
  rintro e w1 ⟨r, rfl, hr, hr1, hb⟩
  clear HC
  have HR := Lib.hid hr
  clear hr
  go_wp2
  go_ret
  refine ⟨?_, hb⟩
  rw [← HR.out]
  try rfl
  try simp

theorem isTuple_any (l : List Vl) (a : Option Addr) (len cap : Nat) (w : World) (hV : Vs w.heap.size w a l) (hlen : len = l.length) (hmax : len ≤ 140737488355328) :
    Calls Try.prog 18 #[.slice a len cap] w fun e w' => e = .returned (.bool (rowOk l)) ∧ Below w.heap.size w w' := by
  have HC := Lib.hid (containsFuncK_any l a len cap w hV hlen hmax)
  have HL := Lib.hid hlen
  clear hV hlen
  by_cases h : len ≤ 16
  · have HR : Hid (rowOk l = l.all Vl.right) := by
      unfold rowOk; rw [← HL.out]; simp [h, Hid]
    obtain ⟨r, hr⟩ : ∃ r, l.all Vl.right = r := ⟨_, rfl⟩
    rw [hr] at HR HC
    rw [HR.out]
    clear hr HR
    have q1 : decide ((len : Int) ≤ 16) = true := by simp; omega
    go_enter Try.func18, Try.ntmps18
    go_wp2_with fail
    refine HC.out.mono ?_
    rintro e w1 ⟨rfl, hb⟩
    clear HC
    go_wp2
    go_ret
    exact ⟨by simp, hb⟩
  · have HR : Hid (rowOk l = false) := by
      unfold rowOk; rw [← HL.out]; simp [h, Hid]
    have q1 : decide ((len : Int) ≤ 16) = false := by simp; omega
    rw [HR.out]
    clear HC
    go_enter Try.func18, Try.ntmps18
    go_wp2
    go_ret
    exact ⟨rfl, Below.refl _ _⟩
end Go.Proofs.Ytbglchoamihdlaa

/- The walks of record.encode and record.Write. -/
namespace Go.Proofs.Ytbglchoamihdlaa
open Go.RowKit

theorem encV_ne (x : Vl) : encV x ≠ [] := by
  unfold encV; split
  · simp
  · split <;> simp

theorem textL_ne (s : ByteArray) : textL s ≠ [] := by
  intro h
  have := congrArg List.length h
  have := putL_pos s.size
  unfold textL at *
  rw [List.length_append] at *
  simp only [List.length_nil] at *
  omega

end Go.Proofs.Ytbglchoamihdlaa

/- The walk of record.Write; record.Right. -/
namespace Go.Proofs.Ytbglchoamihdlaa
open Go.RowKit

theorem encV_len (x : Vl) (hs : x.s.size ≤ 8192) (hf : x.fair) : (encV x).length ≤ 8300 := by
  have h1 := putL_len10 (zigN_lt x.n hf.2.1.1 hf.2.1.2)
  have h2 := putL_len10 (show x.s.size < 18446744073709551616 by omega)
  unfold encV
  split
  · simp
  · split
    · simp only [List.length_cons]; omega
    · simp only [List.length_cons, textL, List.length_append, bytesOf_len]; omega

theorem encL_len (l : List Vl) (hs : ∀ x ∈ l, x.s.size ≤ 8192) (hf : ∀ x ∈ l, x.fair) : (encL l).length ≤ l.length * 8300 := by
  induction l with
  | nil => simp [encL]
  | cons x r ih =>
    have h1 := ih (fun y hy => hs y (by simp [hy])) (fun y hy => hf y (by simp [hy]))
    have h2 := encV_len x (hs x (by simp)) (hf x (by simp))
    have e : encL (x :: r) = encV x ++ encL r := rfl
    rw [e, List.length_append, List.length_cons]
    omega

/-- A text that is too long makes the row too long. -/
theorem encL_great (l : List Vl) (x : Vl) (hx : x ∈ l) (hr : x.right = true) (hs : 8192 < x.s.size) : 8192 < (encL l).length := by
  have h1 : x.s.size ≤ (encV x).length := by
    rcases right_kind hr with h | h | ⟨hk, h⟩
    · rw [h] at hs; simp [ByteArray.size] at hs
    · rw [h] at hs; simp [ByteArray.size] at hs
    · unfold encV
      rw [if_neg (by omega), if_neg (by omega)]
      simp only [List.length_cons, textL, List.length_append, bytesOf_len]; omega
  have h2 : (encV x).length ≤ (encL l).length := by
    obtain ⟨a, b, rfl⟩ := List.append_of_mem hx
    unfold encL
    rw [List.flatMap_append, List.flatMap_cons]
    simp only [List.length_append]; omega
  omega

theorem writeV_bad {l : List Vl} (h : rowOk l = false) : writeV l = ([], 3) := by unfold writeV; rw [if_pos h]
theorem writeV_long {l : List Vl} (h : rowOk l = true) (h2 : 8192 < 1 + (encL l).length) : writeV l = ([], 2) := by
  unfold writeV; rw [if_neg (by rw [h]; simp), if_pos h2]
theorem writeV_good {l : List Vl} (h : rowOk l = true) (h2 : ¬ 8192 < 1 + (encL l).length) : writeV l = (l.length :: encL l, 0) := by
  unfold writeV; rw [if_neg (by rw [h]; simp), if_neg h2]

theorem take_fair {l : List Vl} (k : Nat) {p : Vl → Prop} (h : ∀ x ∈ l, p x) : ∀ x ∈ l.take k, p x := fun x hx => h x (List.mem_of_mem_take hx)

end Go.Proofs.Ytbglchoamihdlaa

/- The walk of key.escape. -/
namespace Go.Proofs.Ytbglchoamihdlaa
open Go.RowKit

theorem escL_take (l : List Nat) (k : Nat) (h : k < l.length) : escL (l.take (k + 1)) = escL (l.take k) ++ (if l[k] = 0 then [0, 255] else [l[k]]) := by
  unfold escL; rw [List.take_succ_eq_append_getElem h, List.flatMap_append]; simp [List.flatMap_cons]

theorem escL_len (l : List Nat) : (escL l).length ≤ 2 * l.length := by
  induction l with
  | nil => simp [escL]
  | cons c r ih =>
    by_cases h : c = 0
    · subst h; rw [escL_cons0]; simp; omega
    · rw [escL_cons h]; simp; omega

theorem OwnB.base {w : World} {b b' : Nat} {T : TypeId} {v : Value} {l : List Nat} (h : OwnB w b T v l) (hb : b' ≤ b) : OwnB w b' T v l := by
  obtain ⟨h0, h1, h2⟩ := h
  refine ⟨h0, h1, ?_⟩
  rcases h2 with h2 | ⟨g, c, cur, hv, hg, rest⟩
  · exact .inl h2
  · exact .inr ⟨g, c, cur, hv, by omega, rest⟩

/-- '[]byte(s)': the bytes of s in a block of their own. -/
theorem conv_bytes (s : ByteArray) (w : World) : ∃ W1 cap, (convert 9 22 (.string s)).run Try.prog w = .ok (.slice (some ⟨w.heap.size, 0, none⟩) s.size cap) W1 ∧ Below w.heap.size w W1 ∧ W1.heap.size = w.heap.size + 1 ∧
    ∀ (j : Nat) (h : j < (bytesOf s).length), W1.cell? ⟨w.heap.size, j, none⟩ = some (.int .u8 ((bytesOf s)[j] : Int)) := by
  refine ⟨_, _, Lib.run_convert_string_bytes w 9 22 5 s Try.underlying9 Try.underlying22 Try.underlying5, ⟨rfl, rfl, rfl, ?_, fun k hk => Lib.bytesWorld_at_old w _ s k hk⟩, Lib.bytesWorld_size w _ s, ?_⟩
  · rw [Lib.bytesWorld_size]; omega
  · intro j hj
    have hj2 : j < s.size := by rw [bytesOf_len] at hj; exact hj
    rw [Lib.bytesWorld_cell w _ s j hj2]
    have : (bytesOf s)[j] = (s.data.toList.getD j 0).toNat := by
      simp only [bytesOf, List.getElem_map]
      congr 1
      have hj3 : j < s.data.toList.length := by simpa using hj2
      rw [List.getD_eq_getElem?_getD, List.getElem?_eq_getElem hj3]; rfl
    rw [this]

set_option maxHeartbeats 2000000 in
theorem escape_any (s : ByteArray) (w : World) (hs : s.size ≤ 1000000) :
    Calls Try.prog 31 #[.string s] w (RetB w (escL (bytesOf s) ++ [0, 1])) := by
  obtain ⟨i0, hi, hz0, hz1, hz2⟩ := info_parts Try.info5
  obtain ⟨W1, cap, hcv, hb1, hsz1, hcell⟩ := conv_bytes s w
  have HS := Lib.hid (bytesOf_len s)
  have HC := Lib.hid hcell
  have HZ := Lib.hid hsz1
  have hz : w.heap.size < W1.heap.size := by omega
  have HE := Lib.hid (escL_len (bytesOf s))
  obtain ⟨n, hn⟩ : ∃ n, n = s.size := ⟨_, rfl⟩
  have HN := Lib.hid hn
  rw [← hn] at hcv
  have hn1 : n ≤ 1000000 := by omega
  clear hcell hsz1 hn
  go_enter Try.func31, Try.ntmps31
  go_wp2
  clear hcv
  go_loopw [3, 9] (fun v i wr => ∃ k : Nat, k ≤ n ∧ i = .int .i64 k ∧ OwnB wr W1.heap.size 5 v (escL ((bytesOf s).take k)) ∧ Below W1.heap.size W1 wr) (fun _ i _ => n - (intOf i).toNat)
  case atStart => exact ⟨0, by omega, rfl, by simpa [escL] using OwnB.nil _ _ _, Below.refl _ _⟩
  case round =>
    obtain ⟨k, hk, rfl, hown, hb⟩ := hrel
    have hsz := hb.size
    have hle : (escL ((bytesOf s).take k)).length ≤ 2000000 := by
      have := escL_len ((bytesOf s).take k)
      rw [List.length_take] at this
      omega
    by_cases hlt : k < n
    · have hkl : k < (bytesOf s).length := by rw [HS.out, ← HN.out]; exact hlt
      have hc := (hb.cell (p := ⟨w.heap.size, k, none⟩) hz).trans (HC.out k hkl)
      have h256 := bytesOf_lt s _ (List.getElem_mem hkl)
      have HT := Lib.hid (escL_take (bytesOf s) k hkl)
      obtain ⟨c, hcd⟩ : ∃ c, c = (bytesOf s)[k] := ⟨_, rfl⟩
      rw [← hcd] at hc h256 HT
      clear hcd
      by_cases h0 : c = 0
      · subst h0
        have HT2 : Hid (escL ((bytesOf s).take (k + 1)) = (escL ((bytesOf s).take k) ++ [0]) ++ [255]) := by rw [HT.out, if_pos rfl, List.append_assoc]; rfl
        clear HT
        go_wp2_with (first
          | (at_builtin; refine wpList_app1 rfl _ _ 22 rfl W1.heap.size 5 i0 Try.underlying22 hi hz0 hz1 hz2 _ _ wr hown rfl 0 (by omega) _ rfl rfl (by omega) hsz ?_; intro v1 w1 hown1 hb1' hsz1')
          | (at_builtin; refine wpList_app1 rfl _ _ 22 rfl W1.heap.size 5 i0 Try.underlying22 hi hz0 hz1 hz2 _ _ w1 hown1 rfl 255 (by omega) _ rfl rfl (by rw [List.length_append]; simp only [List.length_cons, List.length_nil]; omega) (hb.trans hb1').size ?_; intro v2 w2 hown2 hb2' hsz2'))
        go_roundw
        case rel => exact ⟨k + 1, by omega, by go_num, by rw [HT2.out]; exact hown2, (hb.trans hb1').trans hb2'⟩
        case measure => simp [intOf]; omega
      · have q0 : ((c : Int) == 0) = false := by simp; omega
        have HT2 : Hid (escL ((bytesOf s).take (k + 1)) = escL ((bytesOf s).take k) ++ [c]) := by rw [HT.out, if_neg h0]; rfl
        clear HT
        go_wp2_with (at_builtin; refine wpList_app1 rfl _ _ 22 rfl W1.heap.size 5 i0 Try.underlying22 hi hz0 hz1 hz2 _ _ wr hown rfl c h256 _ rfl rfl (by omega) hsz ?_; intro v1 w1 hown1 hb1' hsz1')
        go_roundw
        case rel => exact ⟨k + 1, by omega, by go_num, by rw [HT2.out]; exact hown1, hb.trans hb1'⟩
        case measure => simp [intOf]; omega
    · have hall : (bytesOf s).take k = bytesOf s := List.take_of_length_le (by rw [HS.out, ← HN.out]; omega)
      rw [hall] at hown hle
      clear hall
      have hB := Bs.new wr [0, 1] (by simp) #[.int .u8 0, .int .u8 1] 5 (by intro i c hi; match i, hi with | 0, hi => simp at hi; subst hi; rfl | 1, hi => simp at hi; subst hi; rfl)
      have hown1 := hown.below (Nat.le_refl _) (Below.box wr (.cells #[.int .u8 0, .int .u8 1] 5))
      have hbA : Below W1.heap.size W1 (wr.alloc (.cells #[.int .u8 0, .int .u8 1] 5)) := hb.alloc hsz _
      have hszA := hbA.size
      clear hown
      go_wp2_with (at_builtin; refine wpList_appB rfl _ _ 22 rfl W1.heap.size 5 i0 Try.underlying22 hi hz0 hz1 hz2 _ _ _ hown1 rfl (wr.heap.size + 1) (some ⟨wr.heap.size, 0, none⟩) [0, 1] 2 2 hB (by simp) rfl rfl (by simp; omega) hszA ?_; intro v3 w3 hown3 hb3 hsz3)
      go_ret
      exact RetB.of ⟨_, rfl, hown3.base (by omega), hb1.trans ((hbA.trans hb3).mono (by omega))⟩
end Go.Proofs.Ytbglchoamihdlaa

/- The walks of key.whole and key.readWhole. -/
namespace Go.Proofs.Ytbglchoamihdlaa
open Go.RowKit

/-- Byte j of eight, the greatest first. -/
def byteJ (u : Nat) : Nat → Nat
  | 0 => u / 72057594037927936 % 256
  | 1 => u / 281474976710656 % 256
  | 2 => u / 1099511627776 % 256
  | 3 => u / 4294967296 % 256
  | 4 => u / 16777216 % 256
  | 5 => u / 65536 % 256
  | 6 => u / 256 % 256
  | _ => u % 256

/-- An array of eight bytes, of which the first k are those of u. -/
def ArrW (w : World) (B u k : Nat) : Prop := ∀ j, j < 8 → w.cell? ⟨B, j, none⟩ = some (.int .u8 (((if j < k then byteJ u j else 0) : Nat) : Int)) ∧ w.frozen? ⟨B, j, none⟩ = false

theorem ArrW.set {w : World} {B u k : Nat} (h : ArrW w B u k) (hk : k < 8) (v : Int) (hv : v = (byteJ u k : Int)) : ArrW (w.setCell ⟨B, k, none⟩ (.int .u8 v)) B u (k + 1) := by
  subst hv
  intro j hj
  obtain ⟨h1, h2⟩ := h j hj
  refine ⟨?_, by rw [World.frozen?_setCell]; exact h2⟩
  by_cases hjk : j = k
  · subst hjk
    rw [World.cell?_setCell_same _ _ _ h1, if_pos (by omega)]
  · rw [World.cell?_setCell_other _ _ _ _ (by simp [Ne.symm hjk]), h1]
    by_cases hlt : j < k
    · rw [if_pos hlt, if_pos (by omega)]
    · rw [if_neg hlt, if_neg (by omega)]

theorem byteJ_lt (u j : Nat) : byteJ u j < 256 := by
  unfold byteJ; split <;> omega

set_option maxRecDepth 100000 in
theorem xor128 (c : Nat) (h : c < 256) : bits .xor .u8 (c : Int) 128 = (((c + 128) % 256 : Nat) : Int) := by
  have e : ∀ c : Nat, c < 256 → c ^^^ 128 = (c + 128) % 256 := by decide
  rw [← e c h]
  exact u8_xor_nat c 128 h (by omega)

/-- The bytes of an integer: those of the number as it is, the first with its sign turned over. -/
theorem up_bytes (n : Int) (h1 : -9223372036854775808 ≤ n) (h2 : n ≤ 9223372036854775807) (u : Nat) (hu : u = (n % 18446744073709551616).toNat) :
    whole8 (up64 n) = [(byteJ u 0 + 128) % 256, byteJ u 1, byteJ u 2, byteJ u 3, byteJ u 4, byteJ u 5, byteJ u 6, byteJ u 7] := by
  subst hu
  simp only [whole8, up64, byteJ, List.cons.injEq, and_true]
  omega

def aggB (l : List Nat) : Value := .agg (l.map fun (c : Nat) => Value.int .u8 (c : Int)).toArray

end Go.Proofs.Ytbglchoamihdlaa
