/- Several texts of one proof, one behind the other. -/
import Derived.Test.YtialpfdhdcjpaaaSPk9
import Derived.Lib.ConvBytes
import Derived.Laws.CopyRow
import Derived.Laws.CopyOwn
set_option linter.unusedSimpArgs false
set_option linter.unusedVariables false

/- The walks of record.encode and record.Write. -/
set_option linter.unusedSimpArgs false
set_option linter.unusedVariables false
set_option maxRecDepth 100000
namespace Go.Proofs.Ytialpfdhdcjpaaa
open Go.RowKit

theorem encV_ne (x : Vl) : encV x ≠ [] := by
  unfold encV; split
  · simp
  · split <;> simp

theorem textL_ne (s : ByteArray) : textL s ≠ [] := by
  intro h
  have := congrArg List.length h
  have := putL_pos s.size
  unfold textL at *
  rw [List.length_append] at *
  simp only [List.length_nil] at *
  omega

end Go.Proofs.Ytialpfdhdcjpaaa

/- The walk of record.Write; record.Right. -/
set_option linter.unusedSimpArgs false
set_option linter.unusedVariables false
set_option maxRecDepth 100000
namespace Go.Proofs.Ytialpfdhdcjpaaa
open Go.RowKit

theorem encV_len (x : Vl) (hs : x.s.size ≤ 8192) (hf : x.fair) : (encV x).length ≤ 8300 := by
  have h1 := putL_len10 (zigN_lt x.n hf.2.1.1 hf.2.1.2)
  have h2 := putL_len10 (show x.s.size < 18446744073709551616 by omega)
  unfold encV
  split
  · simp
  · split
    · simp only [List.length_cons]; omega
    · simp only [List.length_cons, textL, List.length_append, bytesOf_len]; omega

theorem encL_len (l : List Vl) (hs : ∀ x ∈ l, x.s.size ≤ 8192) (hf : ∀ x ∈ l, x.fair) : (encL l).length ≤ l.length * 8300 := by
  induction l with
  | nil => simp [encL]
  | cons x r ih =>
    have h1 := ih (fun y hy => hs y (by simp [hy])) (fun y hy => hf y (by simp [hy]))
    have h2 := encV_len x (hs x (by simp)) (hf x (by simp))
    have e : encL (x :: r) = encV x ++ encL r := rfl
    rw [e, List.length_append, List.length_cons]
    omega

/-- A text that is too long makes the row too long. -/
theorem encL_great (l : List Vl) (x : Vl) (hx : x ∈ l) (hr : x.right = true) (hs : 8192 < x.s.size) : 8192 < (encL l).length := by
  have h1 : x.s.size ≤ (encV x).length := by
    rcases right_kind hr with h | h | ⟨hk, h⟩
    · rw [h] at hs; simp [ByteArray.size] at hs
    · rw [h] at hs; simp [ByteArray.size] at hs
    · unfold encV
      rw [if_neg (by omega), if_neg (by omega)]
      simp only [List.length_cons, textL, List.length_append, bytesOf_len]; omega
  have h2 : (encV x).length ≤ (encL l).length := by
    obtain ⟨a, b, rfl⟩ := List.append_of_mem hx
    unfold encL
    rw [List.flatMap_append, List.flatMap_cons]
    simp only [List.length_append]; omega
  omega

theorem writeV_bad {l : List Vl} (h : rowOk l = false) : writeV l = ([], 3) := by unfold writeV; rw [if_pos h]
theorem writeV_long {l : List Vl} (h : rowOk l = true) (h2 : 8192 < 1 + (encL l).length) : writeV l = ([], 2) := by
  unfold writeV; rw [if_neg (by rw [h]; simp), if_pos h2]
theorem writeV_good {l : List Vl} (h : rowOk l = true) (h2 : ¬ 8192 < 1 + (encL l).length) : writeV l = (l.length :: encL l, 0) := by
  unfold writeV; rw [if_neg (by rw [h]; simp), if_neg h2]

theorem take_fair {l : List Vl} (k : Nat) {p : Vl → Prop} (h : ∀ x ∈ l, p x) : ∀ x ∈ l.take k, p x := fun x hx => h x (List.mem_of_mem_take hx)

end Go.Proofs.Ytialpfdhdcjpaaa

/- The walk of key.escape. -/
set_option linter.unusedSimpArgs false
set_option linter.unusedVariables false
set_option maxRecDepth 100000
namespace Go.Proofs.Ytialpfdhdcjpaaa
open Go.RowKit

theorem escL_take (l : List Nat) (k : Nat) (h : k < l.length) : escL (l.take (k + 1)) = escL (l.take k) ++ (if l[k] = 0 then [0, 255] else [l[k]]) := by
  unfold escL; rw [List.take_succ_eq_append_getElem h, List.flatMap_append]; simp [List.flatMap_cons]

theorem escL_len (l : List Nat) : (escL l).length ≤ 2 * l.length := by
  induction l with
  | nil => simp [escL]
  | cons c r ih =>
    by_cases h : c = 0
    · subst h; rw [escL_cons0]; simp; omega
    · rw [escL_cons h]; simp; omega

theorem OwnB.base {w : World} {b b' : Nat} {T : TypeId} {v : Value} {l : List Nat} (h : OwnB w b T v l) (hb : b' ≤ b) : OwnB w b' T v l := by
  obtain ⟨h0, h1, h2⟩ := h
  refine ⟨h0, h1, ?_⟩
  rcases h2 with h2 | ⟨g, c, cur, hv, hg, rest⟩
  · exact .inl h2
  · exact .inr ⟨g, c, cur, hv, by omega, rest⟩

/-- '[]byte(s)': the bytes of s in a block of their own. -/
theorem conv_bytes (s : ByteArray) (w : World) : ∃ W1 cap, (convert 9 32 (.string s)).run Try.prog w = .ok (.slice (some ⟨w.heap.size, 0, none⟩) s.size cap) W1 ∧ Below w.heap.size w W1 ∧ W1.heap.size = w.heap.size + 1 ∧
    ∀ (j : Nat) (h : j < (bytesOf s).length), W1.cell? ⟨w.heap.size, j, none⟩ = some (.int .u8 ((bytesOf s)[j] : Int)) := by
  refine ⟨_, _, Lib.run_convert_string_bytes w 9 32 5 s Try.underlying9 Try.underlying32 Try.underlying5, ⟨rfl, rfl, rfl, ?_, fun k hk => Lib.bytesWorld_at_old w _ s k hk⟩, Lib.bytesWorld_size w _ s, ?_⟩
  · rw [Lib.bytesWorld_size]; omega
  · intro j hj
    have hj2 : j < s.size := by rw [bytesOf_len] at hj; exact hj
    rw [Lib.bytesWorld_cell w _ s j hj2]
    have : (bytesOf s)[j] = (s.data.toList.getD j 0).toNat := by
      simp only [bytesOf, List.getElem_map]
      congr 1
      have hj3 : j < s.data.toList.length := by simpa using hj2
      rw [List.getD_eq_getElem?_getD, List.getElem?_eq_getElem hj3]; rfl
    rw [this]

set_option maxHeartbeats 2000000 in
theorem escape_any (s : ByteArray) (w : World) (hs : s.size ≤ 1000000) :
    Calls Try.prog 94 #[.string s] w (RetB w (escL (bytesOf s) ++ [0, 1])) := by
  obtain ⟨i0, hi, hz0, hz1, hz2⟩ := info_parts Try.info5
  obtain ⟨W1, cap, hcv, hb1, hsz1, hcell⟩ := conv_bytes s w
  have HS := Lib.hid (bytesOf_len s)
  have HC := Lib.hid hcell
  have HZ := Lib.hid hsz1
  have hz : w.heap.size < W1.heap.size := by omega
  have HE := Lib.hid (escL_len (bytesOf s))
  obtain ⟨n, hn⟩ : ∃ n, n = s.size := ⟨_, rfl⟩
  have HN := Lib.hid hn
  rw [← hn] at hcv
  have hn1 : n ≤ 1000000 := by omega
  clear hcell hsz1 hn
  go_enter Try.func94, Try.ntmps94
  go_wp2
  clear hcv
  go_loopw [3, 9] (fun v i wr => ∃ k : Nat, k ≤ n ∧ i = .int .i64 k ∧ OwnB wr W1.heap.size 5 v (escL ((bytesOf s).take k)) ∧ Below W1.heap.size W1 wr) (fun _ i _ => n - (intOf i).toNat)
  case atStart => exact ⟨0, by omega, rfl, by simpa [escL] using OwnB.nil _ _ _, Below.refl _ _⟩
  case round =>
    obtain ⟨k, hk, rfl, hown, hb⟩ := hrel
    have hsz := hb.size
    have hle : (escL ((bytesOf s).take k)).length ≤ 2000000 := by
      have := escL_len ((bytesOf s).take k)
      rw [List.length_take] at this
      omega
    by_cases hlt : k < n
    · have hkl : k < (bytesOf s).length := by rw [HS.out, ← HN.out]; exact hlt
      have hc := (hb.cell (p := ⟨w.heap.size, k, none⟩) hz).trans (HC.out k hkl)
      have h256 := bytesOf_lt s _ (List.getElem_mem hkl)
      have HT := Lib.hid (escL_take (bytesOf s) k hkl)
      obtain ⟨c, hcd⟩ : ∃ c, c = (bytesOf s)[k] := ⟨_, rfl⟩
      rw [← hcd] at hc h256 HT
      clear hcd
      by_cases h0 : c = 0
      · subst h0
        have HT2 : Hid (escL ((bytesOf s).take (k + 1)) = (escL ((bytesOf s).take k) ++ [0]) ++ [255]) := by rw [HT.out, if_pos rfl, List.append_assoc]; rfl
        clear HT
        go_wp2_with (first
          | (at_builtin; refine wpList_app1 rfl _ _ 32 rfl W1.heap.size 5 i0 Try.underlying32 hi hz0 hz1 hz2 _ _ wr hown rfl 0 (by omega) _ rfl rfl (by omega) hsz ?_; intro v1 w1 hown1 hb1' hsz1')
          | (at_builtin; refine wpList_app1 rfl _ _ 32 rfl W1.heap.size 5 i0 Try.underlying32 hi hz0 hz1 hz2 _ _ w1 hown1 rfl 255 (by omega) _ rfl rfl (by rw [List.length_append]; simp only [List.length_cons, List.length_nil]; omega) (hb.trans hb1').size ?_; intro v2 w2 hown2 hb2' hsz2'))
        go_roundw
        case rel => exact ⟨k + 1, by omega, by go_num, by rw [HT2.out]; exact hown2, (hb.trans hb1').trans hb2'⟩
        case measure => simp [intOf]; omega
      · have q0 : ((c : Int) == 0) = false := by simp; omega
        have HT2 : Hid (escL ((bytesOf s).take (k + 1)) = escL ((bytesOf s).take k) ++ [c]) := by rw [HT.out, if_neg h0]; rfl
        clear HT
        go_wp2_with (at_builtin; refine wpList_app1 rfl _ _ 32 rfl W1.heap.size 5 i0 Try.underlying32 hi hz0 hz1 hz2 _ _ wr hown rfl c h256 _ rfl rfl (by omega) hsz ?_; intro v1 w1 hown1 hb1' hsz1')
        go_roundw
        case rel => exact ⟨k + 1, by omega, by go_num, by rw [HT2.out]; exact hown1, hb.trans hb1'⟩
        case measure => simp [intOf]; omega
    · have hall : (bytesOf s).take k = bytesOf s := List.take_of_length_le (by rw [HS.out, ← HN.out]; omega)
      rw [hall] at hown hle
      clear hall
      have hB := Bs.new wr [0, 1] (by simp) #[.int .u8 0, .int .u8 1] 5 (by intro i c hi; match i, hi with | 0, hi => simp at hi; subst hi; rfl | 1, hi => simp at hi; subst hi; rfl)
      have hown1 := hown.below (Nat.le_refl _) (Below.box wr (.cells #[.int .u8 0, .int .u8 1] 5))
      have hbA : Below W1.heap.size W1 (wr.alloc (.cells #[.int .u8 0, .int .u8 1] 5)) := hb.alloc hsz _
      have hszA := hbA.size
      clear hown
      go_wp2_with (at_builtin; refine wpList_appB rfl _ _ 32 rfl W1.heap.size 5 i0 Try.underlying32 hi hz0 hz1 hz2 _ _ _ hown1 rfl (wr.heap.size + 1) (some ⟨wr.heap.size, 0, none⟩) [0, 1] 2 2 hB (by simp) rfl rfl (by simp; omega) hszA ?_; intro v3 w3 hown3 hb3 hsz3)
      go_ret
      exact RetB.of ⟨_, rfl, hown3.base (by omega), hb1.trans ((hbA.trans hb3).mono (by omega))⟩
end Go.Proofs.Ytialpfdhdcjpaaa

/- The walks of key.whole and key.readWhole. -/
set_option linter.unusedSimpArgs false
set_option linter.unusedVariables false
set_option maxRecDepth 100000
namespace Go.Proofs.Ytialpfdhdcjpaaa
open Go.RowKit

/-- Byte j of eight, the greatest first. -/
def byteJ (u : Nat) : Nat → Nat
  | 0 => u / 72057594037927936 % 256
  | 1 => u / 281474976710656 % 256
  | 2 => u / 1099511627776 % 256
  | 3 => u / 4294967296 % 256
  | 4 => u / 16777216 % 256
  | 5 => u / 65536 % 256
  | 6 => u / 256 % 256
  | _ => u % 256

/-- An array of eight bytes, of which the first k are those of u. -/
def ArrW (w : World) (B u k : Nat) : Prop := ∀ j, j < 8 → w.cell? ⟨B, j, none⟩ = some (.int .u8 (((if j < k then byteJ u j else 0) : Nat) : Int)) ∧ w.frozen? ⟨B, j, none⟩ = false

theorem ArrW.set {w : World} {B u k : Nat} (h : ArrW w B u k) (hk : k < 8) (v : Int) (hv : v = (byteJ u k : Int)) : ArrW (w.setCell ⟨B, k, none⟩ (.int .u8 v)) B u (k + 1) := by
  subst hv
  intro j hj
  obtain ⟨h1, h2⟩ := h j hj
  refine ⟨?_, by rw [World.frozen?_setCell]; exact h2⟩
  by_cases hjk : j = k
  · subst hjk
    rw [World.cell?_setCell_same _ _ _ h1, if_pos (by omega)]
  · rw [World.cell?_setCell_other _ _ _ _ (by simp [Ne.symm hjk]), h1]
    by_cases hlt : j < k
    · rw [if_pos hlt, if_pos (by omega)]
    · rw [if_neg hlt, if_neg (by omega)]

theorem byteJ_lt (u j : Nat) : byteJ u j < 256 := by
  unfold byteJ; split <;> omega

set_option maxRecDepth 100000 in
theorem xor128 (c : Nat) (h : c < 256) : bits .xor .u8 (c : Int) 128 = (((c + 128) % 256 : Nat) : Int) := by
  have e : ∀ c : Nat, c < 256 → c ^^^ 128 = (c + 128) % 256 := by decide
  rw [← e c h]
  exact u8_xor_nat c 128 h (by omega)

/-- The bytes of an integer: those of the number as it is, the first with its sign turned over. -/
theorem up_bytes (n : Int) (h1 : -9223372036854775808 ≤ n) (h2 : n ≤ 9223372036854775807) (u : Nat) (hu : u = (n % 18446744073709551616).toNat) :
    whole8 (up64 n) = [(byteJ u 0 + 128) % 256, byteJ u 1, byteJ u 2, byteJ u 3, byteJ u 4, byteJ u 5, byteJ u 6, byteJ u 7] := by
  subst hu
  simp only [whole8, up64, byteJ, List.cons.injEq, and_true]
  omega

def aggB (l : List Nat) : Value := .agg (l.map fun (c : Nat) => Value.int .u8 (c : Int)).toArray

end Go.Proofs.Ytialpfdhdcjpaaa

/- For key.readWhole and fixed.ReadWhole: 'copy(a[:], b)', an array by index. -/
set_option linter.unusedSimpArgs false
set_option linter.unusedVariables false
set_option maxRecDepth 100000
namespace Go.Proofs.Ytialpfdhdcjpaaa
open Go.RowKit

/-- The cells of an array of eight bytes. -/
def Arr8 (w : World) (B : Nat) (l : List Nat) : Prop := l.length = 8 ∧ (∀ c ∈ l, c < 256) ∧ ∀ j (h : j < l.length), w.cell? ⟨B, j, none⟩ = some (.int .u8 (l[j] : Int)) ∧ w.frozen? ⟨B, j, none⟩ = false

set_option maxRecDepth 100000 in
/-- 'copy(a[:], b)' into an array of eight zeros that has just been made. -/
theorem copy8 (w : World) (N : Nat) (l : List Nat) (a : Option Addr) (n cap : Nat) (hB : Bs N w a l) (hN : N ≤ w.heap.size) (hn : n = l.length) (hnil : a = none → n = 0 ∧ cap = 0) (ty : TypeId) :
    ∃ W2, (Builtin.copy_ #[32, 32] ty #[.slice (some ⟨w.heap.size, 0, none⟩) 8 8, .slice a n cap]).run Try.prog (w.alloc (.cells #[.int .u8 0, .int .u8 0, .int .u8 0, .int .u8 0, .int .u8 0, .int .u8 0, .int .u8 0, .int .u8 0] 124)) = .ok (.int .i64 ((min n 8 : Nat) : Int)) W2 ∧
      Below w.heap.size w W2 ∧ (8 ≤ n → Arr8 W2 w.heap.size (l.take 8)) := by
  subst hn
  cases a with
  | none =>
    obtain ⟨h0, rfl⟩ := hnil rfl
    refine ⟨(w.alloc (.cells #[.int .u8 0, .int .u8 0, .int .u8 0, .int .u8 0, .int .u8 0, .int .u8 0, .int .u8 0, .int .u8 0] 124)), ?_, Below.box w _, fun h => by omega⟩
    rw [h0]
    have := run_copy_nil (P := Try.prog) (w.alloc (.cells #[.int .u8 0, .int .u8 0, .int .u8 0, .int .u8 0, .int .u8 0, .int .u8 0, .int .u8 0, .int .u8 0] 124)) 32 32 ty 5 ⟨w.heap.size, 0, none⟩ 8 8 Try.underlying32 (by kernel_rfl)
    rw [this]; rfl
  | some x =>
    have hcells : ∀ j v, ((l.take 8).map fun (c : Nat) => Value.int .u8 (c : Int))[j]? = some v → (w.alloc (.cells #[.int .u8 0, .int .u8 0, .int .u8 0, .int .u8 0, .int .u8 0, .int .u8 0, .int .u8 0, .int .u8 0] 124)).cell? (x.add j) = some v := by
      intro j v hv
      rw [List.getElem?_map] at hv
      cases hj : (l.take 8)[j]? with
      | none => rw [hj] at hv; cases hv
      | some c =>
        rw [hj] at hv
        simp only [Option.map_some, Option.some.injEq] at hv
        subst hv
        rcases hB.2 with h | ⟨b, o, hx, hb, hc⟩
        · subst h; simp at hj
        · simp only [Option.some.injEq] at hx
          subst hx
          have e1 : (⟨b, o, none⟩ : Addr).add j = ⟨b, o + j, none⟩ := by unfold Addr.add; split <;> simp_all
          have hj2 : l[j]? = some c := by
            rw [List.getElem?_take] at hj
            split at hj
            · exact hj
            · cases hj
          rw [e1, (Below.box w _).cell (p := ⟨b, o + j, none⟩) (show b < w.heap.size by omega)]
          exact hc j c hj2
    have hrun := run_copy_row (P := Try.prog) (w.alloc (.cells #[.int .u8 0, .int .u8 0, .int .u8 0, .int .u8 0, .int .u8 0, .int .u8 0, .int .u8 0, .int .u8 0] 124)) 32 32 ty 5 w.heap.size 0 8 8 x l.length cap
      #[.int .u8 0, .int .u8 0, .int .u8 0, .int .u8 0, .int .u8 0, .int .u8 0, .int .u8 0, .int .u8 0] 124 ((l.take 8).map fun (c : Nat) => Value.int .u8 (c : Int)) Try.underlying32 (by kernel_rfl)
      (heap_alloc_new _ _) (by simp [Nat.min_comm]) hcells (by simp; omega) (by intro v hv; obtain ⟨c, _, rfl⟩ := List.mem_map.1 hv; rfl)
    refine ⟨(w.alloc (.cells #[.int .u8 0, .int .u8 0, .int .u8 0, .int .u8 0, .int .u8 0, .int .u8 0, .int .u8 0, .int .u8 0] 124)).setRow w.heap.size ((#[Value.int .u8 0, .int .u8 0, .int .u8 0, .int .u8 0, .int .u8 0, .int .u8 0, .int .u8 0, .int .u8 0] : Array Value).toList.take 0 ++ ((l.take 8).map fun (c : Nat) => Value.int .u8 (c : Int)) ++ (List.drop (0 + ((l.take 8).map fun (c : Nat) => Value.int .u8 (c : Int)).length) (#[Value.int .u8 0, .int .u8 0, .int .u8 0, .int .u8 0, .int .u8 0, .int .u8 0, .int .u8 0, .int .u8 0] : Array Value).toList)).toArray, hrun.trans ?_, ?_, ?_⟩
    · congr 1
      simp [goInt, Nat.min_comm]
    · exact below_setRow (Below.box w _) (Nat.le_refl _) _
    · intro h8
      have h8' : (l.take 8).length = 8 := by rw [List.length_take]; omega
      refine ⟨h8', fun c hc => hB.1 c (List.mem_of_mem_take hc), fun j hj => ?_⟩
      have hg := heap_alloc_new w (.cells #[.int .u8 0, .int .u8 0, .int .u8 0, .int .u8 0, .int .u8 0, .int .u8 0, .int .u8 0, .int .u8 0] 124)
      refine ⟨?_, ?_⟩
      · rw [cell_setRow_same _ _ _ _ _ _ _ hg]
        have hd : (List.drop (0 + ((l.take 8).map fun (c : Nat) => Value.int .u8 (c : Int)).length) (#[Value.int .u8 0, .int .u8 0, .int .u8 0, .int .u8 0, .int .u8 0, .int .u8 0, .int .u8 0, .int .u8 0] : Array Value).toList) = [] := by
          rw [List.length_map, h8']; rfl
        rw [hd]
        have hj8 : j < 8 := by omega
        have hjl : j < l.length := by rw [List.length_take] at hj; omega
        simp [List.getElem?_take, hj8, hjl]
      · have := setRow_heap _ _ _ ((#[Value.int .u8 0, .int .u8 0, .int .u8 0, .int .u8 0, .int .u8 0, .int .u8 0, .int .u8 0, .int .u8 0] : Array Value).toList.take 0 ++ ((l.take 8).map fun (c : Nat) => Value.int .u8 (c : Int)) ++ (List.drop (0 + ((l.take 8).map fun (c : Nat) => Value.int .u8 (c : Int)).length) (#[Value.int .u8 0, .int .u8 0, .int .u8 0, .int .u8 0, .int .u8 0, .int .u8 0, .int .u8 0, .int .u8 0] : Array Value).toList)).toArray _ _ hg
        simp only [World.frozen?, this]
        simp

/-- 'n<<8 | c'. -/
theorem orB (V c : Nat) (hV : V < 72057594037927936) (hc : c < 256) : bits .or .u64 ((V : Int) * 256) (c : Int) = ((V * 256 + c : Nat) : Int) := by
  have := u64_or_nat (V * 256) c (by omega) (by omega)
  rw [nat_join 8 (V * 256) c (by omega) (by omega)] at this
  rw [Int.natCast_mul] at this
  exact this

/-- 'a[k]' of an array of eight bytes by value. -/
theorem index8 (c0 c1 c2 c3 c4 c5 c6 c7 : Int) (k : Nat) (hk : k < 8) (W : World) :
    (Instr.index 124 (.agg #[.int .u8 c0, .int .u8 c1, .int .u8 c2, .int .u8 c3, .int .u8 c4, .int .u8 c5, .int .u8 c6, .int .u8 c7]) (.int .i64 k)).run Try.prog W =
      .ok (.int .u8 ([c0, c1, c2, c3, c4, c5, c6, c7].getD k 0)) W := by
  have hk8 : k = 0 ∨ k = 1 ∨ k = 2 ∨ k = 3 ∨ k = 4 ∨ k = 5 ∨ k = 6 ∨ k = 7 := by omega
  have hu := run_underlying (P := Try.prog) (w := W) Try.underlying124
  rcases hk8 with rfl | rfl | rfl | rfl | rfl | rfl | rfl | rfl
  all_goals
    simp [Instr.index, hu, asIntOf, go_sem]

end Go.Proofs.Ytialpfdhdcjpaaa

/- The walks of fixed.Whole and fixed.ReadWhole: an integer in eight bytes that have its order. -/
set_option linter.unusedSimpArgs false
set_option linter.unusedVariables false
set_option maxRecDepth 100000
namespace Go.Proofs.Ytialpfdhdcjpaaa
open Go.RowKit

set_option maxRecDepth 100000 in
set_option maxHeartbeats 4000000 in
theorem Whole_any (n : Int) (w : World) (h1 : -9223372036854775808 ≤ n) (h2 : n ≤ 9223372036854775807) :
    Calls Try.prog 93 #[.int .i64 n] w fun e w' => e = .returned (aggB (whole8 (up64 n))) ∧ Below w.heap.size w w' := by
  obtain ⟨u, hu⟩ : ∃ u, u = (n % 18446744073709551616).toNat := ⟨_, rfl⟩
  have HU := Lib.hid hu
  have hun : IntKind.u64.wrap n = (u : Int) := by rw [IntKind.wrap_u64]; omega
  have HW := Lib.hid (up_bytes n h1 h2 u hu)
  have hu64 : u < 18446744073709551616 := by omega
  clear hu
  go_enter Try.func93, Try.ntmps93
  go_wp2
  go_loopw [5] (fun i wr => ∃ k : Nat, k ≤ 8 ∧ i = .int .i64 k ∧ Hid (ArrW wr (w.heap.size + 1) u k) ∧ Hid (ArrW wr w.heap.size 0 0) ∧ Below w.heap.size w wr) (fun i _ => 8 - (intOf i).toNat)
  case atStart =>
    refine ⟨0, by omega, rfl, ?_, ?_, ((Below.refl _ _).alloc (Nat.le_refl _) _).alloc (by simp) _⟩
    · intro j hj
      have hj8 : j = 0 ∨ j = 1 ∨ j = 2 ∨ j = 3 ∨ j = 4 ∨ j = 5 ∨ j = 6 ∨ j = 7 := by omega
      have e : (w.alloc (.cells #[.int .u8 0, .int .u8 0, .int .u8 0, .int .u8 0, .int .u8 0, .int .u8 0, .int .u8 0, .int .u8 0] 124)).heap.size = w.heap.size + 1 := by simp
      refine ⟨?_, ?_⟩
      · rw [← e, World.cell?_alloc_new]
        rcases hj8 with rfl | rfl | rfl | rfl | rfl | rfl | rfl | rfl <;> rfl
      · simp only [World.frozen?]; rw [← e, heap_alloc_new]; simp
    · intro j hj
      have hj8 : j = 0 ∨ j = 1 ∨ j = 2 ∨ j = 3 ∨ j = 4 ∨ j = 5 ∨ j = 6 ∨ j = 7 := by omega
      have hb := Below.box (w.alloc (.cells #[.int .u8 0, .int .u8 0, .int .u8 0, .int .u8 0, .int .u8 0, .int .u8 0, .int .u8 0, .int .u8 0] 124)) (.cells #[.int .u8 0, .int .u8 0, .int .u8 0, .int .u8 0, .int .u8 0, .int .u8 0, .int .u8 0, .int .u8 0] 124)
      refine ⟨?_, ?_⟩
      · rw [hb.cell (p := ⟨w.heap.size, j, none⟩) (by simp), World.cell?_alloc_new]
        rcases hj8 with rfl | rfl | rfl | rfl | rfl | rfl | rfl | rfl <;> rfl
      · rw [hb.frozen (p := ⟨w.heap.size, j, none⟩) (by simp)]
        simp only [World.frozen?]; rw [heap_alloc_new]; simp
  case round =>
    obtain ⟨k, hk, rfl, HA, HZ, hb⟩ := hrel
    have HZ2 : ∀ (j : Nat) (v : Value), ArrW (wr.setCell ⟨w.heap.size + 1, j, none⟩ v) w.heap.size 0 0 := by
      intro j v i hi
      obtain ⟨a1, a2⟩ := HZ.out i hi
      exact ⟨(World.cell?_setCell_other _ _ _ _ (by simp)).trans a1, by rw [World.frozen?_setCell]; exact a2⟩
    have HZ3 := Lib.hid HZ2
    clear HZ2
    by_cases hlt : k < 8
    · have hk8 : k = 0 ∨ k = 1 ∨ k = 2 ∨ k = 3 ∨ k = 4 ∨ k = 5 ∨ k = 6 ∨ k = 7 := by omega
      have hset := fun v hv => HA.out.set hlt v hv
      obtain ⟨c0, f0⟩ := HA.out k hlt
      have HSet := Lib.hid hset
      clear hset
      rcases hk8 with rfl | rfl | rfl | rfl | rfl | rfl | rfl | rfl
      all_goals
        go_wp2
        go_roundw
        case rel => first | exact ⟨1, by omega, rfl, HSet.out _ (by simp only [byteJ]; omega), HZ3.out _ _, hb.setCell (by simp) _⟩ | exact ⟨2, by omega, rfl, HSet.out _ (by simp only [byteJ]; omega), HZ3.out _ _, hb.setCell (by simp) _⟩ | exact ⟨3, by omega, rfl, HSet.out _ (by simp only [byteJ]; omega), HZ3.out _ _, hb.setCell (by simp) _⟩ | exact ⟨4, by omega, rfl, HSet.out _ (by simp only [byteJ]; omega), HZ3.out _ _, hb.setCell (by simp) _⟩ | exact ⟨5, by omega, rfl, HSet.out _ (by simp only [byteJ]; omega), HZ3.out _ _, hb.setCell (by simp) _⟩ | exact ⟨6, by omega, rfl, HSet.out _ (by simp only [byteJ]; omega), HZ3.out _ _, hb.setCell (by simp) _⟩ | exact ⟨7, by omega, rfl, HSet.out _ (by simp only [byteJ]; omega), HZ3.out _ _, hb.setCell (by simp) _⟩ | exact ⟨8, by omega, rfl, HSet.out _ (by simp only [byteJ]; omega), HZ3.out _ _, hb.setCell (by simp) _⟩
        case measure => simp [intOf]
    · have hk8 : k = 8 := by omega
      subst hk8
      obtain ⟨a0, g0⟩ := HA.out 0 (by omega)
      obtain ⟨a1, g1⟩ := HA.out 1 (by omega)
      obtain ⟨a2, g2⟩ := HA.out 2 (by omega)
      obtain ⟨a3, g3⟩ := HA.out 3 (by omega)
      obtain ⟨a4, g4⟩ := HA.out 4 (by omega)
      obtain ⟨a5, g5⟩ := HA.out 5 (by omega)
      obtain ⟨a6, g6⟩ := HA.out 6 (by omega)
      obtain ⟨a7, g7⟩ := HA.out 7 (by omega)
      obtain ⟨z0, y0⟩ := HZ.out 0 (by omega)
      obtain ⟨z1, y1⟩ := HZ.out 1 (by omega)
      obtain ⟨z2, y2⟩ := HZ.out 2 (by omega)
      obtain ⟨z3, y3⟩ := HZ.out 3 (by omega)
      obtain ⟨z4, y4⟩ := HZ.out 4 (by omega)
      obtain ⟨z5, y5⟩ := HZ.out 5 (by omega)
      obtain ⟨z6, y6⟩ := HZ.out 6 (by omega)
      obtain ⟨z7, y7⟩ := HZ.out 7 (by omega)
      simp only [show (0:Nat) < 8 by omega, show (1:Nat) < 8 by omega, show (2:Nat) < 8 by omega, show (3:Nat) < 8 by omega, show (4:Nat) < 8 by omega, show (5:Nat) < 8 by omega, show (6:Nat) < 8 by omega, show (7:Nat) < 8 by omega, if_true] at a0 a1 a2 a3 a4 a5 a6 a7
      have hx := xor128 (byteJ u 0) (byteJ_lt u 0)
      generalize byteJ u 0 = b0 at *
      generalize byteJ u 1 = b1 at *
      generalize byteJ u 2 = b2 at *
      generalize byteJ u 3 = b3 at *
      generalize byteJ u 4 = b4 at *
      generalize byteJ u 5 = b5 at *
      generalize byteJ u 6 = b6 at *
      generalize byteJ u 7 = b7 at *
      clear HA HZ HZ3
      go_wp2
      rw [HW.out]
      refine bodyPost_ret (v := aggB [(b0 + 128) % 256, b1, b2, b3, b4, b5, b6, b7]) (by simp [results, Try.results93, go_sem, aggB, *]) rfl ⟨rfl, ?_⟩
      repeat (refine Below.setCell ?_ (by first | exact Nat.le_refl _ | (simp; done) | (simp; omega)) _)
      exact hb

/-- An integer of eight bytes, the greatest first, the first with its sign turned over. -/
def rdW (l : List Nat) : Int := (unB l : Int) - 9223372036854775808

end Go.Proofs.Ytialpfdhdcjpaaa
