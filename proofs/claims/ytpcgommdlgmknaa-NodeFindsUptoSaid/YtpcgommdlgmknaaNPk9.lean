/- Several texts of one proof, one behind the other. -/
import Derived.Test.YtpcgommdlgmknaaNPk8
import Derived.Lib.ConvBytes
import Derived.Laws.CopyRow
import Derived.Laws.CopyOwn
import Derived.IntWalk
import Derived.ChangeKeysEq
import Derived.MapKept

/- The walk of key.escape. -/
namespace Go.Proofs.Ytpcgommdlgmknaa
open Go.RowKit

theorem escL_take (l : List Nat) (k : Nat) (h : k < l.length) : escL (l.take (k + 1)) = escL (l.take k) ++ (if l[k] = 0 then [0, 255] else [l[k]]) := by
  unfold escL; rw [List.take_succ_eq_append_getElem h, List.flatMap_append]; simp [List.flatMap_cons]

theorem escL_len (l : List Nat) : (escL l).length ≤ 2 * l.length := by
  induction l with
  | nil => simp [escL]
  | cons c r ih =>
    by_cases h : c = 0
    · subst h; rw [escL_cons0]; simp; omega
    · rw [escL_cons h]; simp; omega

theorem OwnB.base {w : World} {b b' : Nat} {T : TypeId} {v : Value} {l : List Nat} (h : OwnB w b T v l) (hb : b' ≤ b) : OwnB w b' T v l := by
  obtain ⟨h0, h1, h2⟩ := h
  refine ⟨h0, h1, ?_⟩
  rcases h2 with h2 | ⟨g, c, cur, hv, hg, rest⟩
  · exact .inl h2
  · exact .inr ⟨g, c, cur, hv, by omega, rest⟩

/-- '[]byte(s)': the bytes of s in a block of their own. -/
theorem conv_bytes (s : ByteArray) (w : World) : ∃ W1 cap, (convert 9 27 (.string s)).run Try.prog w = .ok (.slice (some ⟨w.heap.size, 0, none⟩) s.size cap) W1 ∧ Below w.heap.size w W1 ∧ W1.heap.size = w.heap.size + 1 ∧
    ∀ (j : Nat) (h : j < (bytesOf s).length), W1.cell? ⟨w.heap.size, j, none⟩ = some (.int .u8 ((bytesOf s)[j] : Int)) := by
  refine ⟨_, _, Lib.run_convert_string_bytes w 9 27 5 s Try.underlying9 Try.underlying27 Try.underlying5, ⟨rfl, rfl, rfl, ?_, fun k hk => Lib.bytesWorld_at_old w _ s k hk⟩, Lib.bytesWorld_size w _ s, ?_⟩
  · rw [Lib.bytesWorld_size]; omega
  · intro j hj
    have hj2 : j < s.size := by rw [bytesOf_len] at hj; exact hj
    rw [Lib.bytesWorld_cell w _ s j hj2]
    have : (bytesOf s)[j] = (s.data.toList.getD j 0).toNat := by
      simp only [bytesOf, List.getElem_map]
      congr 1
      have hj3 : j < s.data.toList.length := by simpa using hj2
      rw [List.getD_eq_getElem?_getD, List.getElem?_eq_getElem hj3]; rfl
    rw [this]

end Go.Proofs.Ytpcgommdlgmknaa

/- The walks of key.whole and key.readWhole. -/
namespace Go.Proofs.Ytpcgommdlgmknaa
open Go.RowKit

/-- Byte j of eight, the greatest first. -/
def byteJ (u : Nat) : Nat → Nat
  | 0 => u / 72057594037927936 % 256
  | 1 => u / 281474976710656 % 256
  | 2 => u / 1099511627776 % 256
  | 3 => u / 4294967296 % 256
  | 4 => u / 16777216 % 256
  | 5 => u / 65536 % 256
  | 6 => u / 256 % 256
  | _ => u % 256

/-- An array of eight bytes, of which the first k are those of u. -/
def ArrW (w : World) (B u k : Nat) : Prop := ∀ j, j < 8 → w.cell? ⟨B, j, none⟩ = some (.int .u8 (((if j < k then byteJ u j else 0) : Nat) : Int)) ∧ w.frozen? ⟨B, j, none⟩ = false

theorem ArrW.set {w : World} {B u k : Nat} (h : ArrW w B u k) (hk : k < 8) (v : Int) (hv : v = (byteJ u k : Int)) : ArrW (w.setCell ⟨B, k, none⟩ (.int .u8 v)) B u (k + 1) := by
  subst hv
  intro j hj
  obtain ⟨h1, h2⟩ := h j hj
  refine ⟨?_, by rw [World.frozen?_setCell]; exact h2⟩
  by_cases hjk : j = k
  · subst hjk
    rw [World.cell?_setCell_same _ _ _ h1, if_pos (by omega)]
  · rw [World.cell?_setCell_other _ _ _ _ (by simp [Ne.symm hjk]), h1]
    by_cases hlt : j < k
    · rw [if_pos hlt, if_pos (by omega)]
    · rw [if_neg hlt, if_neg (by omega)]

theorem byteJ_lt (u j : Nat) : byteJ u j < 256 := by
  unfold byteJ; split <;> omega

set_option maxRecDepth 100000 in
theorem xor128 (c : Nat) (h : c < 256) : bits .xor .u8 (c : Int) 128 = (((c + 128) % 256 : Nat) : Int) := by
  have e : ∀ c : Nat, c < 256 → c ^^^ 128 = (c + 128) % 256 := by decide
  rw [← e c h]
  exact u8_xor_nat c 128 h (by omega)

/-- The bytes of an integer: those of the number as it is, the first with its sign turned over. -/
theorem up_bytes (n : Int) (h1 : -9223372036854775808 ≤ n) (h2 : n ≤ 9223372036854775807) (u : Nat) (hu : u = (n % 18446744073709551616).toNat) :
    whole8 (up64 n) = [(byteJ u 0 + 128) % 256, byteJ u 1, byteJ u 2, byteJ u 3, byteJ u 4, byteJ u 5, byteJ u 6, byteJ u 7] := by
  subst hu
  simp only [whole8, up64, byteJ, List.cons.injEq, and_true]
  omega

def aggB (l : List Nat) : Value := .agg (l.map fun (c : Nat) => Value.int .u8 (c : Int)).toArray

end Go.Proofs.Ytpcgommdlgmknaa

/- The walk of key.readWhole. -/
namespace Go.Proofs.Ytpcgommdlgmknaa
open Go.RowKit

/-- The cells of an array of eight bytes. -/
def Arr8 (w : World) (B : Nat) (l : List Nat) : Prop := l.length = 8 ∧ (∀ c ∈ l, c < 256) ∧ ∀ j (h : j < l.length), w.cell? ⟨B, j, none⟩ = some (.int .u8 (l[j] : Int)) ∧ w.frozen? ⟨B, j, none⟩ = false

/-- 'n<<8 | c'. -/
theorem orB (V c : Nat) (hV : V < 72057594037927936) (hc : c < 256) : bits .or .u64 ((V : Int) * 256) (c : Int) = ((V * 256 + c : Nat) : Int) := by
  have := u64_or_nat (V * 256) c (by omega) (by omega)
  rw [nat_join 8 (V * 256) c (by omega) (by omega)] at this
  rw [Int.natCast_mul] at this
  exact this

end Go.Proofs.Ytpcgommdlgmknaa

/- The walks of fixed.Get and of the reader's text and number. -/
namespace Go.Proofs.Ytpcgommdlgmknaa
open Go.RowKit

theorem valL_take (l : List Nat) (k c : Nat) (h : l[k]? = some c) : valL (l.take (k + 1)) = 256 * valL (l.take k) + c := by
  rw [List.take_add_one, h, Option.toList_some, valL_snoc]

theorem orI (V c : Nat) (hV : V < 281474976710656) (hc : c < 256) : bits .or .i64 ((V : Int) * 256) (c : Int) = ((256 * V + c : Nat) : Int) := by
  have hj := nat_join 8 (V * 256) c (by omega) (by omega)
  show IntKind.i64.wrap ((BitVec.ofInt 64 ((V : Int) * 256) ||| BitVec.ofInt 64 (c : Int)).toNat : Int) = _
  rw [show ((V : Int) * 256) = ((V * 256 : Nat) : Int) by omega, BitVec.toNat_or, ofInt_u64 _ (by omega), ofInt_u64 _ (by omega), hj, IntWalk.i64_in _ ⟨by omega, by omega⟩]
  omega

set_option maxHeartbeats 1000000 in
theorem get_any (s : ByteArray) (hs : s.size ≤ 7) (w : World) :
    Calls Try.prog 59 #[.string s] w fun e w' => e = .returned (.int .i64 ((valL (bytesOf s) : Nat) : Int)) ∧ w = w' := by
  have HB := Lib.hid (fun k => valL_lt ((bytesOf s).take k) (fun c hc => bytesOf_lt s c (List.mem_of_mem_take hc)))
  have HT := Lib.hid (fun k c => valL_take (bytesOf s) k c)
  go_enter Try.func59, Try.ntmps59
  go_wp2
  go_loop [3, 7] (fun n i => ∃ k V : Nat, k ≤ s.size ∧ i = .int .i64 k ∧ n = .int .i64 (V : Int) ∧ Hid (V = valL ((bytesOf s).take k))) (fun _ i => s.size - (intOf i).toNat)
  case atStart => exact ⟨0, 0, by omega, rfl, rfl, rfl⟩
  case round =>
    obtain ⟨k, V, hk, rfl, rfl, HV⟩ := hrel
    by_cases hlt : k < s.size
    · have hV : V < 281474976710656 := by
        have h1 := HB.out k
        rw [← HV.out, List.length_take, bytesOf_len] at h1
        have h2 : (256 : Nat) ^ min k s.size ≤ 256 ^ 6 := Nat.pow_le_pow_right (by omega) (by omega)
        omega
      have hc := bytesOf_get s k hlt
      have hc256 : s[k].toNat < 256 := (s[k]'hlt).toNat_lt
      have HS : Hid (256 * V + s[k].toNat = valL ((bytesOf s).take (k + 1))) := by
        show _ = _
        rw [HT.out k _ hc, ← HV.out]
      have HO := Lib.hid (orI V s[k].toNat hV hc256)
      clear hc
      go_wp2
      go_round
      case rel => exact ⟨k + 1, 256 * V + s[k].toNat, by omega, by go_num, by rw [HO.out], HS⟩
      case measure => simp [intOf]; omega
    · go_wp2
      go_ret
      exact ⟨by rw [HV.out, List.take_of_length_le (by rw [bytesOf_len]; omega)]; rfl, rfl⟩
/-- k bytes of the reader's text from its place on. -/
def rdT (s : ByteArray) (at_ : Nat) (ok : Bool) (k : Nat) : ByteArray × Nat × Bool := if at_ + k ≤ s.size then (strN (cutL (bytesOf s) at_ k), at_ + k, ok) else (⟨#[]⟩, at_, false)

/-- The reader in block rb. -/
def Rdr (w : World) (rb : Nat) (s : ByteArray) (at_ : Nat) (ok : Bool) : Prop := Blk w rb 78 #[.string s, .int .i64 (at_ : Int), .bool ok]

def RetTx (w : World) (rb : Nat) (s : ByteArray) (r : ByteArray × Nat × Bool) (e : Ending) (w' : World) : Prop := e = .returned (.string r.1) ∧ Rdr w' rb s r.2.1 r.2.2 ∧ Chg [rb] w w'

theorem extract_cut (s : ByteArray) (a k : Nat) (h : a + k ≤ s.size) : s.extract a (a + k) = strN (cutL (bytesOf s) a k) := by
  have e : cutL (bytesOf s) a k = bytesOf (s.extract a (a + k)) := by
    unfold cutL bytesOf
    rw [← List.map_drop, ← List.map_take]
    congr 1
    simp [ByteArray.extract, ByteArray.copySlice]
  rw [e, strN_bytesOf]

set_option maxRecDepth 100000 in
set_option maxHeartbeats 1000000 in
theorem rtext_any (rb : Nat) (s : ByteArray) (at_ k : Nat) (ok : Bool) (ki : Int) (w : World) (hki : ki = (k : Int)) (h : Rdr w rb s at_ ok) (hat : at_ ≤ s.size) (hs : s.size ≤ 1000000) (hk : k ≤ 10000000000) :
    Calls Try.prog 60 #[.pointer (some ⟨rb, 0, none⟩), .int .i64 ki] w (RetTx w rb s (rdT s at_ ok k)) := by
  subst hki
  have hlt := h.lt
  have e0 : ∀ W, Later w.drew W → W.cell? ⟨rb, 0, none⟩ = some (.string s) := fun W hW => (((Below.refl _ _).drew.trans hW : Below w.heap.size w W).cell (p := ⟨rb, 0, none⟩) hlt).trans ((h.cell 0).trans rfl)
  have e1 : ∀ W, Later w.drew W → W.cell? ⟨rb, 1, none⟩ = some (.int .i64 (at_ : Int)) := fun W hW => (((Below.refl _ _).drew.trans hW : Below w.heap.size w W).cell (p := ⟨rb, 1, none⟩) hlt).trans ((h.cell 1).trans rfl)
  by_cases hfit : at_ + k ≤ s.size
  · have hr : rdT s at_ ok k = (strN (cutL (bytesOf s) at_ k), at_ + k, ok) := by unfold rdT; rw [if_pos hfit]
    have HR := Lib.hid hr
    have hsl : ∀ W, (Instr.slice 9 (.string s) (some (.int .i64 (at_ : Int))) (some (.int .i64 ((at_ : Int) + (k : Int)))) none).run Try.prog W = .ok (.string (strN (cutL (bytesOf s) at_ k))) W := by
      intro W
      rw [run_slice_string W 9 s .i64 .i64 (at_ : Int) ((at_ : Int) + (k : Int)) Try.underlying9 (by omega) (by omega) (by omega), ← extract_cut s at_ k hfit]
      congr 3
    have hws : IntKind.i64.wrap ((s.size : Int) - (at_ : Int)) = (s.size : Int) - (at_ : Int) := IntWalk.i64_in _ ⟨by omega, by omega⟩
    have q1 : decide ((s.size : Int) - (at_ : Int) < (k : Int)) = false := by simp; omega
    have HB := Lib.hid h
    clear hr h
    go_enter Try.func60, Try.ntmps60
    go_wp2_with fail
    refine wp_region_ord [(0, true), (1, true), (2, true), (3, true), (4, true), (5, true), (6, true), (7, true), (8, true), (9, true), (10, true), (11, true)] (by kernel_rfl) (by kernel_rfl) (by kernel_rfl) (by kernel_rfl) ?_
    repeat (first | (refine wpO_F (v := ?_) rfl (by rfl) (fun w' hL => ?_) ?_; rotate_left; (solve | (go_simp; with_reducible rfl) | go_simp); try simp only [Act.put, List.setIfInBounds_toArray, List.set_cons_zero, List.set_cons_succ]) | (refine wpO_G rfl (by rfl) ?_; try simp only [Act.put, List.setIfInBounds_toArray, List.set_cons_zero, List.set_cons_succ]))
    refine wpO_nil ?_
    clear e0 e1
    have c1 : w.drew.cell? ⟨rb, 1, none⟩ = some (.int .i64 (at_ : Int)) := (HB.out.cell 1).trans rfl
    have fz : w.drew.frozen? ⟨rb, 1, none⟩ = false := HB.out.frozen 1
    have hset := HB.out.set_ 1 (.int .i64 ((at_ : Int) + (k : Int)))
    have hR2 : Rdr (w.setCell ⟨rb, 1, none⟩ (.int .i64 ((at_ : Int) + (k : Int)))) rb s (at_ + k) ok := by
      have e : ((at_ : Int) + (k : Int)) = ((at_ + k : Nat) : Int) := by omega
      unfold Rdr
      rw [← e]
      exact hset
    have hlt2 : rb < (w.setCell ⟨rb, 1, none⟩ (.int .i64 ((at_ : Int) + (k : Int)))).heap.size := hR2.lt
    have e0 : ∀ W, Later (w.setCell ⟨rb, 1, none⟩ (.int .i64 ((at_ : Int) + (k : Int)))).drew.drew W → W.cell? ⟨rb, 0, none⟩ = some (.string s) := fun W hW => (((Below.refl _ _).drew.drew.trans hW : Below (w.setCell ⟨rb, 1, none⟩ (.int .i64 ((at_ : Int) + (k : Int)))).heap.size _ W).cell (p := ⟨rb, 0, none⟩) hlt2).trans ((hR2.cell 0).trans rfl)
    have e1 : ∀ W, Later (w.setCell ⟨rb, 1, none⟩ (.int .i64 ((at_ : Int) + (k : Int)))).drew.drew W → W.cell? ⟨rb, 1, none⟩ = some (.int .i64 ((at_ : Int) + (k : Int))) := fun W hW => (((Below.refl _ _).drew.drew.trans hW : Below (w.setCell ⟨rb, 1, none⟩ (.int .i64 ((at_ : Int) + (k : Int)))).heap.size _ W).cell (p := ⟨rb, 1, none⟩) hlt2).trans ((hR2.cell 1).trans (by simp))
    have HR2 := Lib.hid hR2
    have HC2 : Hid (Chg [rb] w (w.setCell ⟨rb, 1, none⟩ (.int .i64 ((at_ : Int) + (k : Int))))) := (Chg.refl _ _).setCell (.inl (by simp)) _
    clear hset hR2
    go_wp2_with fail
    refine wp_region_ord [(0, true), (1, true), (2, true), (3, true), (4, true), (5, true), (6, true), (7, true), (8, true), (9, true), (10, true)] (by kernel_rfl) (by kernel_rfl) (by kernel_rfl) (by kernel_rfl) ?_
    repeat (first | (refine wpO_F (v := ?_) rfl (by rfl) (fun w' hL => ?_) ?_; rotate_left; (solve | (go_simp; with_reducible rfl) | go_simp); try simp only [Act.put, List.setIfInBounds_toArray, List.set_cons_zero, List.set_cons_succ]) | (refine wpO_G rfl (by rfl) ?_; try simp only [Act.put, List.setIfInBounds_toArray, List.set_cons_zero, List.set_cons_succ]))
    refine wpO_nil ?_
    clear e0 e1
    go_wp2
    go_ret
    rw [HR.out]
    exact ⟨rfl, HR2.out.drew.drew, HC2.out.drew.drew⟩
  · have hr : rdT s at_ ok k = (⟨#[]⟩, at_, false) := by unfold rdT; rw [if_neg hfit]
    have HR := Lib.hid hr
    have hws : IntKind.i64.wrap ((s.size : Int) - (at_ : Int)) = (s.size : Int) - (at_ : Int) := IntWalk.i64_in _ ⟨by omega, by omega⟩
    have q1 : decide ((s.size : Int) - (at_ : Int) < (k : Int)) = true := by simp; omega
    have HB := Lib.hid h
    clear hr h
    go_enter Try.func60, Try.ntmps60
    go_wp2_with fail
    refine wp_region_ord [(0, true), (1, true), (2, true), (3, true), (4, true), (5, true), (6, true), (7, true), (8, true), (9, true), (10, true), (11, true)] (by kernel_rfl) (by kernel_rfl) (by kernel_rfl) (by kernel_rfl) ?_
    repeat (first | (refine wpO_F (v := ?_) rfl (by rfl) (fun w' hL => ?_) ?_; rotate_left; (solve | (go_simp; with_reducible rfl) | go_simp); try simp only [Act.put, List.setIfInBounds_toArray, List.set_cons_zero, List.set_cons_succ]) | (refine wpO_G rfl (by rfl) ?_; try simp only [Act.put, List.setIfInBounds_toArray, List.set_cons_zero, List.set_cons_succ]))
    refine wpO_nil ?_
    clear e0 e1
    have c1 : w.drew.cell? ⟨rb, 2, none⟩ = some (.bool ok) := (HB.out.cell 2).trans rfl
    have fz : w.drew.frozen? ⟨rb, 2, none⟩ = false := HB.out.frozen 2
    have HR2 : Hid (Rdr (w.setCell ⟨rb, 2, none⟩ (.bool false)) rb s at_ false) := HB.out.set_ 2 (.bool false)
    have HC2 : Hid (Chg [rb] w (w.setCell ⟨rb, 2, none⟩ (.bool false))) := (Chg.refl _ _).setCell (.inl (by simp)) _
    go_wp2
    go_ret
    rw [HR.out]
    exact ⟨rfl, HR2.out.drew, HC2.out.drew⟩
end Go.Proofs.Ytpcgommdlgmknaa

/- Maps whose keys and elements are arrays of integers. -/
namespace Go.Proofs.Ytpcgommdlgmknaa
open Go.RowKit

/-- An array of integers of kind k, by value. -/
def arrN (k : IntKind) (l : List Nat) : Value := .agg (l.map fun (c : Nat) => Value.int k (c : Int)).toArray

theorem run_part_arr {P : Program} {e : TypeId} {k : IntKind} (he : P.underlying e = some (.int k)) (l : List Nat) (i : Nat) (x : Nat) (hi : l[i]? = some x) (w : World) :
    (part e (l.map fun (c : Nat) => Value.int k (c : Int)).toArray i).run P w = .ok (.int k (x : Int)) w := by
  simp [part, isAgg, run_underlying he, hi]

theorem run_eqItems_arr {P : Program} {e : TypeId} {k : IntKind} (he : P.underlying e = some (.int k)) (hc : P.cellsOf e = 1) (d : Nat) (w : World) :
    ∀ (xs ys px py : List Nat), xs.length = ys.length → px.length = py.length →
    (Op.eqItems (d + 1) e (P.cellsOf e) ((px ++ xs).map fun (c : Nat) => Value.int k (c : Int)).toArray ((py ++ ys).map fun (c : Nat) => Value.int k (c : Int)).toArray (List.range' px.length xs.length)).run P w = .ok (xs == ys) w
  | [], [], _, _, _, _ => by simp [Op.eqItems]
  | [], y :: ys, _, _, h, _ => by simp at h
  | x :: xs, [], _, _, h, _ => by simp at h
  | x :: xs, y :: ys, px, py, h, hp => by
    have ih := run_eqItems_arr he hc d w xs ys (px ++ [x]) (py ++ [y]) (by simpa using h) (by simp [hp])
    rw [List.append_assoc, List.append_assoc, List.singleton_append, List.singleton_append, List.length_append, List.length_singleton] at ih
    rw [List.length_cons, List.range'_succ]
    have p1 := run_part_arr he (px ++ x :: xs) px.length x (by simp) w
    have p2 := run_part_arr he (py ++ y :: ys) px.length y (by rw [hp]; simp) w
    have p3 := run_equalIn_int (P := P) w d e k k (x : Int) (y : Int) he
    simp only [Op.eqItems, hc, Nat.mul_one, Sem.run_bind, p1, p2, p3, Result.andThen_ok]
    rw [hc] at ih
    by_cases hxy : x = y
    · subst hxy
      simp only [beq_self_eq_true, Bool.not_true, Bool.false_eq_true, if_false]
      rw [ih]
      simp
    · have e1 : ((x : Int) == (y : Int)) = false := by simp; omega
      have e2 : (x :: xs == y :: ys) = false := by simp [hxy]
      rw [e1, e2]
      simp

/-- Two arrays are the same. -/
theorem run_equalIn_arrN {P : Program} {t e : TypeId} {k : IntKind} {n : Nat} (ht : P.underlying t = some (.array n e)) (he : P.underlying e = some (.int k)) (hc : P.cellsOf e = 1)
    (d : Nat) (xs ys : List Nat) (hx : xs.length = n) (hy : ys.length = n) (w : World) : (Op.equalIn (d + 2) t (arrN k xs) (arrN k ys)).run P w = .ok (xs == ys) w := by
  obtain ⟨i, hi⟩ := info_of_underlying he
  unfold arrN
  rw [run_equalIn_array w (d + 1) _ _ ht hi, List.range_eq_range']
  have := run_eqItems_arr he hc d w xs ys [] [] (by omega) rfl
  simpa [hx] using this

theorem run_equal_arrN {P : Program} {t e : TypeId} {k : IntKind} {n : Nat} (ht : P.underlying t = some (.array n e)) (he : P.underlying e = some (.int k)) (hc : P.cellsOf e = 1)
    (xs ys : List Nat) (hx : xs.length = n) (hy : ys.length = n) (w : World) : (Op.equal t (arrN k xs) (arrN k ys)).run P w = .ok (xs == ys) w :=
  run_equalIn_arrN ht he hc 9998 xs ys hx hy w

/-- What an association list has at a key. -/
def alGet : List (List Nat × List Nat) → List Nat → Option (List Nat)
  | [], _ => none
  | p :: r, x => if p.1 == x then some p.2 else alGet r x
/-- The list with v at key x. -/
def alPut : List (List Nat × List Nat) → List Nat → List Nat → List (List Nat × List Nat)
  | [], x, v => [(x, v)]
  | p :: r, x, v => if p.1 == x then (x, v) :: r else p :: alPut r x v
theorem alGet_put : ∀ (l : List (List Nat × List Nat)) (x v y : List Nat), alGet (alPut l x v) y = if x == y then some v else alGet l y
  | [], x, v, y => by simp [alGet, alPut]
  | p :: r, x, v, y => by
    unfold alPut
    by_cases h : p.1 == x
    · rw [if_pos h]
      simp only [alGet]
      by_cases h2 : x == y
      · simp [h2]
      · have h3 : (p.1 == y) = false := by
          rw [eq_of_beq h]
          simpa using h2
        simp [h2, h3]
    · rw [if_neg h]
      simp only [alGet, alGet_put r x v y]
      by_cases h2 : p.1 == y
      · have h3 : (x == y) = false := by
          rw [← eq_of_beq h2]
          simp only [beq_eq_false_iff_ne, ne_eq]
          intro e
          subst e
          simp at h
        simp [h2, h3]
      · simp [h2]
/-- Where the key is. -/
def alFind : List (List Nat × List Nat) → List Nat → Nat → Option (Nat × List Nat)
  | [], _, _ => none
  | p :: r, x, i => if p.1 == x then some (i, p.2) else alFind r x (i + 1)
theorem alFind_get : ∀ (l : List (List Nat × List Nat)) (x : List Nat) (i : Nat), (alFind l x i).map (·.2) = alGet l x
  | [], _, _ => rfl
  | p :: r, x, i => by
    unfold alFind alGet
    split
    · rfl
    · exact alFind_get r x (i + 1)

/-- The entries of a map of arrays. -/
def EntsA (k kv : IntKind) (n : Nat) (es : List MapEntry) (al : List (List Nat × List Nat)) : Prop :=
  es.map (fun e => (e.key, e.val)) = al.map (fun p => (arrN k p.1, arrN kv p.2)) ∧ ∀ p ∈ al, p.1.length = n

theorem run_findAsking_arr {P : Program} {t e : TypeId} {k kv : IntKind} {n : Nat} (ht : P.underlying t = some (.array n e)) (he : P.underlying e = some (.int k)) (hc : P.cellsOf e = 1) (x : List Nat) (hx : x.length = n) (w : World) :
    ∀ (es : List MapEntry) (al : List (List Nat × List Nat)) (i : Nat), EntsA k kv n es al → (Instr.findAsking t (arrN k x) es i).run P w = .ok ((alFind al x i).map fun p => (p.1, arrN kv p.2)) w
  | [], [], _, _ => by simp [Instr.findAsking, alFind]
  | [], p :: al, _, h => by simp [EntsA] at h
  | m :: es, [], _, h => by simp [EntsA] at h
  | m :: es, p :: al, i, h => by
    obtain ⟨h1, h2⟩ := h
    simp only [List.map_cons, List.cons.injEq, Prod.mk.injEq] at h1
    have ih := run_findAsking_arr ht he hc x hx w es al (i + 1) ⟨h1.2, fun q hq => h2 q (by simp [hq])⟩
    have heq := run_equal_arrN ht he hc x p.1 hx (h2 p (by simp)) w
    unfold Instr.findAsking alFind
    simp only [Sem.run_bind, h1.1.1, heq, Result.andThen_ok]
    by_cases hxp : p.1 == x
    · have e1 := eq_of_beq hxp
      have : (x == p.1) = true := by rw [e1]; simp
      rw [if_pos hxp, this]
      simp [h1.1.2]
    · have : (x == p.1) = false := by
        simp only [beq_eq_false_iff_ne, ne_eq]
        intro e2
        subst e2
        simp at hxp
      rw [if_neg hxp, this]
      simpa using ih

theorem run_findKey_arr {P : Program} {t e : TypeId} {k kv : IntKind} {n : Nat} (ht : P.underlying t = some (.array n e)) (he : P.underlying e = some (.int k)) (hc : P.cellsOf e = 1) (x : List Nat) (hx : x.length = n) (w : World)
    (es : List MapEntry) (al : List (List Nat × List Nat)) (h : EntsA k kv n es al) : (Instr.findKey t (arrN k x) es).run P w = .ok ((alFind al x 0).map fun p => (p.1, arrN kv p.2)) w := by
  have hA := run_findAsking_arr ht he hc x hx w es al 0 h
  unfold Instr.findKey
  simp only [Sem.run_bind, run_underlying ht, Result.andThen_ok]
  cases es with
  | nil =>
    simp only [Instr.findNow]
    cases al with
    | nil => simp [alFind]
    | cons p al => simp [EntsA] at h
  | cons m es => simpa [Instr.findNow, Instr.sameNow] using hA

theorem run_checkKey_arr {P : Program} {t e : TypeId} {k : IntKind} {n : Nat} (ht : P.underlying t = some (.array n e)) (he : P.underlying e = some (.int k)) (hc : P.cellsOf e = 1) (x : List Nat) (hx : x.length = n) (w : World) (em : Bool) :
    (Instr.checkKey em 10000 t (arrN k x)).run P w = .ok () w := by
  obtain ⟨i, hi⟩ := info_of_underlying he
  unfold Instr.checkKey
  simp only [Sem.run_bind, run_underlying ht, Result.andThen_ok, arrN]
  simp only [Std.Legacy.Range.forIn_eq_forIn_range', Std.Legacy.Range.size, Nat.sub_zero, Nat.add_one_sub_one, Nat.div_one]
  have key : ∀ (is : List Nat), (∀ j ∈ is, j < n) → (forIn is PUnit.unit fun i (_ : PUnit) => do
      let n ← Go.sizeOf e
      let v ← part e (x.map fun (c : Nat) => Value.int k (c : Int)).toArray (i * n)
      Instr.checkKey em 9999 e v
      pure (ForInStep.yield PUnit.unit) : Sem PUnit).run P w = .ok PUnit.unit w := by
    intro is
    induction is with
    | nil => intro _; simp
    | cons j is ih =>
      intro hj
      have hjn : j < x.length := by have := hj j (by simp); omega
      simp only [List.forIn_cons, Sem.run_bind, run_sizeOf w hi, Result.andThen_ok, hc, Nat.mul_one]
      rw [run_part_arr he x j x[j] (List.getElem?_eq_getElem hjn)]
      simp only [Result.andThen_ok]
      rw [Go.MapKept.run_checkKey (d := .int k) he (k := .int k (x[j] : Int)) (by simp [Go.MapKept.IsKey]) em 9998]
      simp only [Result.andThen_ok, Sem.run_pure]
      exact ih (fun i hi => hj i (by simp [hi]))
  have := key (List.range' 0 n) (fun j hj => by simp [List.mem_range'] at hj; omega)
  simp only [bind_pure_comp] at this
  simp only [bind_pure_comp]
  rw [this]
  rfl

/-- Block g is a map of arrays: at key x it has g x. -/
def MapA (k kv : IntKind) (n : Nat) (w : World) (b : Nat) (g : List Nat → Option (List Nat)) : Prop :=
  ∃ (es : Array MapEntry) (clk : Nat) (al : List (List Nat × List Nat)), MapB w b es clk ∧ EntsA k kv n es.toList al ∧ ∀ x, alGet al x = g x

theorem MapA.chg {k kv : IntKind} {n : Nat} {w w' : World} {b : Nat} {g : List Nat → Option (List Nat)} {S : List Nat} (h : MapA k kv n w b g) (hc : Chg S w w') (hn : b ∉ S) : MapA k kv n w' b g := by
  obtain ⟨es, clk, al, h1, h2⟩ := h
  exact ⟨es, clk, al, h1.chg hc hn, h2⟩
theorem MapA.lt {k kv : IntKind} {n : Nat} {w : World} {b : Nat} {g : List Nat → Option (List Nat)} (h : MapA k kv n w b g) : b < w.heap.size := by
  obtain ⟨es, clk, al, h1, h2⟩ := h
  exact h1.lt
theorem MapA.setCell {k kv : IntKind} {n : Nat} {w : World} {b : Nat} {g : List Nat → Option (List Nat)} (h : MapA k kv n w b g) (c o : Nat) (u : Value) : MapA k kv n (w.setCell ⟨c, o, none⟩ u) b g := by
  obtain ⟨es, clk, al, h1, h2⟩ := h
  exact ⟨es, clk, al, h1.setCell u, h2⟩
theorem MapA.alloc {k kv : IntKind} {n : Nat} {w : World} {b : Nat} {g : List Nat → Option (List Nat)} (h : MapA k kv n w b g) (o : Obj) : MapA k kv n (w.alloc o) b g :=
  h.chg (S := []) ((Chg.refl _ _).alloc o) (by simp)
theorem MapA.drew {k kv : IntKind} {n : Nat} {w : World} {b : Nat} {g : List Nat → Option (List Nat)} (h : MapA k kv n w b g) : MapA k kv n w.drew b g := h
theorem MapA.ne_blk {k kv : IntKind} {n : Nat} {w : World} {b g' : Nat} {g : List Nat → Option (List Nat)} {t : TypeId} {cs : Array Value} (h : MapA k kv n w b g) (h' : Blk w g' t cs) : b ≠ g' := by
  obtain ⟨es, clk, al, h1, h2⟩ := h
  exact h1.ne_blk h'
theorem MapA.new (k kv : IntKind) (n : Nat) (w : World) : MapA k kv n (w.alloc (.map #[] 0)) w.heap.size fun _ => none :=
  ⟨#[], 0, [], heap_alloc_new w _, ⟨rfl, by simp⟩, fun _ => rfl⟩

/-- 'm[x]'. -/
theorem MapA.lookup {P : Program} {k kv : IntKind} {n : Nat} {w : World} {b : Nat} {g : List Nat → Option (List Nat)} (h : MapA k kv n w b g) {T t te e : TypeId} {z : Value} (hT : P.underlying T = some (.map t te)) (ht : P.underlying t = some (.array n e)) (he : P.underlying e = some (.int k)) (hc : P.cellsOf e = 1)
    (hz : ∀ W, (zeroValue te).run P W = .ok z W) (x : List Nat) (hx : x.length = n) : (Instr.lookup T (.map (some b)) (arrN k x) false).run P w = .ok (((g x).map (arrN kv)).getD z) w := by
  obtain ⟨es, clk, al, h1, h2, h3⟩ := h
  unfold Instr.lookup
  simp only [Sem.run_bind, run_underlying hT, Result.andThen_ok, Go.MapKept.run_getObj_map h1, Sem.run_pure, run_checkKey_arr ht he hc x hx, run_findKey_arr ht he hc x hx w _ al h2]
  rw [← h3 x, ← alFind_get al x 0]
  cases alFind al x 0 with
  | none => simp [hz]
  | some p => simp

theorem sameBits_arr (m : Nat) (k : IntKind) : ∀ x : List Nat, Instr.sameBits (m + 2) (arrN k x) (arrN k x) = true := by
  intro x
  unfold arrN Instr.sameBits
  simp only [beq_self_eq_true, Bool.true_and]
  rw [List.all_eq_true]
  intro p hp
  have : p.1 = p.2 ∧ ∃ c : Nat, p.1 = .int k (c : Int) := by
    have h1 : p ∈ (x.map fun (c : Nat) => Value.int k (c : Int)).zip (x.map fun (c : Nat) => Value.int k (c : Int)) := by simpa using hp
    rw [List.mem_iff_getElem] at h1
    obtain ⟨i, hi, rfl⟩ := h1
    exact ⟨by simp, x[i]'(by simpa using hi), by simp⟩
  obtain ⟨e1, c, e2⟩ := this
  rw [← e1, e2]
  simp [Instr.sameBits]

/-- 'm[x] = v'. -/
theorem MapA.update {P : Program} {k kv : IntKind} {n : Nat} {w : World} {b : Nat} {g : List Nat → Option (List Nat)} (h : MapA k kv n w b g) {T t te e : TypeId} (hT : P.underlying T = some (.map t te)) (ht : P.underlying t = some (.array n e)) (he : P.underlying e = some (.int k)) (hc : P.cellsOf e = 1)
    (x v : List Nat) (hx : x.length = n) : ∃ o, (Instr.mapUpdate T (.map (some b)) (arrN k x) (arrN kv v)).run P w = .ok () (putObj w b o) ∧ ∀ w', w'.heap[b]? = some o → MapA k kv n w' b fun y => if x == y then some v else g y := by
  obtain ⟨es, clk, al, h1, h2, h3⟩ := h
  have hfin : ∀ (es' : Array MapEntry) (clk' : Nat), EntsA k kv n es'.toList (alPut al x v) → ∀ w' : World, w'.heap[b]? = some (.map es' clk') → MapA k kv n w' b fun y => if x == y then some v else g y := by
    intro es' clk' he' w' hw'
    refine ⟨es', clk', _, hw', he', fun y => ?_⟩
    rw [alGet_put, h3]
  unfold Instr.mapUpdate
  simp only [Sem.run_bind, run_underlying hT, Result.andThen_ok, Go.MapKept.run_getObj_map h1, Sem.run_pure, run_checkKey_arr ht he hc x hx, run_findKey_arr ht he hc x hx w _ al h2]
  have hf : ∀ (es : List MapEntry) (al : List (List Nat × List Nat)) (i : Nat), EntsA k kv n es al →
      (alFind al x i = none ∧ (∀ m : MapEntry, m.key = arrN k x → m.val = arrN kv v → EntsA k kv n (es ++ [m]) (alPut al x v))) ∨
      (∃ j u m, alFind al x i = some (i + j, u) ∧ es[j]? = some m ∧ m.key = arrN k x ∧ (∀ m' : MapEntry, m'.key = arrN k x → m'.val = arrN kv v → EntsA k kv n (es.set j m') (alPut al x v))) := by
    intro es
    induction es with
    | nil =>
      intro al i h
      cases al with
      | cons p al => simp [EntsA] at h
      | nil => exact .inl ⟨rfl, fun m h1 h2 => ⟨by simp [alPut, h1, h2], by simp [alPut, hx]⟩⟩
    | cons m es ih =>
      intro al i h
      cases al with
      | nil => simp [EntsA] at h
      | cons p al =>
        obtain ⟨q1, q2⟩ := h
        simp only [List.map_cons, List.cons.injEq, Prod.mk.injEq] at q1
        have h' : EntsA k kv n es al := ⟨q1.2, fun q hq => q2 q (by simp [hq])⟩
        by_cases hxp : p.1 == x
        · right
          refine ⟨0, p.2, m, by simp [alFind, hxp], rfl, by rw [q1.1.1, eq_of_beq hxp], fun m' h1 h2 => ?_⟩
          unfold alPut
          rw [if_pos hxp]
          refine ⟨by simp [h1, h2, q1.2], fun q hq => ?_⟩
          rw [List.mem_cons] at hq
          rcases hq with rfl | hq
          · exact hx
          · exact q2 q (by simp [hq])
        · have e2 : alFind (p :: al) x i = alFind al x (i + 1) := by simp [alFind, hxp]
          have e3 : alPut (p :: al) x v = p :: alPut al x v := by simp [alPut, hxp]
          rw [e2, e3]
          rcases ih al (i + 1) h' with ⟨g1, g2⟩ | ⟨j, u, m1, g1, g2, g3, g4⟩
          · left
            refine ⟨g1, fun m' k1 k2 => ?_⟩
            obtain ⟨r1, r2⟩ := g2 m' k1 k2
            refine ⟨?_, fun q hq => ?_⟩
            · rw [List.cons_append, List.map_cons, List.map_cons, r1, q1.1.1, q1.1.2]
            · rw [List.mem_cons] at hq
              rcases hq with rfl | hq
              · exact q2 _ (by simp)
              · exact r2 q hq
          · right
            refine ⟨j + 1, u, m1, by rw [g1]; congr 2; omega, by simpa using g2, g3, fun m' k1 k2 => ?_⟩
            obtain ⟨r1, r2⟩ := g4 m' k1 k2
            refine ⟨?_, fun q hq => ?_⟩
            · rw [List.set_cons_succ, List.map_cons, List.map_cons, r1, q1.1.1, q1.1.2]
            · rw [List.mem_cons] at hq
              rcases hq with rfl | hq
              · exact q2 _ (by simp)
              · exact r2 q hq
  rcases hf es.toList al 0 h2 with ⟨e1, e2⟩ | ⟨j, u, m, e1, e2, e3, e4⟩
  · rw [e1]
    simp only [Option.map_none]
    refine ⟨_, Go.MapKept.run_setObj_map _ h1, hfin _ _ ?_⟩
    rw [Array.toList_push]
    exact e2 _ rfl rfl
  · rw [e1]
    simp only [Option.map_some, Nat.zero_add]
    have hm : es[j]? = some m := by rw [← Array.getElem?_toList]; exact e2
    simp only [hm, Option.map_some, Option.getD_some, e3]
    have hstay : (Instr.keyThatStays (arrN k x) (arrN k x)).run P w = .ok (arrN k x) w := by
      unfold Instr.keyThatStays
      rw [if_pos (sameBits_arr 9998 k x)]
      simp
    rw [Sem.run_bind, hstay]
    simp only [Result.andThen_ok]
    refine ⟨_, Go.MapKept.run_setObj_map _ h1, hfin _ _ ?_⟩
    have hset : (es.modify j fun e => { e with key := arrN k x, val := arrN kv v }).toList = es.toList.set j { m with key := arrN k x, val := arrN kv v } := by
      apply List.ext_getElem?
      intro i
      rw [Array.getElem?_toList, Array.getElem?_modify, List.getElem?_set]
      by_cases hij : j = i
      · subst hij
        have hlt : j < es.toList.length := (List.getElem?_eq_some_iff.1 e2).1
        rw [if_pos rfl, if_pos rfl, if_pos hlt, hm]
        rfl
      · rw [if_neg hij, if_neg hij, Array.getElem?_toList]
    rw [hset]
    exact e4 _ rfl rfl
end Go.Proofs.Ytpcgommdlgmknaa
