/- Several texts of one proof, one behind the other. -/
import Derived.Test.YtlcphgomhhejbaaNPk11
import Derived.Laws.CopyRow
import Derived.Laws.CopyOwn
import Derived.IntWalk
import Derived.ChangeKeysEq
import Derived.MapKept
set_option linter.unusedSimpArgs false
set_option linter.unusedVariables false

/- For key.readWhole and fixed.ReadWhole: 'copy(a[:], b)', an array by index. -/
namespace Go.Proofs.Ytlcphgomhhejbaa
open Go.RowKit

/-- The cells of an array of eight bytes. -/
def Arr8 (w : World) (B : Nat) (l : List Nat) : Prop := l.length = 8 ∧ (∀ c ∈ l, c < 256) ∧ ∀ j (h : j < l.length), w.cell? ⟨B, j, none⟩ = some (.int .u8 (l[j] : Int)) ∧ w.frozen? ⟨B, j, none⟩ = false

/-- 'n<<8 | c'. -/
theorem orB (V c : Nat) (hV : V < 72057594037927936) (hc : c < 256) : bits .or .u64 ((V : Int) * 256) (c : Int) = ((V * 256 + c : Nat) : Int) := by
  have := u64_or_nat (V * 256) c (by omega) (by omega)
  rw [nat_join 8 (V * 256) c (by omega) (by omega)] at this
  rw [Int.natCast_mul] at this
  exact this

end Go.Proofs.Ytlcphgomhhejbaa

/- The walks of fixed.Get and of the reader's text and number. -/
namespace Go.Proofs.Ytlcphgomhhejbaa
open Go.RowKit

theorem valL_take (l : List Nat) (k c : Nat) (h : l[k]? = some c) : valL (l.take (k + 1)) = 256 * valL (l.take k) + c := by
  rw [List.take_add_one, h, Option.toList_some, valL_snoc]

theorem orI (V c : Nat) (hV : V < 281474976710656) (hc : c < 256) : bits .or .i64 ((V : Int) * 256) (c : Int) = ((256 * V + c : Nat) : Int) := by
  have hj := nat_join 8 (V * 256) c (by omega) (by omega)
  show IntKind.i64.wrap ((BitVec.ofInt 64 ((V : Int) * 256) ||| BitVec.ofInt 64 (c : Int)).toNat : Int) = _
  rw [show ((V : Int) * 256) = ((V * 256 : Nat) : Int) by omega, BitVec.toNat_or, ofInt_u64 _ (by omega), ofInt_u64 _ (by omega), hj, IntWalk.i64_in _ ⟨by omega, by omega⟩]
  omega

set_option maxHeartbeats 1000000 in
theorem get_any (s : ByteArray) (hs : s.size ≤ 7) (w : World) :
    Calls Try.prog 59 #[.string s] w fun e w' => e = .returned (.int .i64 ((valL (bytesOf s) : Nat) : Int)) ∧ w = w' := by
  have HB := Lib.hid (fun k => valL_lt ((bytesOf s).take k) (fun c hc => bytesOf_lt s c (List.mem_of_mem_take hc)))
  have HT := Lib.hid (fun k c => valL_take (bytesOf s) k c)
  go_enter Try.func59, Try.ntmps59
  go_wp2
  go_loop [3, 7] (fun n i => ∃ k V : Nat, k ≤ s.size ∧ i = .int .i64 k ∧ n = .int .i64 (V : Int) ∧ Hid (V = valL ((bytesOf s).take k))) (fun _ i => s.size - (intOf i).toNat)
  case atStart => exact ⟨0, 0, by omega, rfl, rfl, rfl⟩
  case round =>
    obtain ⟨k, V, hk, rfl, rfl, HV⟩ := hrel
    by_cases hlt : k < s.size
    · have hV : V < 281474976710656 := by
        have h1 := HB.out k
        rw [← HV.out, List.length_take, bytesOf_len] at h1
        have h2 : (256 : Nat) ^ min k s.size ≤ 256 ^ 6 := Nat.pow_le_pow_right (by omega) (by omega)
        omega
      have hc := bytesOf_get s k hlt
      have hc256 : s[k].toNat < 256 := (s[k]'hlt).toNat_lt
      have HS : Hid (256 * V + s[k].toNat = valL ((bytesOf s).take (k + 1))) := by
        show _ = _
        rw [HT.out k _ hc, ← HV.out]
      have HO := Lib.hid (orI V s[k].toNat hV hc256)
      clear hc
      go_wp2
      go_round
      case rel => exact ⟨k + 1, 256 * V + s[k].toNat, by omega, by go_num, by rw [HO.out], HS⟩
      case measure => simp [intOf]; omega
    · go_wp2
      go_ret
      exact ⟨by rw [HV.out, List.take_of_length_le (by rw [bytesOf_len]; omega)]; rfl, rfl⟩
/-- k bytes of the reader's text from its place on. -/
def rdT (s : ByteArray) (at_ : Nat) (ok : Bool) (k : Nat) : ByteArray × Nat × Bool := if at_ + k ≤ s.size then (strN (cutL (bytesOf s) at_ k), at_ + k, ok) else (⟨#[]⟩, at_, false)

/-- The reader in block rb. -/
def Rdr (w : World) (rb : Nat) (s : ByteArray) (at_ : Nat) (ok : Bool) : Prop := Blk w rb 78 #[.string s, .int .i64 (at_ : Int), .bool ok]

def RetTx (w : World) (rb : Nat) (s : ByteArray) (r : ByteArray × Nat × Bool) (e : Ending) (w' : World) : Prop := e = .returned (.string r.1) ∧ Rdr w' rb s r.2.1 r.2.2 ∧ Chg [rb] w w'

theorem extract_cut (s : ByteArray) (a k : Nat) (h : a + k ≤ s.size) : s.extract a (a + k) = strN (cutL (bytesOf s) a k) := by
  have e : cutL (bytesOf s) a k = bytesOf (s.extract a (a + k)) := by
    unfold cutL bytesOf
    rw [← List.map_drop, ← List.map_take]
    congr 1
    simp [ByteArray.extract, ByteArray.copySlice]
  rw [e, strN_bytesOf]

set_option maxRecDepth 100000 in
set_option maxHeartbeats 1000000 in
theorem rtext_any (rb : Nat) (s : ByteArray) (at_ k : Nat) (ok : Bool) (ki : Int) (w : World) (hki : ki = (k : Int)) (h : Rdr w rb s at_ ok) (hat : at_ ≤ s.size) (hs : s.size ≤ 1000000) (hk : k ≤ 10000000000) :
    Calls Try.prog 60 #[.pointer (some ⟨rb, 0, none⟩), .int .i64 ki] w (RetTx w rb s (rdT s at_ ok k)) := by
  subst hki
  have hlt := h.lt
  have e0 : ∀ W, Later w.drew W → W.cell? ⟨rb, 0, none⟩ = some (.string s) := fun W hW => (((Below.refl _ _).drew.trans hW : Below w.heap.size w W).cell (p := ⟨rb, 0, none⟩) hlt).trans ((h.cell 0).trans rfl)
  have e1 : ∀ W, Later w.drew W → W.cell? ⟨rb, 1, none⟩ = some (.int .i64 (at_ : Int)) := fun W hW => (((Below.refl _ _).drew.trans hW : Below w.heap.size w W).cell (p := ⟨rb, 1, none⟩) hlt).trans ((h.cell 1).trans rfl)
  by_cases hfit : at_ + k ≤ s.size
  · have hr : rdT s at_ ok k = (strN (cutL (bytesOf s) at_ k), at_ + k, ok) := by unfold rdT; rw [if_pos hfit]
    have HR := Lib.hid hr
    have hsl : ∀ W, (Instr.slice 9 (.string s) (some (.int .i64 (at_ : Int))) (some (.int .i64 ((at_ : Int) + (k : Int)))) none).run Try.prog W = .ok (.string (strN (cutL (bytesOf s) at_ k))) W := by
      intro W
      rw [run_slice_string W 9 s .i64 .i64 (at_ : Int) ((at_ : Int) + (k : Int)) Try.underlying9 (by omega) (by omega) (by omega), ← extract_cut s at_ k hfit]
      congr 3
    have hws : IntKind.i64.wrap ((s.size : Int) - (at_ : Int)) = (s.size : Int) - (at_ : Int) := IntWalk.i64_in _ ⟨by omega, by omega⟩
    have q1 : decide ((s.size : Int) - (at_ : Int) < (k : Int)) = false := by simp; omega
    have HB := Lib.hid h
    clear hr h
    go_enter Try.func60, Try.ntmps60
    go_wp2_with fail
    refine wp_region_ord [(0, true), (1, true), (2, true), (3, true), (4, true), (5, true), (6, true), (7, true), (8, true), (9, true), (10, true), (11, true)] (by kernel_rfl) (by kernel_rfl) (by kernel_rfl) (by kernel_rfl) ?_
    repeat (first | (refine wpO_F (v := ?_) rfl (by rfl) (fun w' hL => ?_) ?_; rotate_left; (solve | (go_simp; with_reducible rfl) | go_simp); try simp only [Act.put, List.setIfInBounds_toArray, List.set_cons_zero, List.set_cons_succ]) | (refine wpO_G rfl (by rfl) ?_; try simp only [Act.put, List.setIfInBounds_toArray, List.set_cons_zero, List.set_cons_succ]))
    refine wpO_nil ?_
    clear e0 e1
    have c1 : w.drew.cell? ⟨rb, 1, none⟩ = some (.int .i64 (at_ : Int)) := (HB.out.cell 1).trans rfl
    have fz : w.drew.frozen? ⟨rb, 1, none⟩ = false := HB.out.frozen 1
    have hset := HB.out.set_ 1 (.int .i64 ((at_ : Int) + (k : Int)))
    have hR2 : Rdr (w.setCell ⟨rb, 1, none⟩ (.int .i64 ((at_ : Int) + (k : Int)))) rb s (at_ + k) ok := by
      have e : ((at_ : Int) + (k : Int)) = ((at_ + k : Nat) : Int) := by omega
      unfold Rdr
      rw [← e]
      exact hset
    have hlt2 : rb < (w.setCell ⟨rb, 1, none⟩ (.int .i64 ((at_ : Int) + (k : Int)))).heap.size := hR2.lt
    have e0 : ∀ W, Later (w.setCell ⟨rb, 1, none⟩ (.int .i64 ((at_ : Int) + (k : Int)))).drew.drew W → W.cell? ⟨rb, 0, none⟩ = some (.string s) := fun W hW => (((Below.refl _ _).drew.drew.trans hW : Below (w.setCell ⟨rb, 1, none⟩ (.int .i64 ((at_ : Int) + (k : Int)))).heap.size _ W).cell (p := ⟨rb, 0, none⟩) hlt2).trans ((hR2.cell 0).trans rfl)
    have e1 : ∀ W, Later (w.setCell ⟨rb, 1, none⟩ (.int .i64 ((at_ : Int) + (k : Int)))).drew.drew W → W.cell? ⟨rb, 1, none⟩ = some (.int .i64 ((at_ : Int) + (k : Int))) := fun W hW => (((Below.refl _ _).drew.drew.trans hW : Below (w.setCell ⟨rb, 1, none⟩ (.int .i64 ((at_ : Int) + (k : Int)))).heap.size _ W).cell (p := ⟨rb, 1, none⟩) hlt2).trans ((hR2.cell 1).trans (by simp))
    have HR2 := Lib.hid hR2
    have HC2 : Hid (Chg [rb] w (w.setCell ⟨rb, 1, none⟩ (.int .i64 ((at_ : Int) + (k : Int))))) := (Chg.refl _ _).setCell (.inl (by simp)) _
    clear hset hR2
    go_wp2_with fail
    refine wp_region_ord [(0, true), (1, true), (2, true), (3, true), (4, true), (5, true), (6, true), (7, true), (8, true), (9, true), (10, true)] (by kernel_rfl) (by kernel_rfl) (by kernel_rfl) (by kernel_rfl) ?_
    repeat (first | (refine wpO_F (v := ?_) rfl (by rfl) (fun w' hL => ?_) ?_; rotate_left; (solve | (go_simp; with_reducible rfl) | go_simp); try simp only [Act.put, List.setIfInBounds_toArray, List.set_cons_zero, List.set_cons_succ]) | (refine wpO_G rfl (by rfl) ?_; try simp only [Act.put, List.setIfInBounds_toArray, List.set_cons_zero, List.set_cons_succ]))
    refine wpO_nil ?_
    clear e0 e1
    go_wp2
    go_ret
    rw [HR.out]
    exact ⟨rfl, HR2.out.drew.drew, HC2.out.drew.drew⟩
  · have hr : rdT s at_ ok k = (⟨#[]⟩, at_, false) := by unfold rdT; rw [if_neg hfit]
    have HR := Lib.hid hr
    have hws : IntKind.i64.wrap ((s.size : Int) - (at_ : Int)) = (s.size : Int) - (at_ : Int) := IntWalk.i64_in _ ⟨by omega, by omega⟩
    have q1 : decide ((s.size : Int) - (at_ : Int) < (k : Int)) = true := by simp; omega
    have HB := Lib.hid h
    clear hr h
    go_enter Try.func60, Try.ntmps60
    go_wp2_with fail
    refine wp_region_ord [(0, true), (1, true), (2, true), (3, true), (4, true), (5, true), (6, true), (7, true), (8, true), (9, true), (10, true), (11, true)] (by kernel_rfl) (by kernel_rfl) (by kernel_rfl) (by kernel_rfl) ?_
    repeat (first | (refine wpO_F (v := ?_) rfl (by rfl) (fun w' hL => ?_) ?_; rotate_left; (solve | (go_simp; with_reducible rfl) | go_simp); try simp only [Act.put, List.setIfInBounds_toArray, List.set_cons_zero, List.set_cons_succ]) | (refine wpO_G rfl (by rfl) ?_; try simp only [Act.put, List.setIfInBounds_toArray, List.set_cons_zero, List.set_cons_succ]))
    refine wpO_nil ?_
    clear e0 e1
    have c1 : w.drew.cell? ⟨rb, 2, none⟩ = some (.bool ok) := (HB.out.cell 2).trans rfl
    have fz : w.drew.frozen? ⟨rb, 2, none⟩ = false := HB.out.frozen 2
    have HR2 : Hid (Rdr (w.setCell ⟨rb, 2, none⟩ (.bool false)) rb s at_ false) := HB.out.set_ 2 (.bool false)
    have HC2 : Hid (Chg [rb] w (w.setCell ⟨rb, 2, none⟩ (.bool false))) := (Chg.refl _ _).setCell (.inl (by simp)) _
    go_wp2
    go_ret
    rw [HR.out]
    exact ⟨rfl, HR2.out.drew, HC2.out.drew⟩
end Go.Proofs.Ytlcphgomhhejbaa

/- Maps whose keys and elements are arrays of integers. -/
namespace Go.Proofs.Ytlcphgomhhejbaa
open Go.RowKit

/-- An array of integers of kind k, by value. -/
def arrN (k : IntKind) (l : List Nat) : Value := .agg (l.map fun (c : Nat) => Value.int k (c : Int)).toArray

theorem run_part_arr {P : Program} {e : TypeId} {k : IntKind} (he : P.underlying e = some (.int k)) (l : List Nat) (i : Nat) (x : Nat) (hi : l[i]? = some x) (w : World) :
    (part e (l.map fun (c : Nat) => Value.int k (c : Int)).toArray i).run P w = .ok (.int k (x : Int)) w := by
  simp [part, isAgg, run_underlying he, hi]

theorem run_eqItems_arr {P : Program} {e : TypeId} {k : IntKind} (he : P.underlying e = some (.int k)) (hc : P.cellsOf e = 1) (d : Nat) (w : World) :
    ∀ (xs ys px py : List Nat), xs.length = ys.length → px.length = py.length →
    (Op.eqItems (d + 1) e (P.cellsOf e) ((px ++ xs).map fun (c : Nat) => Value.int k (c : Int)).toArray ((py ++ ys).map fun (c : Nat) => Value.int k (c : Int)).toArray (List.range' px.length xs.length)).run P w = .ok (xs == ys) w
  | [], [], _, _, _, _ => by simp [Op.eqItems]
  | [], y :: ys, _, _, h, _ => by simp at h
  | x :: xs, [], _, _, h, _ => by simp at h
  | x :: xs, y :: ys, px, py, h, hp => by
    have ih := run_eqItems_arr he hc d w xs ys (px ++ [x]) (py ++ [y]) (by simpa using h) (by simp [hp])
    rw [List.append_assoc, List.append_assoc, List.singleton_append, List.singleton_append, List.length_append, List.length_singleton] at ih
    rw [List.length_cons, List.range'_succ]
    have p1 := run_part_arr he (px ++ x :: xs) px.length x (by simp) w
    have p2 := run_part_arr he (py ++ y :: ys) px.length y (by rw [hp]; simp) w
    have p3 := run_equalIn_int (P := P) w d e k k (x : Int) (y : Int) he
    simp only [Op.eqItems, hc, Nat.mul_one, Sem.run_bind, p1, p2, p3, Result.andThen_ok]
    rw [hc] at ih
    by_cases hxy : x = y
    · subst hxy
      simp only [beq_self_eq_true, Bool.not_true, Bool.false_eq_true, if_false]
      rw [ih]
      simp
    · have e1 : ((x : Int) == (y : Int)) = false := by simp; omega
      have e2 : (x :: xs == y :: ys) = false := by simp [hxy]
      rw [e1, e2]
      simp

/-- Two arrays are the same. -/
theorem run_equalIn_arrN {P : Program} {t e : TypeId} {k : IntKind} {n : Nat} (ht : P.underlying t = some (.array n e)) (he : P.underlying e = some (.int k)) (hc : P.cellsOf e = 1)
    (d : Nat) (xs ys : List Nat) (hx : xs.length = n) (hy : ys.length = n) (w : World) : (Op.equalIn (d + 2) t (arrN k xs) (arrN k ys)).run P w = .ok (xs == ys) w := by
  obtain ⟨i, hi⟩ := info_of_underlying he
  unfold arrN
  rw [run_equalIn_array w (d + 1) _ _ ht hi, List.range_eq_range']
  have := run_eqItems_arr he hc d w xs ys [] [] (by omega) rfl
  simpa [hx] using this

theorem run_equal_arrN {P : Program} {t e : TypeId} {k : IntKind} {n : Nat} (ht : P.underlying t = some (.array n e)) (he : P.underlying e = some (.int k)) (hc : P.cellsOf e = 1)
    (xs ys : List Nat) (hx : xs.length = n) (hy : ys.length = n) (w : World) : (Op.equal t (arrN k xs) (arrN k ys)).run P w = .ok (xs == ys) w :=
  run_equalIn_arrN ht he hc 9998 xs ys hx hy w

/-- What an association list has at a key. -/
def alGet : List (List Nat × List Nat) → List Nat → Option (List Nat)
  | [], _ => none
  | p :: r, x => if p.1 == x then some p.2 else alGet r x
/-- The list with v at key x. -/
def alPut : List (List Nat × List Nat) → List Nat → List Nat → List (List Nat × List Nat)
  | [], x, v => [(x, v)]
  | p :: r, x, v => if p.1 == x then (x, v) :: r else p :: alPut r x v
theorem alGet_put : ∀ (l : List (List Nat × List Nat)) (x v y : List Nat), alGet (alPut l x v) y = if x == y then some v else alGet l y
  | [], x, v, y => by simp [alGet, alPut]
  | p :: r, x, v, y => by
    unfold alPut
    by_cases h : p.1 == x
    · rw [if_pos h]
      simp only [alGet]
      by_cases h2 : x == y
      · simp [h2]
      · have h3 : (p.1 == y) = false := by
          rw [eq_of_beq h]
          simpa using h2
        simp [h2, h3]
    · rw [if_neg h]
      simp only [alGet, alGet_put r x v y]
      by_cases h2 : p.1 == y
      · have h3 : (x == y) = false := by
          rw [← eq_of_beq h2]
          simp only [beq_eq_false_iff_ne, ne_eq]
          intro e
          subst e
          simp at h
        simp [h2, h3]
      · simp [h2]
/-- Where the key is. -/
def alFind : List (List Nat × List Nat) → List Nat → Nat → Option (Nat × List Nat)
  | [], _, _ => none
  | p :: r, x, i => if p.1 == x then some (i, p.2) else alFind r x (i + 1)
theorem alFind_get : ∀ (l : List (List Nat × List Nat)) (x : List Nat) (i : Nat), (alFind l x i).map (·.2) = alGet l x
  | [], _, _ => rfl
  | p :: r, x, i => by
    unfold alFind alGet
    split
    · rfl
    · exact alFind_get r x (i + 1)

/-- The entries of a map of arrays. -/
def EntsA (k kv : IntKind) (n : Nat) (es : List MapEntry) (al : List (List Nat × List Nat)) : Prop :=
  es.map (fun e => (e.key, e.val)) = al.map (fun p => (arrN k p.1, arrN kv p.2)) ∧ ∀ p ∈ al, p.1.length = n

theorem run_findAsking_arr {P : Program} {t e : TypeId} {k kv : IntKind} {n : Nat} (ht : P.underlying t = some (.array n e)) (he : P.underlying e = some (.int k)) (hc : P.cellsOf e = 1) (x : List Nat) (hx : x.length = n) (w : World) :
    ∀ (es : List MapEntry) (al : List (List Nat × List Nat)) (i : Nat), EntsA k kv n es al → (Instr.findAsking t (arrN k x) es i).run P w = .ok ((alFind al x i).map fun p => (p.1, arrN kv p.2)) w
  | [], [], _, _ => by simp [Instr.findAsking, alFind]
  | [], p :: al, _, h => by simp [EntsA] at h
  | m :: es, [], _, h => by simp [EntsA] at h
  | m :: es, p :: al, i, h => by
    obtain ⟨h1, h2⟩ := h
    simp only [List.map_cons, List.cons.injEq, Prod.mk.injEq] at h1
    have ih := run_findAsking_arr ht he hc x hx w es al (i + 1) ⟨h1.2, fun q hq => h2 q (by simp [hq])⟩
    have heq := run_equal_arrN ht he hc x p.1 hx (h2 p (by simp)) w
    unfold Instr.findAsking alFind
    simp only [Sem.run_bind, h1.1.1, heq, Result.andThen_ok]
    by_cases hxp : p.1 == x
    · have e1 := eq_of_beq hxp
      have : (x == p.1) = true := by rw [e1]; simp
      rw [if_pos hxp, this]
      simp [h1.1.2]
    · have : (x == p.1) = false := by
        simp only [beq_eq_false_iff_ne, ne_eq]
        intro e2
        subst e2
        simp at hxp
      rw [if_neg hxp, this]
      simpa using ih

theorem run_findKey_arr {P : Program} {t e : TypeId} {k kv : IntKind} {n : Nat} (ht : P.underlying t = some (.array n e)) (he : P.underlying e = some (.int k)) (hc : P.cellsOf e = 1) (x : List Nat) (hx : x.length = n) (w : World)
    (es : List MapEntry) (al : List (List Nat × List Nat)) (h : EntsA k kv n es al) : (Instr.findKey t (arrN k x) es).run P w = .ok ((alFind al x 0).map fun p => (p.1, arrN kv p.2)) w := by
  have hA := run_findAsking_arr ht he hc x hx w es al 0 h
  unfold Instr.findKey
  simp only [Sem.run_bind, run_underlying ht, Result.andThen_ok]
  cases es with
  | nil =>
    simp only [Instr.findNow]
    cases al with
    | nil => simp [alFind]
    | cons p al => simp [EntsA] at h
  | cons m es => simpa [Instr.findNow, Instr.sameNow] using hA

theorem run_checkKey_arr {P : Program} {t e : TypeId} {k : IntKind} {n : Nat} (ht : P.underlying t = some (.array n e)) (he : P.underlying e = some (.int k)) (hc : P.cellsOf e = 1) (x : List Nat) (hx : x.length = n) (w : World) (em : Bool) :
    (Instr.checkKey em 10000 t (arrN k x)).run P w = .ok () w := by
  obtain ⟨i, hi⟩ := info_of_underlying he
  unfold Instr.checkKey
  simp only [Sem.run_bind, run_underlying ht, Result.andThen_ok, arrN]
  simp only [Std.Legacy.Range.forIn_eq_forIn_range', Std.Legacy.Range.size, Nat.sub_zero, Nat.add_one_sub_one, Nat.div_one]
  have key : ∀ (is : List Nat), (∀ j ∈ is, j < n) → (forIn is PUnit.unit fun i (_ : PUnit) => do
      let n ← Go.sizeOf e
      let v ← part e (x.map fun (c : Nat) => Value.int k (c : Int)).toArray (i * n)
      Instr.checkKey em 9999 e v
      pure (ForInStep.yield PUnit.unit) : Sem PUnit).run P w = .ok PUnit.unit w := by
    intro is
    induction is with
    | nil => intro _; simp
    | cons j is ih =>
      intro hj
      have hjn : j < x.length := by have := hj j (by simp); omega
      simp only [List.forIn_cons, Sem.run_bind, run_sizeOf w hi, Result.andThen_ok, hc, Nat.mul_one]
      rw [run_part_arr he x j x[j] (List.getElem?_eq_getElem hjn)]
      simp only [Result.andThen_ok]
      rw [Go.MapKept.run_checkKey (d := .int k) he (k := .int k (x[j] : Int)) (by simp [Go.MapKept.IsKey]) em 9998]
      simp only [Result.andThen_ok, Sem.run_pure]
      exact ih (fun i hi => hj i (by simp [hi]))
  have := key (List.range' 0 n) (fun j hj => by simp [List.mem_range'] at hj; omega)
  simp only [bind_pure_comp] at this
  simp only [bind_pure_comp]
  rw [this]
  rfl

/-- Block g is a map of arrays: at key x it has g x. -/
def MapA (k kv : IntKind) (n : Nat) (w : World) (b : Nat) (g : List Nat → Option (List Nat)) : Prop :=
  ∃ (es : Array MapEntry) (clk : Nat) (al : List (List Nat × List Nat)), MapB w b es clk ∧ EntsA k kv n es.toList al ∧ ∀ x, alGet al x = g x

theorem MapA.chg {k kv : IntKind} {n : Nat} {w w' : World} {b : Nat} {g : List Nat → Option (List Nat)} {S : List Nat} (h : MapA k kv n w b g) (hc : Chg S w w') (hn : b ∉ S) : MapA k kv n w' b g := by
  obtain ⟨es, clk, al, h1, h2⟩ := h
  exact ⟨es, clk, al, h1.chg hc hn, h2⟩
theorem MapA.lt {k kv : IntKind} {n : Nat} {w : World} {b : Nat} {g : List Nat → Option (List Nat)} (h : MapA k kv n w b g) : b < w.heap.size := by
  obtain ⟨es, clk, al, h1, h2⟩ := h
  exact h1.lt
theorem MapA.setCell {k kv : IntKind} {n : Nat} {w : World} {b : Nat} {g : List Nat → Option (List Nat)} (h : MapA k kv n w b g) (c o : Nat) (u : Value) : MapA k kv n (w.setCell ⟨c, o, none⟩ u) b g := by
  obtain ⟨es, clk, al, h1, h2⟩ := h
  exact ⟨es, clk, al, h1.setCell u, h2⟩
theorem MapA.alloc {k kv : IntKind} {n : Nat} {w : World} {b : Nat} {g : List Nat → Option (List Nat)} (h : MapA k kv n w b g) (o : Obj) : MapA k kv n (w.alloc o) b g :=
  h.chg (S := []) ((Chg.refl _ _).alloc o) (by simp)
theorem MapA.drew {k kv : IntKind} {n : Nat} {w : World} {b : Nat} {g : List Nat → Option (List Nat)} (h : MapA k kv n w b g) : MapA k kv n w.drew b g := h
theorem MapA.ne_blk {k kv : IntKind} {n : Nat} {w : World} {b g' : Nat} {g : List Nat → Option (List Nat)} {t : TypeId} {cs : Array Value} (h : MapA k kv n w b g) (h' : Blk w g' t cs) : b ≠ g' := by
  obtain ⟨es, clk, al, h1, h2⟩ := h
  exact h1.ne_blk h'
theorem MapA.new (k kv : IntKind) (n : Nat) (w : World) : MapA k kv n (w.alloc (.map #[] 0)) w.heap.size fun _ => none :=
  ⟨#[], 0, [], heap_alloc_new w _, ⟨rfl, by simp⟩, fun _ => rfl⟩

/-- 'm[x]'. -/
theorem MapA.lookup {P : Program} {k kv : IntKind} {n : Nat} {w : World} {b : Nat} {g : List Nat → Option (List Nat)} (h : MapA k kv n w b g) {T t te e : TypeId} {z : Value} (hT : P.underlying T = some (.map t te)) (ht : P.underlying t = some (.array n e)) (he : P.underlying e = some (.int k)) (hc : P.cellsOf e = 1)
    (hz : ∀ W, (zeroValue te).run P W = .ok z W) (x : List Nat) (hx : x.length = n) : (Instr.lookup T (.map (some b)) (arrN k x) false).run P w = .ok (((g x).map (arrN kv)).getD z) w := by
  obtain ⟨es, clk, al, h1, h2, h3⟩ := h
  unfold Instr.lookup
  simp only [Sem.run_bind, run_underlying hT, Result.andThen_ok, Go.MapKept.run_getObj_map h1, Sem.run_pure, run_checkKey_arr ht he hc x hx, run_findKey_arr ht he hc x hx w _ al h2]
  rw [← h3 x, ← alFind_get al x 0]
  cases alFind al x 0 with
  | none => simp [hz]
  | some p => simp

theorem sameBits_arr (m : Nat) (k : IntKind) : ∀ x : List Nat, Instr.sameBits (m + 2) (arrN k x) (arrN k x) = true := by
  intro x
  unfold arrN Instr.sameBits
  simp only [beq_self_eq_true, Bool.true_and]
  rw [List.all_eq_true]
  intro p hp
  have : p.1 = p.2 ∧ ∃ c : Nat, p.1 = .int k (c : Int) := by
    have h1 : p ∈ (x.map fun (c : Nat) => Value.int k (c : Int)).zip (x.map fun (c : Nat) => Value.int k (c : Int)) := by simpa using hp
    rw [List.mem_iff_getElem] at h1
    obtain ⟨i, hi, rfl⟩ := h1
    exact ⟨by simp, x[i]'(by simpa using hi), by simp⟩
  obtain ⟨e1, c, e2⟩ := this
  rw [← e1, e2]
  simp [Instr.sameBits]

/-- 'm[x] = v'. -/
theorem MapA.update {P : Program} {k kv : IntKind} {n : Nat} {w : World} {b : Nat} {g : List Nat → Option (List Nat)} (h : MapA k kv n w b g) {T t te e : TypeId} (hT : P.underlying T = some (.map t te)) (ht : P.underlying t = some (.array n e)) (he : P.underlying e = some (.int k)) (hc : P.cellsOf e = 1)
    (x v : List Nat) (hx : x.length = n) : ∃ o, (Instr.mapUpdate T (.map (some b)) (arrN k x) (arrN kv v)).run P w = .ok () (putObj w b o) ∧ ∀ w', w'.heap[b]? = some o → MapA k kv n w' b fun y => if x == y then some v else g y := by
  obtain ⟨es, clk, al, h1, h2, h3⟩ := h
  have hfin : ∀ (es' : Array MapEntry) (clk' : Nat), EntsA k kv n es'.toList (alPut al x v) → ∀ w' : World, w'.heap[b]? = some (.map es' clk') → MapA k kv n w' b fun y => if x == y then some v else g y := by
    intro es' clk' he' w' hw'
    refine ⟨es', clk', _, hw', he', fun y => ?_⟩
    rw [alGet_put, h3]
  unfold Instr.mapUpdate
  simp only [Sem.run_bind, run_underlying hT, Result.andThen_ok, Go.MapKept.run_getObj_map h1, Sem.run_pure, run_checkKey_arr ht he hc x hx, run_findKey_arr ht he hc x hx w _ al h2]
  have hf : ∀ (es : List MapEntry) (al : List (List Nat × List Nat)) (i : Nat), EntsA k kv n es al →
      (alFind al x i = none ∧ (∀ m : MapEntry, m.key = arrN k x → m.val = arrN kv v → EntsA k kv n (es ++ [m]) (alPut al x v))) ∨
      (∃ j u m, alFind al x i = some (i + j, u) ∧ es[j]? = some m ∧ m.key = arrN k x ∧ (∀ m' : MapEntry, m'.key = arrN k x → m'.val = arrN kv v → EntsA k kv n (es.set j m') (alPut al x v))) := by
    intro es
    induction es with
    | nil =>
      intro al i h
      cases al with
      | cons p al => simp [EntsA] at h
      | nil => exact .inl ⟨rfl, fun m h1 h2 => ⟨by simp [alPut, h1, h2], by simp [alPut, hx]⟩⟩
    | cons m es ih =>
      intro al i h
      cases al with
      | nil => simp [EntsA] at h
      | cons p al =>
        obtain ⟨q1, q2⟩ := h
        simp only [List.map_cons, List.cons.injEq, Prod.mk.injEq] at q1
        have h' : EntsA k kv n es al := ⟨q1.2, fun q hq => q2 q (by simp [hq])⟩
        by_cases hxp : p.1 == x
        · right
          refine ⟨0, p.2, m, by simp [alFind, hxp], rfl, by rw [q1.1.1, eq_of_beq hxp], fun m' h1 h2 => ?_⟩
          unfold alPut
          rw [if_pos hxp]
          refine ⟨by simp [h1, h2, q1.2], fun q hq => ?_⟩
          rw [List.mem_cons] at hq
          rcases hq with rfl | hq
          · exact hx
          · exact q2 q (by simp [hq])
        · have e2 : alFind (p :: al) x i = alFind al x (i + 1) := by simp [alFind, hxp]
          have e3 : alPut (p :: al) x v = p :: alPut al x v := by simp [alPut, hxp]
          rw [e2, e3]
          rcases ih al (i + 1) h' with ⟨g1, g2⟩ | ⟨j, u, m1, g1, g2, g3, g4⟩
          · left
            refine ⟨g1, fun m' k1 k2 => ?_⟩
            obtain ⟨r1, r2⟩ := g2 m' k1 k2
            refine ⟨?_, fun q hq => ?_⟩
            · rw [List.cons_append, List.map_cons, List.map_cons, r1, q1.1.1, q1.1.2]
            · rw [List.mem_cons] at hq
              rcases hq with rfl | hq
              · exact q2 _ (by simp)
              · exact r2 q hq
          · right
            refine ⟨j + 1, u, m1, by rw [g1]; congr 2; omega, by simpa using g2, g3, fun m' k1 k2 => ?_⟩
            obtain ⟨r1, r2⟩ := g4 m' k1 k2
            refine ⟨?_, fun q hq => ?_⟩
            · rw [List.set_cons_succ, List.map_cons, List.map_cons, r1, q1.1.1, q1.1.2]
            · rw [List.mem_cons] at hq
              rcases hq with rfl | hq
              · exact q2 _ (by simp)
              · exact r2 q hq
  rcases hf es.toList al 0 h2 with ⟨e1, e2⟩ | ⟨j, u, m, e1, e2, e3, e4⟩
  · rw [e1]
    simp only [Option.map_none]
    refine ⟨_, Go.MapKept.run_setObj_map _ h1, hfin _ _ ?_⟩
    rw [Array.toList_push]
    exact e2 _ rfl rfl
  · rw [e1]
    simp only [Option.map_some, Nat.zero_add]
    have hm : es[j]? = some m := by rw [← Array.getElem?_toList]; exact e2
    simp only [hm, Option.map_some, Option.getD_some, e3]
    have hstay : (Instr.keyThatStays (arrN k x) (arrN k x)).run P w = .ok (arrN k x) w := by
      unfold Instr.keyThatStays
      rw [if_pos (sameBits_arr 9998 k x)]
      simp
    rw [Sem.run_bind, hstay]
    simp only [Result.andThen_ok]
    refine ⟨_, Go.MapKept.run_setObj_map _ h1, hfin _ _ ?_⟩
    have hset : (es.modify j fun e => { e with key := arrN k x, val := arrN kv v }).toList = es.toList.set j { m with key := arrN k x, val := arrN kv v } := by
      apply List.ext_getElem?
      intro i
      rw [Array.getElem?_toList, Array.getElem?_modify, List.getElem?_set]
      by_cases hij : j = i
      · subst hij
        have hlt : j < es.toList.length := (List.getElem?_eq_some_iff.1 e2).1
        rw [if_pos rfl, if_pos rfl, if_pos hlt, hm]
        rfl
      · rw [if_neg hij, if_neg hij, Array.getElem?_toList]
    rw [hset]
    exact e4 _ rfl rfl
end Go.Proofs.Ytlcphgomhhejbaa

/- A disk, as mathematics. -/
namespace Go.Proofs.Ytlcphgomhhejbaa

/-- Contents: sectors that were written, and lengths. -/
structure Cont where
  get : Nat → Nat → Option (List Nat)
  len : Nat → Nat

/-- Bytes of a sector. -/
def SecOk (b : List Nat) : Prop := b.length = 128 ∧ ∀ c ∈ b, c < 256

def Cont.empty : Cont := ⟨fun _ _ => none, fun _ => 0⟩
def Cont.put (c : Cont) (f s : Nat) (b : List Nat) : Cont :=
  ⟨fun g t => if g = f ∧ t = s then some b else c.get g t, fun g => if g = f then max (c.len g) (s + 1) else c.len g⟩

/-- A write. -/
structure Wr where
  f : Nat
  s : Nat
  b : List Nat
def Wr.ok (x : Wr) : Prop := x.f < 2 ∧ x.s < 65536 ∧ SecOk x.b
def Cont.wr (c : Cont) (x : Wr) : Cont := c.put x.f x.s x.b

structure Cont.ok (c : Cont) : Prop where
  sec : ∀ f s b, c.get f s = some b → f < 2 ∧ s < c.len f ∧ SecOk b
  len : ∀ f, c.len f ≤ 65536

theorem Cont.ok_empty : Cont.empty.ok := ⟨fun f s b h => by simp [Cont.empty] at h, fun f => by simp [Cont.empty]⟩
theorem Cont.ok_wr {c : Cont} (h : c.ok) {x : Wr} (hx : x.ok) : (c.wr x).ok := by
  obtain ⟨h1, h2⟩ := h
  obtain ⟨x1, x2, x3⟩ := hx
  refine ⟨fun f s b hb => ?_, fun f => ?_⟩
  · simp only [Cont.wr, Cont.put] at hb ⊢
    by_cases hfs : f = x.f ∧ s = x.s
    · rw [if_pos hfs] at hb
      obtain ⟨rfl, rfl⟩ := hfs
      obtain rfl := Option.some.inj hb
      refine ⟨x1, ?_, x3⟩
      rw [if_pos rfl]; omega
    · rw [if_neg hfs] at hb
      obtain ⟨g1, g2, g3⟩ := h1 f s b hb
      refine ⟨g1, ?_, g3⟩
      split
      · rename_i e; subst e; omega
      · exact g2
  · simp only [Cont.wr, Cont.put]
    have := h2 f
    split
    · omega
    · exact this

/-- The state of a disk. -/
structure DS where
  quota : Nat
  vis : Cont
  dur : Cont
  pend : List Wr
  calls : Nat
  left : Option Nat
  down : Bool

structure DS.ok (d : DS) : Prop where
  quota : 1 ≤ d.quota ∧ d.quota ≤ 65536
  vis : d.vis.ok
  dur : d.dur.ok
  pend : ∀ x ∈ d.pend, x.ok
  left : ∀ n, d.left = some n → n < 9223372036854775808

/-- The number that the program keeps for calls that are left. -/
def leftI : Option Nat → Int
  | none => -1
  | some n => n

def DS.new (q : Nat) : DS := ⟨q, .empty, .empty, [], 0, none, false⟩
theorem DS.new_ok {q : Nat} (h1 : 1 ≤ q) (h2 : q ≤ 65536) : (DS.new q).ok := ⟨⟨h1, h2⟩, Cont.ok_empty, Cont.ok_empty, by simp [DS.new], by simp [DS.new]⟩

/-- A call that changes something: the state behind it, and whether it may go on. -/
def DS.change (d : DS) : DS × Bool := match d.left with
  | some 0 => ({ d with down := true }, false)
  | l => ({ d with left := l.map (· - 1), calls := d.calls + 1 }, true)

theorem DS.change_ok {d : DS} (h : d.ok) : d.change.1.ok := by
  obtain ⟨h1, h2, h3, h4, h5⟩ := h
  unfold DS.change
  split
  · exact ⟨h1, h2, h3, h4, h5⟩
  · refine ⟨h1, h2, h3, h4, fun n hn => ?_⟩
    simp only [Option.map_eq_some_iff] at hn
    obtain ⟨m, hm, rfl⟩ := hn
    have := h5 m hm
    omega

def noughts : List Nat := List.replicate 128 0
theorem noughts_ok : SecOk noughts := ⟨by simp [noughts], by simp [noughts]⟩

/-- What Read hands back: an error, or the bytes. -/
def DS.read (d : DS) (f s : Int) : Except Nat (List Nat) :=
  if (f < 0 ∨ 2 ≤ f) ∨ s < 0 then .error 1 else if d.down then .error 51 else if (d.vis.len f.toNat : Int) ≤ s then .error 4 else .ok ((d.vis.get f.toNat s.toNat).getD noughts)

/-- May the sector be written under the quota? -/
def DS.fits (d : DS) (f s : Nat) : Bool := decide (s < d.vis.len f) || decide (s + 1 + d.vis.len (1 - f) ≤ d.quota)

def DS.put (d : DS) (x : Wr) : DS := { d with vis := d.vis.wr x, pend := d.pend ++ [x] }
theorem DS.put_ok {d : DS} (h : d.ok) {x : Wr} (hx : x.ok) : (d.put x).ok := by
  obtain ⟨h1, h2, h3, h4, h5⟩ := h
  refine ⟨h1, Cont.ok_wr h2 hx, h3, fun y hy => ?_, h5⟩
  rcases List.mem_append.1 hy with hy | hy
  · exact h4 y hy
  · obtain rfl := List.mem_singleton.1 hy; exact hx

/-- What Write hands back, and the state behind it. -/
def DS.write (d : DS) (f s : Int) (b : List Nat) : Nat × DS :=
  if (f < 0 ∨ 2 ≤ f) ∨ s < 0 ∨ 65535 < s ∨ b.length ≠ 128 then (1, d) else if d.down then (51, d) else if d.fits f.toNat s.toNat = false then (50, d)
  else match d.change with
    | (d', false) => (51, d')
    | (d', true) => (0, d'.put ⟨f.toNat, s.toNat, b⟩)

def DS.sync (d : DS) (f : Int) : Nat × DS :=
  if f < 0 ∨ 2 ≤ f then (1, d) else if d.down then (51, d) else match d.change with
    | (d', false) => (51, d')
    | (d', true) => (0, { d' with dur := (d'.pend.filter fun x => x.f == f.toNat).foldl Cont.wr d'.dur, pend := d'.pend.filter fun x => x.f != f.toNat })

/-- Is bit i of keep 1? -/
def bitOf (keep : List Nat) (i : Nat) : Bool := (keep.getD (i / 8) 0 / 2 ^ (i % 8)) % 2 == 1

/-- Those of the writes that are kept, the first of which has number i. -/
def keptOf (keep : List Nat) : List Wr → Nat → List Wr
  | [], _ => []
  | x :: r, i => if bitOf keep i then x :: keptOf keep r (i + 1) else keptOf keep r (i + 1)

def DS.crash (d : DS) (keep : List Nat) : DS :=
  let c := (keptOf keep d.pend 0).foldl Cont.wr d.dur
  { d with vis := c, dur := c, pend := [], left := none, down := false }

theorem foldl_ok {c : Cont} (h : c.ok) : ∀ (l : List Wr), (∀ x ∈ l, x.ok) → (l.foldl Cont.wr c).ok := by
  intro l
  induction l generalizing c with
  | nil => intro _; exact h
  | cons x l ih => intro hl; exact ih (Cont.ok_wr h (hl x (by simp))) (fun y hy => hl y (by simp [hy]))
theorem kept_mem (keep : List Nat) : ∀ (l : List Wr) (i : Nat) (x : Wr), x ∈ keptOf keep l i → x ∈ l
  | [], _, _, h => by simp [keptOf] at h
  | y :: r, i, x, h => by
    unfold keptOf at h
    split at h
    · rcases List.mem_cons.1 h with rfl | h
      · simp
      · exact List.mem_cons_of_mem _ (kept_mem keep r _ x h)
    · exact List.mem_cons_of_mem _ (kept_mem keep r _ x h)

theorem DS.sync_ok {d : DS} (h : d.ok) (f : Int) : (d.sync f).2.ok := by
  unfold DS.sync
  have hc := DS.change_ok h
  split
  · exact h
  · split
    · exact h
    · split
      · rename_i d' e; rw [e] at hc; exact hc
      · rename_i d' e
        rw [e] at hc
        obtain ⟨h1, h2, h3, h4, h5⟩ := hc
        exact ⟨h1, h2, foldl_ok h3 _ (fun x hx => h4 x (List.mem_filter.1 hx).1), fun x hx => h4 x (List.mem_filter.1 hx).1, h5⟩
theorem DS.write_ok {d : DS} (h : d.ok) (f s : Int) {b : List Nat} (hb : ∀ c ∈ b, c < 256) : (d.write f s b).2.ok := by
  unfold DS.write
  have hc := DS.change_ok h
  split
  · exact h
  · rename_i hn
    split
    · exact h
    · split
      · exact h
      · split
        · rename_i d' e; rw [e] at hc; exact hc
        · rename_i d' e
          rw [e] at hc
          exact DS.put_ok hc ⟨by show f.toNat < 2; omega, by show s.toNat < 65536; omega, by show b.length = 128; omega, hb⟩
theorem DS.crash_ok {d : DS} (h : d.ok) (keep : List Nat) : (d.crash keep).ok := by
  obtain ⟨h1, h2, h3, h4, h5⟩ := h
  have := foldl_ok h3 (keptOf keep d.pend 0) (fun x hx => h4 x (kept_mem keep _ _ x hx))
  exact ⟨h1, this, this, by simp [DS.crash], by simp [DS.crash]⟩
end Go.Proofs.Ytlcphgomhhejbaa
