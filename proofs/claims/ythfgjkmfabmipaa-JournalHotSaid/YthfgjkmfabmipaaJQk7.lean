/- Several texts of one proof, one behind the other. -/
import Derived.Test.YthfgjkmfabmipaaJQk6
import Derived.IntWalk
import Derived.Laws.BitsAllLaws
import Derived.WalkKit
set_option linter.unusedSimpArgs false
set_option linter.unusedVariables false

/- The walks of fixed.Put and fixed.Get. -/
set_option linter.unusedSimpArgs false
set_option linter.unusedVariables false
set_option maxRecDepth 100000
namespace Go.Proofs.Ythfgjkmfabmipaa
open Go.RowKit

def byteV (c : Nat) : Value := .int .u8 (c : Int)
/-- The cells with the bytes l from a place on. -/
def putB (cs : Array Value) (at_ : Nat) (l : List Nat) : Array Value := (cs.toList.take at_ ++ (l.map byteV ++ cs.toList.drop (at_ + l.length))).toArray

theorem putB_size (cs : Array Value) (at_ : Nat) (l : List Nat) (h : at_ + l.length ≤ cs.size) : (putB cs at_ l).size = cs.size := by
  simp [putB]; omega
theorem putB_nil (cs : Array Value) (at_ : Nat) : putB cs at_ [] = cs := by
  apply Array.toList_inj.1
  simp [putB]
theorem putB_cons (cs : Array Value) (at_ : Nat) (c : Nat) (l : List Nat) (h : at_ + 1 + l.length ≤ cs.size) : (putB cs (at_ + 1) l).setIfInBounds at_ (byteV c) = putB cs at_ (c :: l) := by
  apply Array.toList_inj.1
  have h1 : at_ < cs.toList.length := by simp; omega
  have h2 : cs.toList.take (at_ + 1) = cs.toList.take at_ ++ [cs.toList[at_]] := List.take_succ_eq_append_getElem h1
  have h3 : (cs.toList.take at_).length = at_ := by rw [List.length_take]; omega
  simp only [putB, List.setIfInBounds_toArray]
  rw [h2, List.append_assoc, List.set_append_right _ _ (by omega)]
  simp only [h3, Nat.sub_self, List.cons_append, List.nil_append, List.set_cons_zero, List.map_cons, List.length_cons]
  rw [show at_ + 1 + l.length = at_ + (l.length + 1) by omega]
theorem putB_get (cs : Array Value) (at_ : Nat) (l : List Nat) (i : Nat) (h : at_ + l.length ≤ cs.size) (hi : i < at_) : (putB cs at_ l)[i]? = cs[i]? := by
  have h3 : (cs.toList.take at_).length = at_ := by rw [List.length_take]; simp; omega
  simp only [putB, List.getElem?_toArray]
  rw [List.getElem?_append_left (by omega), List.getElem?_take, if_pos hi]
  simp

theorem byteV_shr (n k : Nat) : (Value.int .u8 ((n : Int) / 2 ^ (8 * k) % 256)) = byteV (n / 256 ^ k % 256) := by
  unfold byteV
  congr 1
  have h2 : (2 : Nat) ^ (8 * k) = 256 ^ k := by rw [Nat.pow_mul]
  rw [← h2, Int.natCast_emod, Int.natCast_ediv, Int.natCast_pow]
  rfl

/-- A call that hands back nothing has laid bytes in block g. -/
def RetPut (w : World) (g : Nat) (T : TypeId) (cs : Array Value) (o s n : Nat) (e : Ending) (w' : World) : Prop :=
  e = .returned (.tuple #[]) ∧ Blk w' g T (putB cs o (beL s n)) ∧ Chg [g] w w'

set_option maxHeartbeats 1000000 in
theorem Put_any (g o s c n : Nat) (T : TypeId) (cs : Array Value) (w : World) (hB : Blk w g T cs) (ho : o + s ≤ cs.size) (hby : ∀ i, o ≤ i → i < o + s → ∃ d : Int, cs[i]? = some (.int .u8 d)) (hs : s ≤ 7) (hn : n < 9223372036854775808) :
    Calls Try.prog 43 #[.slice (some ⟨g, o, none⟩) s c, .int .i64 (n : Int)] w (RetPut w g T cs o s n) := by
  have HB := Lib.hid hB
  have HBy := Lib.hid hby
  clear hB hby
  have HP : ∀ k, k < s → Hid ((putB cs (o + (s - k)) (beL k n)).setIfInBounds (o + (s - 1 - k)) (byteV (n / 256 ^ k % 256)) = putB cs (o + (s - (k + 1))) (beL (k + 1) n)) := by
    intro k hk
    have := putB_cons cs (o + (s - 1 - k)) (n / 256 ^ k % 256) (beL k n) (by rw [beL_len]; omega)
    rw [show o + (s - 1 - k) + 1 = o + (s - k) by omega] at this
    rw [beL_cons, show o + (s - (k + 1)) = o + (s - 1 - k) by omega]
    exact this
  have HG : ∀ k, k < s → Hid (∃ d : Int, (putB cs (o + (s - k)) (beL k n))[o + (s - 1 - k)]? = some (.int .u8 d)) := by
    intro k hk
    show ∃ d : Int, _
    rw [putB_get cs _ _ _ (by rw [beL_len]; omega) (by omega)]
    exact HBy.out _ (by omega) (by omega)
  go_enter Try.func43, Try.ntmps43
  go_wp2
  go_loopw [7] (fun iv wr => ∃ k : Nat, k ≤ s ∧ iv = .int .i64 k ∧ Hid (Blk wr g T (putB cs (o + (s - k)) (beL k n))) ∧ Chg [g] w wr) (fun iv _ => s - (intOf iv).toNat)
  case atStart => exact ⟨0, by omega, rfl, by rw [show beL 0 n = [] from rfl, putB_nil]; exact HB, Chg.refl _ _⟩
  case round =>
    obtain ⟨k, hk, rfl, HBr, hb⟩ := hrel
    by_cases hlt : k < s
    · obtain ⟨d, hd⟩ := (HG k hlt).out
      have e1 := (HBr.out.cell (o + (s - 1 - k))).trans hd
      have e2 := HBr.out.frozen (o + (s - 1 - k))
      have e3 := HBr.out.lt
      have hset := HBr.out.set_ (o + (s - 1 - k)) (byteV (n / 256 ^ k % 256))
      rw [(HP k hlt).out] at hset
      have HN := Lib.hid hset
      have HC : Hid (Chg [g] w (wr.setCell ⟨g, o + (s - 1 - k), none⟩ (byteV (n / 256 ^ k % 256)))) := hb.setCell (.inl (by simp)) _
      clear hset hd HP HG
      have a1 : ((s : Int) - 1 - (k : Int)) = ((s - 1 - k : Nat) : Int) := by omega
      have hv := byteV_shr n k
      have HV := Lib.hid hv
      clear hv
      go_wp2
      go_roundw
      case rel => exact ⟨k + 1, by omega, by go_num, by rw [HV.out]; exact HN.out, by rw [HV.out]; exact HC.out⟩
      case measure => simp [intOf]; omega
    · obtain rfl : k = s := by omega
      go_wp2
      refine bodyPost_end (v := .tuple #[]) (results_none rfl _ _ _) rfl ⟨rfl, ?_, hb⟩
      have := HBr.out
      rw [Nat.sub_self, Nat.add_zero] at this
      exact this
end Go.Proofs.Ythfgjkmfabmipaa

/- What is read of a node's bytes. -/
set_option linter.unusedSimpArgs false
set_option linter.unusedVariables false
set_option maxRecDepth 100000
namespace Go.Proofs.Ythfgjkmfabmipaa
open Go.RowKit

/-- k bytes from a place on. -/
def cutL (b : List Nat) (at_ k : Nat) : List Nat := (b.drop at_).take k
theorem cutL_len {b : List Nat} {at_ k : Nat} (h : at_ + k ≤ b.length) : (cutL b at_ k).length = k := by
  unfold cutL; rw [List.length_take, List.length_drop]; omega
theorem cutL_lt {b : List Nat} (hb : ∀ c ∈ b, c < 256) (at_ k : Nat) : ∀ c ∈ cutL b at_ k, c < 256 := fun c hc => hb c (List.mem_of_mem_drop (List.mem_of_mem_take hc))
theorem cutL_add (b : List Nat) (at_ k m : Nat) : cutL b at_ (k + m) = cutL b at_ k ++ cutL b (at_ + k) m := by
  unfold cutL
  rw [← List.drop_drop, List.take_add]
theorem cutL_app (A B C : List Nat) : cutL (A ++ (B ++ C)) A.length B.length = B := by
  unfold cutL
  rw [List.drop_left, List.take_left]

/-- A part that begins at a place, and the place behind it. -/
def decP (leaf : Bool) (b : List Nat) (at_ : Nat) : Option (Pt × Nat) :=
  let front := if leaf then 3 else 1
  if b.length < at_ + front then none else
  let k := valL (cutL b at_ 1)
  let len := if leaf then valL (cutL b (at_ + 1) 2) else 0
  let behind := if leaf && decide (len ≤ 120) then len else 4
  if b.length < at_ + front + k + behind then none else
  some (⟨strN (cutL b (at_ + front) k), (len : Int), if leaf && decide (len ≤ 120) then strN (cutL b (at_ + front + k) behind) else ⟨#[]⟩, if leaf && decide (len ≤ 120) then 0 else (valL (cutL b (at_ + front + k) behind) : Int)⟩, at_ + front + k + behind)

/-- The first i parts, and the place behind them. -/
def decs (leaf : Bool) (b : List Nat) (at_ : Nat) : Nat → Option (List Pt × Nat)
  | 0 => some ([], at_)
  | i + 1 => match decs leaf b at_ i with
    | none => none
    | some (l, p) => match decP leaf b p with
      | none => none
      | some (x, q) => some (l ++ [x], q)

theorem bytesOf_strB {l : List Nat} (h : ∀ c ∈ l, c < 256) : bytesOf (strN l) = l := by
  unfold bytesOf strN
  simp only [List.map_map]
  conv => rhs; rw [← List.map_id l]
  apply List.map_congr_left
  intro c hc
  have := h c hc
  simp; omega

theorem decs_len {leaf : Bool} {b : List Nat} {at_ : Nat} : ∀ {i : Nat} {l : List Pt} {p : Nat}, decs leaf b at_ i = some (l, p) → l.length = i
  | 0, l, p, h => by simp [decs] at h; simp [← h.1]
  | i + 1, l, p, h => by
    unfold decs at h
    cases h1 : decs leaf b at_ i with
    | none => rw [h1] at h; simp at h
    | some r =>
      obtain ⟨l', p'⟩ := r
      rw [h1] at h
      cases h2 : decP leaf b p' with
      | none => simp [h2] at h
      | some r2 =>
        obtain ⟨x, q⟩ := r2
        simp [h2] at h
        have := decs_len h1
        simp [← h.1, this]

/-- What was read are its bytes. -/
theorem decP_enc {leaf : Bool} {b : List Nat} (hb : ∀ c ∈ b, c < 256) {at_ q : Nat} {x : Pt} (h : decP leaf b at_ = some (x, q)) : at_ ≤ q ∧ q ≤ b.length ∧ cutL b at_ (q - at_) = encPt leaf x ∧ x.key.size < 256 := by
  have key : ∀ (k front : Nat), k = valL (cutL b at_ 1) → at_ + front ≤ b.length → 1 ≤ front → cutL b at_ 1 = [k] ∧ k < 256 := by
    intro k front hk hf h1
    have hk1 : (cutL b at_ 1).length = 1 := cutL_len (by omega)
    subst hk
    refine ⟨?_, by have := valL_lt _ (cutL_lt hb at_ 1); rw [hk1] at this; simpa using this⟩
    match hc : cutL b at_ 1, hk1 with
    | [c], _ => simp [valL]
  unfold decP at h
  cases leaf with
  | true =>
    simp only [if_true, Bool.true_and] at h
    split at h
    · simp at h
    · rename_i hf
      obtain ⟨hkb, hkl⟩ := key _ 3 rfl (by omega) (by omega)
      have hl2 : (cutL b (at_ + 1) 2).length = 2 := cutL_len (by omega)
      have hlb := beL_valL _ (cutL_lt hb (at_ + 1) 2)
      rw [hl2] at hlb
      generalize hK : valL (cutL b at_ 1) = k at *
      generalize hL : valL (cutL b (at_ + 1) 2) = len at *
      by_cases h120 : len ≤ 120
      · simp only [h120, decide_true, if_true] at h
        split at h
        · simp at h
        · rename_i hs
          simp only [Option.some.injEq, Prod.mk.injEq] at h
          obtain ⟨rfl, rfl⟩ := h
          refine ⟨by omega, by omega, ?_, ?_⟩
          · have e1 : at_ + 3 + k + len - at_ = 1 + (2 + (k + len)) := by omega
            rw [e1, cutL_add, cutL_add, cutL_add, hkb, ← hlb]
            unfold encPt
            have hks : (strN (cutL b (at_ + 3) k)).size = k := by rw [strN_size, cutL_len (by omega)]
            rw [hks, bytesOf_strB (cutL_lt hb _ _)]
            have : decide ((len : Int) ≤ 120) = true := by simp; omega
            simp only [if_true, Bool.true_and, this, Int.toNat_natCast]
            rw [bytesOf_strB (cutL_lt hb _ _)]
            simp [Nat.add_assoc]
          · simp only; rw [strN_size, cutL_len (by omega)]; exact hkl
      · simp only [h120, decide_false, Bool.false_eq_true, if_false] at h
        split at h
        · simp at h
        · rename_i hs
          simp only [Option.some.injEq, Prod.mk.injEq] at h
          obtain ⟨rfl, rfl⟩ := h
          refine ⟨by omega, by omega, ?_, ?_⟩
          · have e1 : at_ + 3 + k + 4 - at_ = 1 + (2 + (k + 4)) := by omega
            have hpb := beL_valL _ (cutL_lt hb (at_ + 3 + k) 4)
            rw [cutL_len (by omega)] at hpb
            rw [e1, cutL_add, cutL_add, cutL_add, hkb, ← hlb]
            unfold encPt
            have hks : (strN (cutL b (at_ + 3) k)).size = k := by rw [strN_size, cutL_len (by omega)]
            rw [hks, bytesOf_strB (cutL_lt hb _ _)]
            have : decide ((len : Int) ≤ 120) = false := by simp; omega
            simp only [if_true, Bool.true_and, this, Int.toNat_natCast, Bool.false_eq_true, if_false]
            rw [hpb]
            simp [Nat.add_assoc]
          · simp only; rw [strN_size, cutL_len (by omega)]; exact hkl
  | false =>
    simp only [Bool.false_eq_true, if_false, Bool.false_and] at h
    split at h
    · simp at h
    · rename_i hf
      obtain ⟨hkb, hkl⟩ := key _ 1 rfl (by omega) (by omega)
      generalize hK : valL (cutL b at_ 1) = k at *
      split at h
      · simp at h
      · rename_i hs
        simp only [Option.some.injEq, Prod.mk.injEq] at h
        obtain ⟨rfl, rfl⟩ := h
        refine ⟨by omega, by omega, ?_, ?_⟩
        · have e1 : at_ + 1 + k + 4 - at_ = 1 + (k + 4) := by omega
          have hpb := beL_valL _ (cutL_lt hb (at_ + 1 + k) 4)
          rw [cutL_len (by omega)] at hpb
          rw [e1, cutL_add, cutL_add, hkb]
          unfold encPt
          have hks : (strN (cutL b (at_ + 1) k)).size = k := by rw [strN_size, cutL_len (by omega)]
          rw [hks, bytesOf_strB (cutL_lt hb _ _)]
          simp only [Bool.false_eq_true, if_false, Bool.false_and, Int.toNat_natCast]
          rw [hpb]
          simp [Nat.add_assoc]
        · simp only; rw [strN_size, cutL_len (by omega)]; exact hkl

theorem decs_enc {leaf : Bool} {b : List Nat} (hb : ∀ c ∈ b, c < 256) {at_ : Nat} (hat : at_ ≤ b.length) : ∀ {i : Nat} {l : List Pt} {q : Nat}, decs leaf b at_ i = some (l, q) → at_ ≤ q ∧ q ≤ b.length ∧ cutL b at_ (q - at_) = encPs leaf l
  | 0, l, q, h => by
    simp [decs] at h
    obtain ⟨rfl, rfl⟩ := h
    exact ⟨by omega, hat, by simp [cutL, encPs]⟩
  | i + 1, l, q, h => by
    unfold decs at h
    cases h1 : decs leaf b at_ i with
    | none => rw [h1] at h; simp at h
    | some r =>
      obtain ⟨l', p'⟩ := r
      rw [h1] at h
      cases h2 : decP leaf b p' with
      | none => simp [h2] at h
      | some r2 =>
        obtain ⟨x, q'⟩ := r2
        simp [h2] at h
        obtain ⟨rfl, rfl⟩ := h
        obtain ⟨i1, i2, i3⟩ := decs_enc hb hat h1
        obtain ⟨j1, j2, j3, _⟩ := decP_enc hb h2
        refine ⟨by omega, j2, ?_⟩
        rw [show q' - at_ = (p' - at_) + (q' - p') by omega, cutL_add, i3, show at_ + (p' - at_) = p' by omega, j3, encPs_snoc]

/-- What was written is read. -/
theorem decP_of (leaf : Bool) (A C : List Nat) (x : Pt) (hk : x.key.size < 256) (hx : if leaf then x.okL = true else x.okI = true) : decP leaf (A ++ (encPt leaf x ++ C)) A.length = some (x, A.length + (encPt leaf x).length) := by
  obtain ⟨key, len, data, page⟩ := x
  cases leaf with
  | true =>
    simp only [if_true] at hx
    obtain ⟨l0, l1, l2, l3⟩ := okL_bd hx
    simp only at l0 l1 l2 l3 hk
    obtain ⟨n, rfl⟩ := Int.eq_ofNat_of_zero_le l0
    have hn : n < 65536 := by omega
    have henc : encPt true ⟨key, n, data, page⟩ = [key.size] ++ (beL 2 n ++ (bytesOf key ++ (if n ≤ 120 then bytesOf data else beL 4 page.toNat))) := by
      unfold encPt
      have : decide ((n : Int) ≤ 120) = decide (n ≤ 120) := decide_eq_decide.2 (by omega)
      simp only [if_true, Bool.true_and, this, decide_eq_true_eq, Int.toNat_natCast, List.singleton_append]
    have c1 : cutL (A ++ (encPt true ⟨key, n, data, page⟩ ++ C)) A.length 1 = [key.size] := by
      rw [henc, List.append_assoc]; exact cutL_app A [key.size] _
    have c2 : cutL (A ++ (encPt true ⟨key, n, data, page⟩ ++ C)) (A.length + 1) 2 = beL 2 n := by
      have := cutL_app (A ++ [key.size]) (beL 2 n) ((bytesOf key ++ (if n ≤ 120 then bytesOf data else beL 4 page.toNat)) ++ C)
      rw [beL_len, List.length_append] at this
      rw [henc]
      simpa [List.append_assoc] using this
    have c3 : cutL (A ++ (encPt true ⟨key, n, data, page⟩ ++ C)) (A.length + 3) key.size = bytesOf key := by
      have := cutL_app (A ++ [key.size] ++ beL 2 n) (bytesOf key) ((if n ≤ 120 then bytesOf data else beL 4 page.toNat) ++ C)
      rw [bytesOf_len, List.length_append, List.length_append, beL_len] at this
      rw [henc]
      simpa [List.append_assoc] using this
    have hv1 : valL [key.size] = key.size := by simp [valL]
    have hv2 : valL (beL 2 n) = n := by rw [valL_beL]; omega
    have hlen : (encPt true ⟨key, n, data, page⟩).length = 3 + key.size + (if n ≤ 120 then data.size else 4) := by
      rw [henc]; simp only [List.length_append, beL_len, bytesOf_len, List.length_singleton]; split <;> simp [bytesOf_len, beL_len] <;> omega
    unfold decP
    simp only [if_true, Bool.true_and, c1, c2, hv1, hv2]
    rw [c3]
    have htot : (A ++ (encPt true ⟨key, n, data, page⟩ ++ C)).length = A.length + (3 + key.size + (if n ≤ 120 then data.size else 4)) + C.length := by
      rw [List.length_append, List.length_append, hlen]; omega
    by_cases h120 : n ≤ 120
    · obtain ⟨d1, d2⟩ := l2 (by omega)
      have d1' : data.size = n := by omega
      subst d2
      have c4 : cutL (A ++ (encPt true ⟨key, n, data, 0⟩ ++ C)) (A.length + 3 + key.size) n = bytesOf data := by
        have := cutL_app (A ++ [key.size] ++ beL 2 n ++ bytesOf key) (bytesOf data) C
        rw [bytesOf_len, List.length_append, List.length_append, List.length_append, beL_len, bytesOf_len, d1'] at this
        rw [henc, if_pos h120]
        simpa [List.append_assoc] using this
      rw [if_pos h120] at htot hlen
      simp only [h120, decide_true, if_true]
      rw [if_neg (by omega), if_neg (by omega), c4, hlen, strN_bytesOf, strN_bytesOf]
      simp; omega
    · obtain ⟨d1, d2, d3⟩ := l3 (by omega)
      have d0 : data = ⟨#[]⟩ := ByteArray.ext (Array.size_eq_zero_iff.1 d1)
      have c4 : cutL (A ++ (encPt true ⟨key, n, data, page⟩ ++ C)) (A.length + 3 + key.size) 4 = beL 4 page.toNat := by
        have := cutL_app (A ++ [key.size] ++ beL 2 n ++ bytesOf key) (beL 4 page.toNat) C
        rw [beL_len, List.length_append, List.length_append, List.length_append, beL_len, bytesOf_len] at this
        rw [henc, if_neg h120]
        simpa [List.append_assoc] using this
      have hv4 : valL (beL 4 page.toNat) = page.toNat := by rw [valL_beL]; omega
      rw [if_neg h120] at htot hlen
      simp only [h120, decide_false, Bool.false_eq_true, if_false]
      rw [if_neg (by omega), if_neg (by omega), c4, hlen, strN_bytesOf, hv4, d0]
      simp; omega
  | false =>
    simp only [Bool.false_eq_true, if_false] at hx
    obtain ⟨l0, l1, l2, l3⟩ := okI_bd hx
    simp only at l0 l1 l2 l3 hk
    have d0 : data = ⟨#[]⟩ := ByteArray.ext (Array.size_eq_zero_iff.1 l1)
    subst l0 d0
    have henc : encPt false ⟨key, 0, ⟨#[]⟩, page⟩ = [key.size] ++ (bytesOf key ++ beL 4 page.toNat) := by
      unfold encPt; simp
    have c1 : cutL (A ++ (encPt false ⟨key, 0, ⟨#[]⟩, page⟩ ++ C)) A.length 1 = [key.size] := by
      rw [henc, List.append_assoc]; exact cutL_app A [key.size] _
    have c3 : cutL (A ++ (encPt false ⟨key, 0, ⟨#[]⟩, page⟩ ++ C)) (A.length + 1) key.size = bytesOf key := by
      have := cutL_app (A ++ [key.size]) (bytesOf key) (beL 4 page.toNat ++ C)
      rw [bytesOf_len, List.length_append] at this
      rw [henc]
      simpa [List.append_assoc] using this
    have c4 : cutL (A ++ (encPt false ⟨key, 0, ⟨#[]⟩, page⟩ ++ C)) (A.length + 1 + key.size) 4 = beL 4 page.toNat := by
      have := cutL_app (A ++ [key.size] ++ bytesOf key) (beL 4 page.toNat) C
      rw [beL_len, List.length_append, List.length_append, bytesOf_len] at this
      rw [henc]
      simpa [List.append_assoc] using this
    have hv1 : valL [key.size] = key.size := by simp [valL]
    have hv4 : valL (beL 4 page.toNat) = page.toNat := by rw [valL_beL]; omega
    have hlen : (encPt false ⟨key, 0, ⟨#[]⟩, page⟩).length = 1 + key.size + 4 := by
      rw [henc]; simp only [List.length_append, beL_len, bytesOf_len, List.length_singleton]; omega
    have htot : (A ++ (encPt false ⟨key, 0, ⟨#[]⟩, page⟩ ++ C)).length = A.length + (1 + key.size + 4) + C.length := by
      rw [List.length_append, List.length_append, hlen]; omega
    unfold decP
    simp only [Bool.false_eq_true, if_false, Bool.false_and, c1, hv1]
    rw [c3, c4, hv4, if_neg (by omega), if_neg (by omega), hlen, strN_bytesOf]
    simp; omega

theorem decs_of (leaf : Bool) (A C : List Nat) (l : List Pt) (hk : ∀ x ∈ l, x.key.size < 256 ∧ (if leaf then x.okL = true else x.okI = true)) : ∀ i, i ≤ l.length → decs leaf (A ++ (encPs leaf l ++ C)) A.length i = some (l.take i, A.length + (encPs leaf (l.take i)).length)
  | 0, _ => by simp [decs, encPs]
  | i + 1, h => by
    have ih := decs_of leaf A C l hk i (by omega)
    have hi := List.getElem?_eq_getElem (show i < l.length by omega)
    have hm := hk l[i] (List.getElem_mem (by omega))
    have e : A ++ (encPs leaf l ++ C) = (A ++ encPs leaf (l.take i)) ++ (encPt leaf l[i] ++ (encPs leaf (l.drop (i + 1)) ++ C)) := by
      have e1 : encPs leaf l = encPs leaf (l.take i) ++ (encPt leaf l[i] ++ encPs leaf (l.drop (i + 1))) := by
        conv => lhs; rw [← List.take_append_drop i l, List.drop_eq_getElem_cons (show i < l.length by omega)]
        simp only [encPs, List.flatMap_append, List.flatMap_cons]
      rw [e1]
      simp only [List.append_assoc]
    have h2 := decP_of leaf (A ++ encPs leaf (l.take i)) (encPs leaf (l.drop (i + 1)) ++ C) l[i] hm.1 hm.2
    rw [← e, List.length_append] at h2
    unfold decs
    rw [ih]
    simp only [h2]
    rw [List.take_add_one, hi, Option.toList_some, encPs_snoc, List.length_append]
    simp; omega
end Go.Proofs.Ythfgjkmfabmipaa

/- The walk of the law VarintTexts. -/
set_option linter.unusedSimpArgs false
set_option linter.unusedVariables false
set_option maxRecDepth 100000
namespace Go.Proofs.Ythfgjkmfabmipaa
open Go.RowKit

end Go.Proofs.Ythfgjkmfabmipaa

/- Plain mathematics of VarintBack: integers and texts go there and back. -/
set_option linter.unusedSimpArgs false
set_option linter.unusedVariables false
set_option maxRecDepth 100000
namespace Go.Proofs.Ythfgjkmfabmipaa
open Go.RowKit

theorem getS_put (B : List Nat) : ∀ (x i v : Nat), i ≤ 9 → (i = 0 ∨ 0 < x) → x * 128 ^ i < 18446744073709551616 → getS (putL x ++ B) i v = (v + x * 128 ^ i, i + (putL x).length, 0) := by
  intro x
  induction x using putL.induct with
  | case1 x h =>
    intro i v hi hx hs
    rw [putL_small h]
    have h9 : i = 9 → x ≤ 1 := by
      rintro rfl
      have : (128 : Nat) ^ 9 = 9223372036854775808 := by decide
      omega
    simp only [List.cons_append, List.nil_append, getS]
    rw [if_neg (by omega), if_neg (by omega), if_pos h]
    simp
  | case2 x h ih =>
    intro i v hi hx hs
    rw [putL_step h]
    have h9 : i ≠ 9 := by
      rintro rfl
      have : (128 : Nat) ^ 9 = 9223372036854775808 := by decide
      omega
    simp only [List.cons_append, getS]
    rw [if_neg (by omega), if_neg (by omega), if_neg (by omega)]
    have e1 : x / 128 * 128 ^ (i + 1) + x % 128 * 128 ^ i = x * 128 ^ i := by
      have := Nat.div_add_mod x 128
      rw [Nat.pow_succ, Nat.mul_comm (128 ^ i) 128, ← Nat.mul_assoc, ← Nat.add_mul, Nat.mul_comm (x / 128) 128, this]
    rw [ih (i + 1) (v + (x % 128 + 128 - 128) * 128 ^ i) (by omega) (.inr (by omega)) (by omega)]
    simp only [Nat.add_sub_cancel, List.length_cons, Prod.mk.injEq, and_true]
    omega

/-- The bytes of an integer, wherever they stand. -/
theorem getR_put (A B : List Nat) (x : Nat) (hx : x < 18446744073709551616) : getR (A ++ (putL x ++ B)) (A.length : Nat) = (x, (A.length : Int) + (putL x).length, 0) := by
  unfold getR
  rw [if_neg (by simp; omega)]
  have := getS_put B x 0 0 (by omega) (.inl rfl) (by simpa using hx)
  simp [this]

theorem textR_put (A : List Nat) (s : ByteArray) (hs : s.size < 18446744073709551616) : textR (A ++ textL s) (A.length : Nat) = (s, (((A ++ textL s).length : Nat) : Int), 0) := by
  unfold textR textL
  rw [getR_put A (bytesOf s) s.size hs]
  simp only [ne_eq, not_true_eq_false, if_false]
  rw [if_neg (by simp [bytesOf_len]; omega)]
  have e : ((A.length : Int) + (putL s.size).length).toNat = A.length + (putL s.size).length := by omega
  have e2 : List.drop (A.length + (putL s.size).length) (A ++ (putL s.size ++ bytesOf s)) = bytesOf s := by
    rw [← List.append_assoc, ← List.length_append, List.drop_left]
  rw [e, e2]
  rw [List.take_of_length_le (by rw [bytesOf_len]; omega), strN_bytesOf]
  simp [bytesOf_len]
  omega

/-- In one way alone. -/
theorem getS_only : ∀ (D : List Nat) (i v0 v n : Nat), (∀ c ∈ D, c < 256) → i ≤ 9 → getS D i v0 = (v, n, 0) →
    ∃ x, v = v0 + x * 128 ^ i ∧ n = i + (putL x).length ∧ (putL x).length ≤ D.length ∧ D.take (putL x).length = putL x ∧ (0 < i → x ≠ 0)
  | [], i, v0, v, n, _, _, h => by simp [getS] at h
  | c :: r, i, v0, v, n, hD, hi, h => by
    unfold getS at h
    split at h
    · simp at h
    · split at h
      · simp at h
      · split at h
        · rename_i h1 h2 h3
          simp only [Prod.mk.injEq, and_true] at h
          refine ⟨c, h.1.symm, ?_, ?_, ?_, ?_⟩
          · rw [putL_small h3]; simp; omega
          · rw [putL_small h3]; simp
          · rw [putL_small h3]; simp
          · omega
        · rename_i h1 h2 h3
          have hc := hD c (by simp)
          obtain ⟨x, e1, e2, e3, e4, e5⟩ := getS_only r (i + 1) (v0 + (c - 128) * 128 ^ i) v n (fun d hd => hD d (by simp [hd])) (by omega) h
          have hx := e5 (by omega)
          have hp : putL (c - 128 + 128 * x) = c :: putL x := by
            rw [putL_step (by omega)]
            congr 1
            · omega
            · congr 1; omega
          refine ⟨c - 128 + 128 * x, ?_, ?_, ?_, ?_, ?_⟩
          · rw [e1, Nat.add_mul, Nat.pow_succ, Nat.mul_comm (128 ^ i) 128, ← Nat.mul_assoc, Nat.mul_comm x 128]; omega
          · rw [hp, e2]; simp; omega
          · rw [hp]; simp; omega
          · rw [hp]; simp [e4]
          · omega

theorem getR_only (l : List Nat) (h256 : ∀ c ∈ l, c < 256) (at_ : Int) (v : Nat) (n : Int) (h : getR l at_ = (v, n, 0)) :
    0 ≤ at_ ∧ ∃ m : Nat, n = m ∧ at_ < n ∧ m ≤ l.length ∧ putL v = (l.drop at_.toNat).take (m - at_.toNat) := by
  unfold getR at h
  split at h
  · simp at h
  · rename_i h1
    obtain ⟨G, hG⟩ : ∃ G, getS (l.drop at_.toNat) 0 0 = G := ⟨_, rfl⟩
    obtain ⟨gv, gn, ge⟩ := G
    rw [hG] at h
    simp only [] at h
    split at h
    · rename_i h2
      subst h2
      obtain ⟨x, e1, e2, e3, e4, _⟩ := getS_only (l.drop at_.toNat) 0 0 gv gn (fun c hc => h256 c (List.mem_of_mem_drop hc)) (by omega) hG
      simp only [Prod.mk.injEq, and_true] at h
      have hx : x = v := by rw [← h.1, e1]; simp
      subst hx
      rw [List.length_drop] at e3
      have hp := putL_pos x
      refine ⟨by omega, (at_ + (gn : Int)).toNat, by omega, by omega, by omega, ?_⟩
      rw [show (at_ + (gn : Int)).toNat - at_.toNat = (putL x).length by omega]
      exact e4.symm
    · rename_i h2
      simp only [Prod.mk.injEq] at h
      exact absurd h.2.2 h2

/-- The bytes of all the integers of a list. -/
def allL (l : List Nat) : List Nat := l.flatMap putL
theorem allL_snoc (l : List Nat) (k : Nat) (h : k < l.length) : allL (l.take (k + 1)) = allL (l.take k) ++ putL l[k] := by
  unfold allL; rw [take_succ_n l k h, List.flatMap_append]; simp [List.flatMap_cons]
theorem allL_split (l : List Nat) (k : Nat) (h : k < l.length) : allL l = allL (l.take k) ++ (putL l[k] ++ allL (l.drop (k + 1))) := by
  unfold allL
  conv => lhs; rw [← List.take_append_drop k l, List.drop_eq_getElem_cons h]
  rw [List.flatMap_append, List.flatMap_cons]
theorem allL_len (l : List Nat) (hl : ∀ c ∈ l, c < 18446744073709551616) : (allL l).length ≤ 10 * l.length := by
  induction l with
  | nil => simp [allL]
  | cons c r ih =>
    have := ih (fun d hd => hl d (by simp [hd]))
    have := putL_len10 (hl c (by simp))
    simp [allL] at *
    omega
theorem allL_lt (l : List Nat) : ∀ c ∈ allL l, c < 256 := by
  intro c hc
  obtain ⟨d, _, hd⟩ := List.mem_flatMap.1 hc
  exact putL_byte d c hd
end Go.Proofs.Ythfgjkmfabmipaa

/- Plain mathematics of layer 2: the values of SQL. -/
set_option linter.unusedSimpArgs false
set_option linter.unusedVariables false
set_option maxRecDepth 100000
namespace Go.Proofs.Ythfgjkmfabmipaa

/-- A value: its kind, its integer, its text. -/
structure Vl where
  k : Nat
  n : Int
  s : ByteArray
  deriving DecidableEq

/-- A value's fields fit their types. -/
def Vl.ok (x : Vl) : Prop := x.k < 256 ∧ -9223372036854775808 ≤ x.n ∧ x.n ≤ 9223372036854775807

def Vl.right (x : Vl) : Bool :=
  if x.k = 0 then decide (x.n = 0) && decide (x.s.size = 0)
  else if x.k = 1 then decide (x.s.size = 0)
  else if x.k = 2 ∨ x.k = 3 then decide (x.n = 0)
  else false

def nullV : Vl := ⟨0, 0, ⟨#[]⟩⟩
def numV (n : Int) : Vl := ⟨1, n, ⟨#[]⟩⟩

/-- Does an int64 hold it? -/
def fits (n : Int) : Bool := decide (-9223372036854775808 ≤ n ∧ n ≤ 9223372036854775807)

def addI (x y : Int) : Int × Int := if fits (x + y) then (x + y, 0) else (0, 21)
def subI (x y : Int) : Int × Int := if fits (x - y) then (x - y, 0) else (0, 21)
def mulI (x y : Int) : Int × Int := if fits (x * y) then (x * y, 0) else (0, 21)
def divI (x y : Int) : Int × Int := if y = 0 then (0, 22) else if fits (x.tdiv y) then (x.tdiv y, 0) else (0, 21)
def modI (x y : Int) : Int × Int := if y = 0 then (0, 22) else (x.tmod y, 0)

/-- An operation on two values. -/
def arithV (op : Int → Int → Int × Int) (a b : Vl) : Vl × Int :=
  if a.right = false ∨ b.right = false then (nullV, 3)
  else if 1 < a.k ∨ 1 < b.k then (nullV, 20)
  else if a.k = 0 ∨ b.k = 0 then (nullV, 0)
  else if (op a.n b.n).2 ≠ 0 then (nullV, (op a.n b.n).2) else (numV (op a.n b.n).1, 0)

theorem fits_iff (n : Int) : fits n = true ↔ -9223372036854775808 ≤ n ∧ n ≤ 9223372036854775807 := by simp [fits]

/-- A product that wrapped doesn't give back its factor. -/
theorem mul_back (x y : Int) (hx1 : -9223372036854775808 ≤ x) (hx2 : x ≤ 9223372036854775807) (hy1 : -9223372036854775808 ≤ y) (hy2 : y ≤ 9223372036854775807) (hy : y ≠ 0)
    (hf : fits (x * y) = false) : (IntKind.i64.wrap (x * y)).tdiv y ≠ x := by
  intro h
  have hnf : ¬ (-9223372036854775808 ≤ x * y ∧ x * y ≤ 9223372036854775807) := by
    intro hh; rw [(fits_iff _).2 hh] at hf; cases hf
  have hdm := Int.tdiv_mul_add_tmod (IntKind.i64.wrap (x * y)) y
  rw [h] at hdm
  have hlt : ((IntKind.i64.wrap (x * y)).tmod y).natAbs < y.natAbs := by rw [Int.natAbs_tmod]; exact Nat.mod_lt _ (by omega)
  rw [IntKind.wrap_i64] at *
  generalize x * y = p at *
  omega

end Go.Proofs.Ythfgjkmfabmipaa

/- The walks of layer 2's small functions. -/
set_option linter.unusedSimpArgs false
set_option linter.unusedVariables false
set_option maxRecDepth 100000
namespace Go.Proofs.Ythfgjkmfabmipaa
open Go.RowKit

theorem ret_b {a b : Bool} (h : a = b) : Ending.returned (.bool a) = .returned (.bool b) := by rw [h]

theorem Below.box (w : World) (o : Obj) : Below w.heap.size w (w.alloc o) := (Below.refl _ _).alloc (Nat.le_refl _) _

theorem kinds (k : Nat) : k = 0 ∨ k = 1 ∨ k = 2 ∨ k = 3 ∨ 3 < k := by omega

theorem right_big {k : Nat} (n : Int) (s : ByteArray) (hk : 3 < k) : Vl.right ⟨k, n, s⟩ = false := by
  unfold Vl.right
  rw [if_neg (by simp only; omega), if_neg (by simp only; omega), if_neg (by simp only; omega)]

end Go.Proofs.Ythfgjkmfabmipaa
