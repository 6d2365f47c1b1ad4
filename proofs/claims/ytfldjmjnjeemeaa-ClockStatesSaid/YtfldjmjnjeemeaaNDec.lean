/- What is read of a node's bytes. -/
import Derived.Test.YtfldjmjnjeemeaaNEnc
namespace Go.Proofs.Ytfldjmjnjeemeaa
open Go.RowKit

/-- k bytes from a place on. -/
def cutL (b : List Nat) (at_ k : Nat) : List Nat := (b.drop at_).take k
theorem cutL_len {b : List Nat} {at_ k : Nat} (h : at_ + k ≤ b.length) : (cutL b at_ k).length = k := by
  unfold cutL; rw [List.length_take, List.length_drop]; omega
theorem cutL_lt {b : List Nat} (hb : ∀ c ∈ b, c < 256) (at_ k : Nat) : ∀ c ∈ cutL b at_ k, c < 256 := fun c hc => hb c (List.mem_of_mem_drop (List.mem_of_mem_take hc))
theorem cutL_add (b : List Nat) (at_ k m : Nat) : cutL b at_ (k + m) = cutL b at_ k ++ cutL b (at_ + k) m := by
  unfold cutL
  rw [← List.drop_drop, List.take_add]
theorem cutL_app (A B C : List Nat) : cutL (A ++ (B ++ C)) A.length B.length = B := by
  unfold cutL
  rw [List.drop_left, List.take_left]

/-- A part that begins at a place, and the place behind it. -/
def decP (leaf : Bool) (b : List Nat) (at_ : Nat) : Option (Pt × Nat) :=
  let front := if leaf then 3 else 1
  if b.length < at_ + front then none else
  let k := valL (cutL b at_ 1)
  let len := if leaf then valL (cutL b (at_ + 1) 2) else 0
  let behind := if leaf && decide (len ≤ 120) then len else 4
  if b.length < at_ + front + k + behind then none else
  some (⟨strN (cutL b (at_ + front) k), (len : Int), if leaf && decide (len ≤ 120) then strN (cutL b (at_ + front + k) behind) else ⟨#[]⟩, if leaf && decide (len ≤ 120) then 0 else (valL (cutL b (at_ + front + k) behind) : Int)⟩, at_ + front + k + behind)

/-- The first i parts, and the place behind them. -/
def decs (leaf : Bool) (b : List Nat) (at_ : Nat) : Nat → Option (List Pt × Nat)
  | 0 => some ([], at_)
  | i + 1 => match decs leaf b at_ i with
    | none => none
    | some (l, p) => match decP leaf b p with
      | none => none
      | some (x, q) => some (l ++ [x], q)

theorem bytesOf_strB {l : List Nat} (h : ∀ c ∈ l, c < 256) : bytesOf (strN l) = l := by
  unfold bytesOf strN
  simp only [List.map_map]
  conv => rhs; rw [← List.map_id l]
  apply List.map_congr_left
  intro c hc
  have := h c hc
  simp; omega

theorem decs_len {leaf : Bool} {b : List Nat} {at_ : Nat} : ∀ {i : Nat} {l : List Pt} {p : Nat}, decs leaf b at_ i = some (l, p) → l.length = i
  | 0, l, p, h => by simp [decs] at h; simp [← h.1]
  | i + 1, l, p, h => by
    unfold decs at h
    cases h1 : decs leaf b at_ i with
    | none => rw [h1] at h; simp at h
    | some r =>
      obtain ⟨l', p'⟩ := r
      rw [h1] at h
      cases h2 : decP leaf b p' with
      | none => simp [h2] at h
      | some r2 =>
        obtain ⟨x, q⟩ := r2
        simp [h2] at h
        have := decs_len h1
        simp [← h.1, this]

/-- What was read are its bytes. -/
theorem decP_enc {leaf : Bool} {b : List Nat} (hb : ∀ c ∈ b, c < 256) {at_ q : Nat} {x : Pt} (h : decP leaf b at_ = some (x, q)) : at_ ≤ q ∧ q ≤ b.length ∧ cutL b at_ (q - at_) = encPt leaf x ∧ x.key.size < 256 := by
  have key : ∀ (k front : Nat), k = valL (cutL b at_ 1) → at_ + front ≤ b.length → 1 ≤ front → cutL b at_ 1 = [k] ∧ k < 256 := by
    intro k front hk hf h1
    have hk1 : (cutL b at_ 1).length = 1 := cutL_len (by omega)
    subst hk
    refine ⟨?_, by have := valL_lt _ (cutL_lt hb at_ 1); rw [hk1] at this; simpa using this⟩
    match hc : cutL b at_ 1, hk1 with
    | [c], _ => simp [valL]
  unfold decP at h
  cases leaf with
  | true =>
    simp only [if_true, Bool.true_and] at h
    split at h
    · simp at h
    · rename_i hf
      obtain ⟨hkb, hkl⟩ := key _ 3 rfl (by omega) (by omega)
      have hl2 : (cutL b (at_ + 1) 2).length = 2 := cutL_len (by omega)
      have hlb := beL_valL _ (cutL_lt hb (at_ + 1) 2)
      rw [hl2] at hlb
      generalize hK : valL (cutL b at_ 1) = k at *
      generalize hL : valL (cutL b (at_ + 1) 2) = len at *
      by_cases h120 : len ≤ 120
      · simp only [h120, decide_true, if_true] at h
        split at h
        · simp at h
        · rename_i hs
          simp only [Option.some.injEq, Prod.mk.injEq] at h
          obtain ⟨rfl, rfl⟩ := h
          refine ⟨by omega, by omega, ?_, ?_⟩
          · have e1 : at_ + 3 + k + len - at_ = 1 + (2 + (k + len)) := by omega
            rw [e1, cutL_add, cutL_add, cutL_add, hkb, ← hlb]
            unfold encPt
            have hks : (strN (cutL b (at_ + 3) k)).size = k := by rw [strN_size, cutL_len (by omega)]
            rw [hks, bytesOf_strB (cutL_lt hb _ _)]
            have : decide ((len : Int) ≤ 120) = true := by simp; omega
            simp only [if_true, Bool.true_and, this, Int.toNat_natCast]
            rw [bytesOf_strB (cutL_lt hb _ _)]
            simp [Nat.add_assoc]
          · simp only; rw [strN_size, cutL_len (by omega)]; exact hkl
      · simp only [h120, decide_false, Bool.false_eq_true, if_false] at h
        split at h
        · simp at h
        · rename_i hs
          simp only [Option.some.injEq, Prod.mk.injEq] at h
          obtain ⟨rfl, rfl⟩ := h
          refine ⟨by omega, by omega, ?_, ?_⟩
          · have e1 : at_ + 3 + k + 4 - at_ = 1 + (2 + (k + 4)) := by omega
            have hpb := beL_valL _ (cutL_lt hb (at_ + 3 + k) 4)
            rw [cutL_len (by omega)] at hpb
            rw [e1, cutL_add, cutL_add, cutL_add, hkb, ← hlb]
            unfold encPt
            have hks : (strN (cutL b (at_ + 3) k)).size = k := by rw [strN_size, cutL_len (by omega)]
            rw [hks, bytesOf_strB (cutL_lt hb _ _)]
            have : decide ((len : Int) ≤ 120) = false := by simp; omega
            simp only [if_true, Bool.true_and, this, Int.toNat_natCast, Bool.false_eq_true, if_false]
            rw [hpb]
            simp [Nat.add_assoc]
          · simp only; rw [strN_size, cutL_len (by omega)]; exact hkl
  | false =>
    simp only [Bool.false_eq_true, if_false, Bool.false_and] at h
    split at h
    · simp at h
    · rename_i hf
      obtain ⟨hkb, hkl⟩ := key _ 1 rfl (by omega) (by omega)
      generalize hK : valL (cutL b at_ 1) = k at *
      split at h
      · simp at h
      · rename_i hs
        simp only [Option.some.injEq, Prod.mk.injEq] at h
        obtain ⟨rfl, rfl⟩ := h
        refine ⟨by omega, by omega, ?_, ?_⟩
        · have e1 : at_ + 1 + k + 4 - at_ = 1 + (k + 4) := by omega
          have hpb := beL_valL _ (cutL_lt hb (at_ + 1 + k) 4)
          rw [cutL_len (by omega)] at hpb
          rw [e1, cutL_add, cutL_add, hkb]
          unfold encPt
          have hks : (strN (cutL b (at_ + 1) k)).size = k := by rw [strN_size, cutL_len (by omega)]
          rw [hks, bytesOf_strB (cutL_lt hb _ _)]
          simp only [Bool.false_eq_true, if_false, Bool.false_and, Int.toNat_natCast]
          rw [hpb]
          simp [Nat.add_assoc]
        · simp only; rw [strN_size, cutL_len (by omega)]; exact hkl

theorem decs_enc {leaf : Bool} {b : List Nat} (hb : ∀ c ∈ b, c < 256) {at_ : Nat} (hat : at_ ≤ b.length) : ∀ {i : Nat} {l : List Pt} {q : Nat}, decs leaf b at_ i = some (l, q) → at_ ≤ q ∧ q ≤ b.length ∧ cutL b at_ (q - at_) = encPs leaf l
  | 0, l, q, h => by
    simp [decs] at h
    obtain ⟨rfl, rfl⟩ := h
    exact ⟨by omega, hat, by simp [cutL, encPs]⟩
  | i + 1, l, q, h => by
    unfold decs at h
    cases h1 : decs leaf b at_ i with
    | none => rw [h1] at h; simp at h
    | some r =>
      obtain ⟨l', p'⟩ := r
      rw [h1] at h
      cases h2 : decP leaf b p' with
      | none => simp [h2] at h
      | some r2 =>
        obtain ⟨x, q'⟩ := r2
        simp [h2] at h
        obtain ⟨rfl, rfl⟩ := h
        obtain ⟨i1, i2, i3⟩ := decs_enc hb hat h1
        obtain ⟨j1, j2, j3, _⟩ := decP_enc hb h2
        refine ⟨by omega, j2, ?_⟩
        rw [show q' - at_ = (p' - at_) + (q' - p') by omega, cutL_add, i3, show at_ + (p' - at_) = p' by omega, j3, encPs_snoc]

/-- What was written is read. -/
theorem decP_of (leaf : Bool) (A C : List Nat) (x : Pt) (hk : x.key.size < 256) (hx : if leaf then x.okL = true else x.okI = true) : decP leaf (A ++ (encPt leaf x ++ C)) A.length = some (x, A.length + (encPt leaf x).length) := by
  obtain ⟨key, len, data, page⟩ := x
  cases leaf with
  | true =>
    simp only [if_true] at hx
    obtain ⟨l0, l1, l2, l3⟩ := okL_bd hx
    simp only at l0 l1 l2 l3 hk
    obtain ⟨n, rfl⟩ := Int.eq_ofNat_of_zero_le l0
    have hn : n < 65536 := by omega
    have henc : encPt true ⟨key, n, data, page⟩ = [key.size] ++ (beL 2 n ++ (bytesOf key ++ (if n ≤ 120 then bytesOf data else beL 4 page.toNat))) := by
      unfold encPt
      have : decide ((n : Int) ≤ 120) = decide (n ≤ 120) := decide_eq_decide.2 (by omega)
      simp only [if_true, Bool.true_and, this, decide_eq_true_eq, Int.toNat_natCast, List.singleton_append]
    have c1 : cutL (A ++ (encPt true ⟨key, n, data, page⟩ ++ C)) A.length 1 = [key.size] := by
      rw [henc, List.append_assoc]; exact cutL_app A [key.size] _
    have c2 : cutL (A ++ (encPt true ⟨key, n, data, page⟩ ++ C)) (A.length + 1) 2 = beL 2 n := by
      have := cutL_app (A ++ [key.size]) (beL 2 n) ((bytesOf key ++ (if n ≤ 120 then bytesOf data else beL 4 page.toNat)) ++ C)
      rw [beL_len, List.length_append] at this
      rw [henc]
      simpa [List.append_assoc] using this
    have c3 : cutL (A ++ (encPt true ⟨key, n, data, page⟩ ++ C)) (A.length + 3) key.size = bytesOf key := by
      have := cutL_app (A ++ [key.size] ++ beL 2 n) (bytesOf key) ((if n ≤ 120 then bytesOf data else beL 4 page.toNat) ++ C)
      rw [bytesOf_len, List.length_append, List.length_append, beL_len] at this
      rw [henc]
      simpa [List.append_assoc] using this
    have hv1 : valL [key.size] = key.size := by simp [valL]
    have hv2 : valL (beL 2 n) = n := by rw [valL_beL]; omega
    have hlen : (encPt true ⟨key, n, data, page⟩).length = 3 + key.size + (if n ≤ 120 then data.size else 4) := by
      rw [henc]; simp only [List.length_append, beL_len, bytesOf_len, List.length_singleton]; split <;> simp [bytesOf_len, beL_len] <;> omega
    unfold decP
    simp only [if_true, Bool.true_and, c1, c2, hv1, hv2]
    rw [c3]
    have htot : (A ++ (encPt true ⟨key, n, data, page⟩ ++ C)).length = A.length + (3 + key.size + (if n ≤ 120 then data.size else 4)) + C.length := by
      rw [List.length_append, List.length_append, hlen]; omega
    by_cases h120 : n ≤ 120
    · obtain ⟨d1, d2⟩ := l2 (by omega)
      have d1' : data.size = n := by omega
      subst d2
      have c4 : cutL (A ++ (encPt true ⟨key, n, data, 0⟩ ++ C)) (A.length + 3 + key.size) n = bytesOf data := by
        have := cutL_app (A ++ [key.size] ++ beL 2 n ++ bytesOf key) (bytesOf data) C
        rw [bytesOf_len, List.length_append, List.length_append, List.length_append, beL_len, bytesOf_len, d1'] at this
        rw [henc, if_pos h120]
        simpa [List.append_assoc] using this
      rw [if_pos h120] at htot hlen
      simp only [h120, decide_true, if_true]
      rw [if_neg (by omega), if_neg (by omega), c4, hlen, strN_bytesOf, strN_bytesOf]
      simp; omega
    · obtain ⟨d1, d2, d3⟩ := l3 (by omega)
      have d0 : data = ⟨#[]⟩ := ByteArray.ext (Array.size_eq_zero_iff.1 d1)
      have c4 : cutL (A ++ (encPt true ⟨key, n, data, page⟩ ++ C)) (A.length + 3 + key.size) 4 = beL 4 page.toNat := by
        have := cutL_app (A ++ [key.size] ++ beL 2 n ++ bytesOf key) (beL 4 page.toNat) C
        rw [beL_len, List.length_append, List.length_append, List.length_append, beL_len, bytesOf_len] at this
        rw [henc, if_neg h120]
        simpa [List.append_assoc] using this
      have hv4 : valL (beL 4 page.toNat) = page.toNat := by rw [valL_beL]; omega
      rw [if_neg h120] at htot hlen
      simp only [h120, decide_false, Bool.false_eq_true, if_false]
      rw [if_neg (by omega), if_neg (by omega), c4, hlen, strN_bytesOf, hv4, d0]
      simp; omega
  | false =>
    simp only [Bool.false_eq_true, if_false] at hx
    obtain ⟨l0, l1, l2, l3⟩ := okI_bd hx
    simp only at l0 l1 l2 l3 hk
    have d0 : data = ⟨#[]⟩ := ByteArray.ext (Array.size_eq_zero_iff.1 l1)
    subst l0 d0
    have henc : encPt false ⟨key, 0, ⟨#[]⟩, page⟩ = [key.size] ++ (bytesOf key ++ beL 4 page.toNat) := by
      unfold encPt; simp
    have c1 : cutL (A ++ (encPt false ⟨key, 0, ⟨#[]⟩, page⟩ ++ C)) A.length 1 = [key.size] := by
      rw [henc, List.append_assoc]; exact cutL_app A [key.size] _
    have c3 : cutL (A ++ (encPt false ⟨key, 0, ⟨#[]⟩, page⟩ ++ C)) (A.length + 1) key.size = bytesOf key := by
      have := cutL_app (A ++ [key.size]) (bytesOf key) (beL 4 page.toNat ++ C)
      rw [bytesOf_len, List.length_append] at this
      rw [henc]
      simpa [List.append_assoc] using this
    have c4 : cutL (A ++ (encPt false ⟨key, 0, ⟨#[]⟩, page⟩ ++ C)) (A.length + 1 + key.size) 4 = beL 4 page.toNat := by
      have := cutL_app (A ++ [key.size] ++ bytesOf key) (beL 4 page.toNat) C
      rw [beL_len, List.length_append, List.length_append, bytesOf_len] at this
      rw [henc]
      simpa [List.append_assoc] using this
    have hv1 : valL [key.size] = key.size := by simp [valL]
    have hv4 : valL (beL 4 page.toNat) = page.toNat := by rw [valL_beL]; omega
    have hlen : (encPt false ⟨key, 0, ⟨#[]⟩, page⟩).length = 1 + key.size + 4 := by
      rw [henc]; simp only [List.length_append, beL_len, bytesOf_len, List.length_singleton]; omega
    have htot : (A ++ (encPt false ⟨key, 0, ⟨#[]⟩, page⟩ ++ C)).length = A.length + (1 + key.size + 4) + C.length := by
      rw [List.length_append, List.length_append, hlen]; omega
    unfold decP
    simp only [Bool.false_eq_true, if_false, Bool.false_and, c1, hv1]
    rw [c3, c4, hv4, if_neg (by omega), if_neg (by omega), hlen, strN_bytesOf]
    simp; omega

theorem decs_of (leaf : Bool) (A C : List Nat) (l : List Pt) (hk : ∀ x ∈ l, x.key.size < 256 ∧ (if leaf then x.okL = true else x.okI = true)) : ∀ i, i ≤ l.length → decs leaf (A ++ (encPs leaf l ++ C)) A.length i = some (l.take i, A.length + (encPs leaf (l.take i)).length)
  | 0, _ => by simp [decs, encPs]
  | i + 1, h => by
    have ih := decs_of leaf A C l hk i (by omega)
    have hi := List.getElem?_eq_getElem (show i < l.length by omega)
    have hm := hk l[i] (List.getElem_mem (by omega))
    have e : A ++ (encPs leaf l ++ C) = (A ++ encPs leaf (l.take i)) ++ (encPt leaf l[i] ++ (encPs leaf (l.drop (i + 1)) ++ C)) := by
      have e1 : encPs leaf l = encPs leaf (l.take i) ++ (encPt leaf l[i] ++ encPs leaf (l.drop (i + 1))) := by
        conv => lhs; rw [← List.take_append_drop i l, List.drop_eq_getElem_cons (show i < l.length by omega)]
        simp only [encPs, List.flatMap_append, List.flatMap_cons]
      rw [e1]
      simp only [List.append_assoc]
    have h2 := decP_of leaf (A ++ encPs leaf (l.take i)) (encPs leaf (l.drop (i + 1)) ++ C) l[i] hm.1 hm.2
    rw [← e, List.length_append] at h2
    unfold decs
    rw [ih]
    simp only [h2]
    rw [List.take_add_one, hi, Option.toList_some, encPs_snoc, List.length_append]
    simp; omega
end Go.Proofs.Ytfldjmjnjeemeaa
