/- The bytes of nodes. -/
import Derived.Test.YtfldjmjnjeemeaaNMath
namespace Go.Proofs.Ytfldjmjnjeemeaa
open Go.RowKit

/-- n in s bytes, the highest first. -/
def beL : Nat → Nat → List Nat
  | 0, _ => []
  | s + 1, n => beL s (n / 256) ++ [n % 256]
/-- The number that bytes make. -/
def valL (l : List Nat) : Nat := l.foldl (fun v c => 256 * v + c) 0

theorem beL_len : ∀ s n, (beL s n).length = s
  | 0, _ => rfl
  | s + 1, n => by simp [beL, beL_len s]
theorem beL_lt : ∀ s n, ∀ c ∈ beL s n, c < 256
  | 0, _, c, h => by simp [beL] at h
  | s + 1, n, c, h => by
    simp [beL] at h
    rcases h with h | h
    · exact beL_lt s _ c h
    · omega
theorem beL_cons : ∀ s n, beL (s + 1) n = (n / 256 ^ s % 256) :: beL s n
  | 0, n => by simp [beL]
  | s + 1, n => by
    rw [beL, beL_cons s (n / 256), beL, List.cons_append, Nat.div_div_eq_div_mul, Nat.pow_succ, Nat.mul_comm 256]
theorem valL_snoc (l : List Nat) (c : Nat) : valL (l ++ [c]) = 256 * valL l + c := by simp [valL]
theorem valL_beL : ∀ s n, valL (beL s n) = n % 256 ^ s
  | 0, n => by simp [beL, valL]; omega
  | s + 1, n => by
    rw [beL, valL_snoc, valL_beL s, Nat.pow_succ, Nat.mul_comm (256 ^ s) 256, Nat.mod_mul]
    omega
theorem rev_ind {P : List Nat → Prop} (h0 : P []) (h1 : ∀ l c, P l → P (l ++ [c])) (l : List Nat) : P l := by
  have : ∀ r : List Nat, P r.reverse := by
    intro r
    induction r with
    | nil => exact h0
    | cons c r ih => rw [List.reverse_cons]; exact h1 _ _ ih
  have h := this l.reverse
  rwa [List.reverse_reverse] at h
theorem beL_valL (l : List Nat) : (∀ c ∈ l, c < 256) → beL l.length (valL l) = l := by
  refine rev_ind (P := fun l => (∀ c ∈ l, c < 256) → beL l.length (valL l) = l) (fun _ => rfl) (fun l c ih h => ?_) l
  have hc := h c (by simp)
  have := ih (fun d hd => h d (by simp [hd]))
  rw [List.length_append, valL_snoc]
  show beL (l.length + 1) _ = _
  rw [beL, show (256 * valL l + c) / 256 = valL l by omega, show (256 * valL l + c) % 256 = c by omega, this]
theorem valL_lt (l : List Nat) : (∀ c ∈ l, c < 256) → valL l < 256 ^ l.length := by
  refine rev_ind (P := fun l => (∀ c ∈ l, c < 256) → valL l < 256 ^ l.length) (fun _ => by simp [valL]) (fun l c ih h => ?_) l
  have hc := h c (by simp)
  have := ih (fun d hd => h d (by simp [hd]))
  rw [List.length_append, valL_snoc]
  show _ < 256 ^ (l.length + 1)
  rw [Nat.pow_succ]; omega

/-- A part's bytes. -/
def encPt (leaf : Bool) (x : Pt) : List Nat :=
  x.key.size :: ((if leaf then beL 2 x.len.toNat else []) ++ (bytesOf x.key ++ (if leaf && decide (x.len ≤ 120) then bytesOf x.data else beL 4 x.page.toNat)))
def headN (n : Rn) : List Nat := (if n.leaf then 1 else 2) :: (beL 2 n.l.length ++ (if n.leaf then [] else beL 4 n.kid.toNat))
def encPs (leaf : Bool) (l : List Pt) : List Nat := l.flatMap (encPt leaf)
/-- A node's bytes. -/
def encN (n : Rn) : List Nat := headN n ++ encPs n.leaf n.l
/-- .. and its page. -/
def pageN (n : Rn) : List Nat := encN n ++ List.replicate (512 - (encN n).length) 0

theorem encPs_snoc (leaf : Bool) (l : List Pt) (x : Pt) : encPs leaf (l ++ [x]) = encPs leaf l ++ encPt leaf x := by simp [encPs]
theorem encPs_take (leaf : Bool) (l : List Pt) (i : Nat) (x : Pt) (h : l[i]? = some x) : encPs leaf (l.take (i + 1)) = encPs leaf (l.take i) ++ encPt leaf x := by
  rw [List.take_add_one, h]; simp [encPs]

/-- The length of a part's bytes. -/
def lenPt (leaf : Bool) (x : Pt) : Nat := 1 + x.key.size + (if leaf then 2 + (if x.len ≤ 120 then x.data.size else 4) else 4)
theorem encPt_len (leaf : Bool) (x : Pt) : (encPt leaf x).length = lenPt leaf x := by
  unfold encPt lenPt
  cases leaf with
  | true =>
    by_cases h : x.len ≤ 120 <;> simp [h, beL_len, bytesOf_len] <;> omega
  | false => simp [beL_len, bytesOf_len]; omega
theorem encPt_pos (leaf : Bool) (x : Pt) : 0 < (encPt leaf x).length := by simp [encPt]
theorem headN_len (n : Rn) : (headN n).length = if n.leaf then 3 else 7 := by
  unfold headN
  cases n.leaf <;> simp [beL_len]

/-- The node's bytes up to some part. -/
theorem encN_len_take (n : Rn) (i : Nat) (x : Pt) (h : n.l[i]? = some x) : (encPs n.leaf (n.l.take (i + 1))).length = (encPs n.leaf (n.l.take i)).length + lenPt n.leaf x := by
  rw [encPs_take _ _ _ _ h, List.length_append, encPt_len]
theorem encPs_le (leaf : Bool) (l : List Pt) (i : Nat) : (encPs leaf (l.take i)).length ≤ (encPs leaf l).length := by
  conv => rhs; rw [← List.take_append_drop i l]
  unfold encPs
  rw [List.flatMap_append, List.length_append]; omega

/-- What is known of a node's parts and what the program has of them. -/
theorem part_leaf {n : Nd} (h : n.shaped = true) (hl : n.leaf = true) : n.asR.leaf = true ∧ n.asR.l.length = n.keys.length ∧ ∀ (i : Nat) x, n.asR.l[i]? = some x → n.keys[i]? = some x.key ∧ n.cells[i]? = some ⟨x.len, x.data, x.page⟩ := by
  have h1 := (asN_asR h).1
  obtain ⟨leaf, ks, cs, ps⟩ := n
  simp only at hl; subst hl
  have hz := zipL_key ks cs (by simp only [Nd.shaped, if_true, decide_eq_true_eq] at h; exact h.1)
  simp only [Nd.asR, if_true]
  refine ⟨trivial, by conv => rhs; rw [← hz.1, List.length_map], fun i x hx => ⟨?_, ?_⟩⟩
  · conv => lhs; rw [← hz.1, List.getElem?_map, hx]
    rfl
  · conv => lhs; rw [← hz.2, List.getElem?_map, hx]
    rfl
theorem part_inner {n : Nd} (h : n.shaped = true) (hl : n.leaf = false) : n.asR.leaf = false ∧ n.asR.l.length = n.keys.length ∧ n.kids[0]? = some n.asR.kid ∧ ∀ (i : Nat) x, n.asR.l[i]? = some x → n.keys[i]? = some x.key ∧ n.kids[i + 1]? = some x.page ∧ x.len = 0 ∧ x.data = ⟨#[]⟩ := by
  obtain ⟨leaf, ks, cs, ps⟩ := n
  simp only at hl; subst hl
  simp only [Nd.shaped, Bool.false_eq_true, if_false, decide_eq_true_eq] at h
  match ps, h with
  | p :: ps, h =>
    have hz := zipI_key ks ps (by simpa using h.1)
    simp only [Nd.asR, Bool.false_eq_true, if_false, List.headD_cons, List.tail_cons]
    refine ⟨trivial, by conv => rhs; rw [← hz.1, List.length_map], by simp, fun i x hx => ⟨?_, ?_, zipI_plain ks ps x (List.mem_of_getElem? hx)⟩⟩
    · conv => lhs; rw [← hz.1, List.getElem?_map, hx]
      rfl
    · rw [List.getElem?_cons_succ]
      conv => lhs; rw [← hz.2, List.getElem?_map, hx]
      rfl

/-- What may be: its bounds. -/
theorem okL_bd {x : Pt} (h : x.okL = true) : 0 ≤ x.len ∧ x.len ≤ 8192 ∧ (x.len ≤ 120 → (x.data.size : Int) = x.len ∧ x.page = 0) ∧ (¬ x.len ≤ 120 → x.data.size = 0 ∧ 1 ≤ x.page ∧ x.page ≤ 4095) := of_decide_eq_true h
theorem okI_bd {x : Pt} (h : x.okI = true) : x.len = 0 ∧ x.data.size = 0 ∧ 1 ≤ x.page ∧ x.page ≤ 4095 := of_decide_eq_true h
theorem Rn.Ok.key {n : Rn} (h : n.Ok) {i : Nat} {x : Pt} (hx : n.l[i]? = some x) : x.key.size ≤ 100 :=
  (h.1 i x.key (by rw [List.getElem?_map, hx]; rfl)).1
theorem Rn.Ok.okL {n : Rn} (h : n.Ok) (hl : n.leaf = true) {x : Pt} (hx : x ∈ n.l) : x.okL = true := by
  have := h.2; rw [hl] at this; exact this.2 x hx
theorem Rn.Ok.okI {n : Rn} (h : n.Ok) (hl : n.leaf = false) {x : Pt} (hx : x ∈ n.l) : x.okI = true := by
  have := h.2; rw [hl] at this; exact this.2.2 x hx
theorem Rn.Ok.lenPt {n : Rn} (h : n.Ok) {i : Nat} {x : Pt} (hx : n.l[i]? = some x) : lenPt n.leaf x ≤ 223 := by
  have hk := h.key hx
  unfold Go.Proofs.Ytfldjmjnjeemeaa.lenPt
  cases hl : n.leaf with
  | true =>
    have := okL_bd (h.okL hl (List.mem_of_getElem? hx))
    by_cases h1 : x.len ≤ 120
    · have := (this.2.2.1 h1).1
      simp [h1]; omega
    · simp [h1]; omega
  | false => simp; omega
theorem Rn.Ok.plain {n : Rn} (h : n.Ok) : n.plain := by
  unfold Rn.plain
  have h2 := h.2
  cases hl : n.leaf with
  | true => rw [hl] at h2; exact h2.1
  | false =>
    rw [hl] at h2
    intro p hp
    have := okI_bd (h2.2.2 p hp)
    exact ⟨this.1, ByteArray.ext (Array.size_eq_zero_iff.1 this.2.1)⟩
end Go.Proofs.Ytfldjmjnjeemeaa
