/- Several texts of one proof, one behind the other. -/
import Derived.Test.YtlcphgomhhejbaaNPk24
import Derived.OpenShut
import Derived.Lib.SmallJoins
set_option linter.unusedSimpArgs false
set_option linter.unusedVariables false

/- The mathematics of finding in sorted keys. -/
namespace Go.Proofs.Ytlcphgomhhejbaa
open Go.RowKit

theorem lessK_iff (a b : ByteArray) : lessK a b = true ↔ a.toList < b.toList := by
  unfold lessK; rw [less_lt]; simp
theorem lessK_trans {a b c : ByteArray} (h : lessK a b = true) (k : lessK b c = true) : lessK a c = true :=
  (lessK_iff a c).2 (List.lt_trans ((lessK_iff a b).1 h) ((lessK_iff b c).1 k))
theorem lessK_irrefl (a : ByteArray) : lessK a a = false := by
  cases h : lessK a a with
  | false => rfl
  | true => exact absurd ((lessK_iff a a).1 h) (List.lt_irrefl _)
theorem leqK_iff (a b : ByteArray) : leqK a b = true ↔ lessK a b = true ∨ a = b := by
  unfold leqK lessK
  rw [Bool.or_eq_true, beq_iff_eq]
  exact ⟨fun h => h.imp id toList_inj, fun h => h.imp id (fun h => by rw [h])⟩
theorem leqK_trans_less {a b c : ByteArray} (h : lessK a b = true) (k : leqK b c = true) : leqK a c = true := by
  rw [leqK_iff] at *
  rcases k with k | rfl
  · exact .inl (lessK_trans h k)
  · exact .inl h

/-- Keys in order: an earlier one is less. -/
theorem KeysOk.lt {l : List ByteArray} (h : KeysOk l) : ∀ (d i : Nat) (x y : ByteArray), l[i]? = some x → l[i + d + 1]? = some y → lessK x y = true
  | 0, i, x, y, hx, hy => (h (i + 0 + 1) y hy).2 (by omega) x (by rw [show i + 0 + 1 - 1 = i by omega]; exact hx)
  | d + 1, i, x, y, hx, hy => by
    have hlt := (List.getElem?_eq_some_iff.1 hy).1
    have hz := List.getElem?_eq_getElem (show i + d + 1 < l.length by omega)
    exact lessK_trans (KeysOk.lt h d i x _ hx hz) ((h (i + (d + 1) + 1) y hy).2 (by omega) _ (by rw [show i + (d + 1) + 1 - 1 = i + d + 1 by omega]; exact hz))
theorem KeysOk.lt' {l : List ByteArray} (h : KeysOk l) {i j : Nat} {x y : ByteArray} (hij : i < j) (hx : l[i]? = some x) (hy : l[j]? = some y) : lessK x y = true :=
  h.lt (j - i - 1) i x y hx (by rw [show i + (j - i - 1) + 1 = j by omega]; exact hy)

/-- Those before hold, those from there on don't: so many hold. -/
theorem cntL_past {p : ByteArray → Bool} {l : List ByteArray} {k : Nat} (hk : k ≤ l.length) (h : Past p l k) (hn : ∀ j y, k ≤ j → l[j]? = some y → p y = false) : cntL p l = k := by
  unfold cntL
  conv => lhs; rw [← List.take_append_drop k l]
  rw [List.filter_append, List.filter_eq_self.2 h, List.filter_eq_nil_iff.2, List.append_nil, List.length_take]
  · omega
  · intro y hy
    obtain ⟨i, hi⟩ := List.getElem?_of_mem hy
    rw [List.getElem?_drop] at hi
    simp [hn (k + i) y (by omega) hi]

theorem way_eq {l : List ByteArray} {key : ByteArray} {k : Nat} (hok : KeysOk l) (h : Past (leqK · key) l k) (he : k = l.length ∨ ∃ y, l[k]? = some y ∧ leqK y key = false) : cntL (leqK · key) l = k := by
  rcases he with rfl | ⟨y, hy, hn⟩
  · exact cntL_past (Nat.le_refl _) h (fun j y hj hy => by have := (List.getElem?_eq_some_iff.1 hy).1; omega)
  · refine cntL_past (by have := (List.getElem?_eq_some_iff.1 hy).1; omega) h (fun j z hj hz => ?_)
    by_cases hjk : j = k
    · subst hjk; rw [hy] at hz; rw [← Option.some.inj hz]; exact hn
    · cases hq : leqK z key with
      | false => rfl
      | true =>
        have := leqK_trans_less (hok.lt' (show k < j by omega) hy hz) hq
        rw [hn] at this; cases this

theorem find_eq {l : List ByteArray} {key : ByteArray} {r r' : Nat × Bool} (hok : KeysOk l) (h : FindIs l key r) (h' : IsRF l key r') : r = r' := by
  obtain ⟨a, b⟩ := r
  obtain ⟨c, d⟩ := r'
  unfold FindIs at h
  unfold IsRF at h'
  simp only at h h'
  obtain ⟨hp, he⟩ := h'
  have hge : ∀ i, l[i]? = some key → c ≤ i := by
    intro i hi
    rcases Nat.lt_or_ge i c with hlt | hge
    · have := hp key (List.mem_of_getElem? (i := i) (by rw [List.getElem?_take, if_pos hlt]; exact hi))
      simp only [lessK_irrefl] at this; cases this
    · exact hge
  rcases h with ⟨rfl, hi⟩ | ⟨rfl, hno, rfl⟩
  · have hca := hge a hi
    rcases he with ⟨rfl, rfl⟩ | ⟨y, hy, hn, rfl⟩
    · have := (List.getElem?_eq_some_iff.1 hi).1; omega
    · by_cases hac : a = c
      · subst hac
        rw [hi] at hy
        obtain rfl := Option.some.inj hy
        simp
      · have := hok.lt' (show c < a by omega) hy hi
        rw [hn] at this; cases this
  · rcases he with ⟨rfl, rfl⟩ | ⟨y, hy, hn, rfl⟩
    · rw [cntL_past (Nat.le_refl _) hp (fun j y hj hy => by have := (List.getElem?_eq_some_iff.1 hy).1; omega)]
    · have hne : y ≠ key := by rintro rfl; exact hno (List.mem_of_getElem? hy)
      rw [decide_eq_false hne]
      congr 1
      refine cntL_past (by have := (List.getElem?_eq_some_iff.1 hy).1; omega) hp (fun j z hj hz => ?_)
      by_cases hjk : j = c
      · subst hjk; rw [hy] at hz; rw [← Option.some.inj hz]; exact hn
      · cases hq : lessK z key with
        | false => rfl
        | true =>
          have := lessK_trans (hok.lt' (show c < j by omega) hy hz) hq
          rw [hn] at this; cases this
end Go.Proofs.Ytlcphgomhhejbaa

/- The mathematics of NodeParts: both halves hold what the node held, and are small where one key less would have been. -/
namespace Go.Proofs.Ytlcphgomhhejbaa
open Go.RowKit

theorem KeysOk.drop {l : List ByteArray} (h : KeysOk l) (n : Nat) : KeysOk (l.drop n) := by
  intro i k hi
  rw [List.getElem?_drop] at hi
  obtain ⟨h1, h2⟩ := h _ _ hi
  refine ⟨h1, fun h0 p hp => h2 (by omega) p ?_⟩
  rw [List.getElem?_drop] at hp
  rw [show n + i - 1 = n + (i - 1) by omega]; exact hp
/-- Keys in order, one of them left out. -/
theorem KeysOk.erase {l : List ByteArray} (h : KeysOk l) (n : Nat) : KeysOk (l.take n ++ l.drop (n + 1)) := by
  intro i k hi
  have key : ∀ (j : Nat) (y : ByteArray), (l.take n ++ l.drop (n + 1))[j]? = some y → l[if j < n then j else j + 1]? = some y := by
    intro j y hj
    by_cases hjn : j < n
    · rw [if_pos hjn]
      by_cases hjl : j < l.length
      · rw [List.getElem?_append_left (by rw [List.length_take]; omega), List.getElem?_take, if_pos hjn] at hj
        exact hj
      · rw [List.getElem?_append_right (by rw [List.length_take]; omega), List.getElem?_drop, List.length_take, List.getElem?_eq_none (by omega)] at hj
        cases hj
    · rw [if_neg hjn]
      by_cases hnl : n ≤ l.length
      · rw [List.getElem?_append_right (by rw [List.length_take]; omega), List.length_take, Nat.min_eq_left hnl, List.getElem?_drop] at hj
        rw [show j + 1 = n + 1 + (j - n) by omega]; exact hj
      · rw [List.getElem?_append_right (by rw [List.length_take]; omega), List.getElem?_drop, List.getElem?_eq_none (by omega)] at hj
        cases hj
  have hk := key i k hi
  refine ⟨(h _ _ hk).1, fun h0 p hp => ?_⟩
  have hq := key (i - 1) p hp
  refine h.lt' ?_ hq hk
  split <;> split <;> omega

theorem encPs_app (leaf : Bool) (l m : List Pt) : encPs leaf (l ++ m) = encPs leaf l ++ encPs leaf m := by simp [encPs]
theorem encPs_cut (leaf : Bool) (l : List Pt) (n : Nat) (y : Pt) (hy : l[n]? = some y) : (encPs leaf l).length = (encPs leaf (l.take n)).length + lenPt leaf y + (encPs leaf (l.drop (n + 1))).length := by
  obtain ⟨h1, h2⟩ := List.getElem?_eq_some_iff.1 hy
  conv => lhs; rw [← List.take_append_drop n l, List.drop_eq_getElem_cons h1, h2]
  rw [encPs_app, List.length_append]
  have e : encPs leaf (y :: l.drop (n + 1)) = encPt leaf y ++ encPs leaf (l.drop (n + 1)) := rfl
  rw [e, List.length_append, encPt_len]
  omega
theorem encPs_split (leaf : Bool) (l : List Pt) (n : Nat) : (encPs leaf l).length = (encPs leaf (l.take n)).length + (encPs leaf (l.drop n)).length := by
  conv => lhs; rw [← List.take_append_drop n l]
  rw [encPs_app, List.length_append]

/-- A node whose size is above 512 by one key alone has halves of at most 512. -/
theorem parts_size {x : Rn} (h : x.Ok) (hl : x.leaf = true) {i at_ : Nat} (h2 : 2 ≤ x.l.length) (hs : IsShare x (x.l.length - 1) i) {y : Pt} (hy : x.l[at_]? = some y)
    (hless : 3 + (encPs true (x.l.take at_ ++ x.l.drop (at_ + 1))).length ≤ 512) : lenTo x i ≤ 512 ∧ 3 + (encPs true (x.l.drop i)).length ≤ 512 := by
  have hb := h.lenPt hy
  have hc := encPs_cut true x.l at_ y hy
  rw [encPs_app, List.length_append] at hless
  rw [hl] at hb
  have hL : (encPs true x.l).length ≤ 732 := by omega
  have hto : ∀ j, lenTo x j = 3 + (encPs true (x.l.take j)).length := by
    intro j
    unfold lenTo
    rw [hl]
    simp
  have hE : (encN x).length = 3 + (encPs true x.l).length := by
    rw [← lenTo_all, hto, List.take_length]
  have hsp := fun j => encPs_split true x.l j
  obtain ⟨k, hup, hex, rfl⟩ := hs
  have hk1 := hup.1
  have hk2 := hup.2.1
  have hstep : ∀ j, j < x.l.length → lenTo x (j + 1) ≤ lenTo x j + 223 := by
    intro j hj
    have hg := List.getElem?_eq_getElem hj
    have h3 := lenTo_succ x j _ hg
    have h4 := h.lenPt hg
    omega
  have h0 : lenTo x 0 = 3 := by rw [hto]; simp [encPs]
  have hall : lenTo x x.l.length = (encN x).length := lenTo_all x
  by_cases hc1 : 512 < lenTo x k ∧ 1 < k
  · rw [if_pos hc1]
    have h5 := hup.2.2 (k - 1) (by omega) (by omega)
    have h6 := hstep (k - 1) (by omega)
    rw [show k - 1 + 1 = k by omega] at h6
    have h7 := hsp (k - 1)
    have h8 := hto (k - 1)
    have h9 := hto k
    omega
  · rw [if_neg hc1]
    have h7 := hsp k
    have h8 := hto k
    have h10 : lenTo x k ≤ 512 := by
      by_cases hk : k = 1
      · subst hk
        have := hstep 0 (by omega)
        rw [h0] at this
        simp only [Nat.zero_add] at this
        omega
      · omega
    refine ⟨h10, ?_⟩
    rcases hex with rfl | hex
    · have h6 := hstep (x.l.length - 1) (by omega)
      rw [show x.l.length - 1 + 1 = x.l.length by omega, hall, hE] at h6
      omega
    · omega
end Go.Proofs.Ytlcphgomhhejbaa

/- NodeParts: what both halves of a node hold, how great they are. -/
namespace Go.Proofs.Ytlcphgomhhejbaa
open Go.RowKit

theorem partN_ok {n : Nd} (h : n.Ok) {i j : Nat} (hij : i < j) (hj : j ≤ n.keys.length) : (partN n i j).Ok := by
  obtain ⟨hk, hr⟩ := h
  have hkk : KeysOk ((n.keys.drop i).take (j - i)) := (hk.drop i).take (j - i)
  unfold partN
  cases hl : n.leaf with
  | true =>
    rw [hl] at hr
    simp only [if_true] at hr ⊢
    refine ⟨hkk, ?_⟩
    simp only [if_true]
    refine ⟨by rw [List.length_take, List.length_take, List.length_drop, List.length_drop, hr.1], by trivial, fun c hc => hr.2.2 c (List.mem_of_mem_drop (List.mem_of_mem_take hc))⟩
  | false =>
    rw [hl] at hr
    simp only [Bool.false_eq_true, if_false] at hr ⊢
    refine ⟨hkk, ?_⟩
    simp only [Bool.false_eq_true, if_false]
    refine ⟨?_, ?_, by trivial, fun p hp => hr.2.2.2 p (List.mem_of_mem_drop (List.mem_of_mem_take hp))⟩
    · intro h0
      have := congrArg List.length h0
      rw [List.length_take, List.length_drop, List.length_nil] at this
      omega
    · rw [List.length_take, List.length_take, List.length_drop, List.length_drop, hr.2.1]; omega
theorem partN_keys2 (n : Nd) (i j : Nat) : (partN n i j).keys = (n.keys.drop i).take (j - i) := by unfold partN; cases n.leaf <;> rfl
theorem cut_two {α : Type} (l : List α) (i : Nat) : (l.drop 0).take (i - 0) ++ (l.drop i).take (l.length - i) = l := by
  have e := List.take_of_length_le (l := l.drop i) (i := l.length - i) (by rw [List.length_drop]; exact Nat.le_refl _)
  rw [List.drop_zero, Nat.sub_zero, e, List.take_append_drop]
theorem cut_three {α : Type} (l : List α) (i : Nat) (k : α) (h : l[i]? = some k) : (l.drop 0).take (i - 0) ++ ([k] ++ (l.drop (i + 1)).take (l.length - (i + 1))) = l := by
  obtain ⟨h1, h2⟩ := List.getElem?_eq_some_iff.1 h
  have e := List.take_of_length_le (l := l.drop (i + 1)) (i := l.length - (i + 1)) (by rw [List.length_drop]; exact Nat.le_refl _)
  rw [List.drop_zero, Nat.sub_zero, e, List.singleton_append, ← h2, ← List.drop_eq_getElem_cons h1, List.take_append_drop]
theorem parts_whole {n : Nd} (h : n.Ok) {i : Nat} {k : ByteArray} (hi : i < n.keys.length) (hk : n.keys[i]? = some k) :
    (partN n 0 i).keys ++ ((if n.leaf then [] else [k]) ++ (partN n (i + movedN n) n.keys.length).keys) = n.keys ∧
    (partN n 0 i).cells ++ (partN n (i + movedN n) n.keys.length).cells = n.cells ∧ (partN n 0 i).kids ++ (partN n (i + movedN n) n.keys.length).kids = n.kids := by
  obtain ⟨_, hr⟩ := h
  rw [partN_keys2, partN_keys2]
  unfold partN movedN
  cases hl : n.leaf with
  | true =>
    rw [hl] at hr
    simp only [if_true, Nat.add_zero, List.nil_append] at hr ⊢
    refine ⟨cut_two _ _, ?_, by rw [hr.2.1]⟩
    rw [← hr.1]
    exact cut_two _ _
  | false =>
    rw [hl] at hr
    simp only [Bool.false_eq_true, if_false] at hr ⊢
    refine ⟨cut_three _ _ _ hk, by rw [hr.2.2.1]; rfl, ?_⟩
    have e1 : n.keys.length + 1 - (i + 1) = n.kids.length - (i + 1) := by rw [hr.2.1]
    have e2 : i + 1 - 0 = (i + 1) - 0 := rfl
    rw [e1, e2]
    exact cut_two n.kids (i + 1)
theorem partA_asR {n : Nd} (h : n.Ok) (i : Nat) : (partN n 0 i).asR = halfA n.asR i := by
  have hs := h.shaped
  have h1 := asN_asR hs
  have := partA_eq n.asR i
  rw [h1.1] at this
  rw [this]
  exact (asR_asN (halfA_plain h1.2 i)).1
theorem partB_asR {n : Nd} (h : n.Ok) (hl : n.leaf = true) {i : Nat} (hi : i < n.keys.length) : (partN n i n.keys.length).asR = ⟨true, 0, n.asR.l.drop i⟩ := by
  have hs := h.shaped
  have h1 := asN_asR hs
  have hlen := asR_len hs
  obtain ⟨p, hp⟩ : ∃ p, n.asR.l[i]? = some p := ⟨_, List.getElem?_eq_getElem (by omega)⟩
  have := partB_eq n.asR i p hp
  have hlf : n.asR.leaf = true := by rw [asR_leaf]; exact hl
  have hm : movedR n.asR = 0 := by unfold movedR; rw [hlf]; rfl
  rw [h1.1, hm, Nat.add_zero, hlen] at this
  rw [this, (asR_asN (halfB_plain h1.2 i _)).1]
  unfold halfB
  rw [hlf]; rfl
theorem encN_leaf (l : List Pt) : (encN ⟨true, 0, l⟩).length = 3 + (encPs true l).length := by
  rw [← lenTo_all]
  unfold lenTo
  simp
theorem encN_halfA (x : Rn) (i : Nat) (hi : i ≤ x.l.length) : (encN (halfA x i)).length = lenTo x i := by
  rw [← lenTo_all]
  unfold lenTo halfA
  simp only [List.length_take, List.take_take]
  congr 3
  rw [Nat.min_eq_left (by omega)]
  simp [Nat.min_eq_left hi]
/-- A leaf without one of its keys. -/
def lessN (n : Nd) (at_ : Nat) : Nd := ⟨true, n.keys.take at_ ++ n.keys.drop (at_ + 1), n.cells.take at_ ++ n.cells.drop (at_ + 1), []⟩
theorem lessN_ok {n : Nd} (h : n.Ok) (hl : n.leaf = true) (at_ : Nat) : (lessN n at_).Ok := by
  obtain ⟨hk, hr⟩ := h
  rw [hl] at hr
  simp only [if_true] at hr
  refine ⟨hk.erase at_, ?_⟩
  show if true = true then _ else _
  rw [if_pos rfl]
  refine ⟨by simp only [lessN, List.length_append, List.length_take, List.length_drop, hr.1], rfl, fun c hc => hr.2.2 c ?_⟩
  rcases List.mem_append.1 hc with hc | hc
  · exact List.mem_of_mem_take hc
  · exact List.mem_of_mem_drop hc
theorem lessN_asR {n : Nd} (h : n.Ok) (hl : n.leaf = true) (at_ : Nat) : (lessN n at_).asR = ⟨true, 0, n.asR.l.take at_ ++ n.asR.l.drop (at_ + 1)⟩ := by
  have hs := h.shaped
  have h1 := (asN_asR hs).1
  have hlf : n.asR.leaf = true := by rw [asR_leaf]; exact hl
  obtain ⟨x, hx⟩ : ∃ x, x = n.asR := ⟨_, rfl⟩
  rw [← hx] at h1 hlf ⊢
  have e : lessN n at_ = (⟨true, 0, x.l.take at_ ++ x.l.drop (at_ + 1)⟩ : Rn).asN := by
    rw [← h1]
    unfold lessN Rn.asN
    rw [hlf]
    simp
  rw [e]
  exact (asR_asN (x := ⟨true, 0, x.l.take at_ ++ x.l.drop (at_ + 1)⟩) (by simp [Rn.plain])).1
/-- Not both: less of one key it would fit in a page, a half does not. -/
theorem less_halves {n : Nd} (h : n.Ok) (hl : n.leaf = true) {i at_ : Nat} (h2 : 2 ≤ n.keys.length) (hs : IsShare n.asR (n.keys.length - 1) i) (hat : at_ < n.keys.length) (hless : (encN (lessN n at_).asR).length ≤ 512) :
    (encN (partN n 0 i).asR).length ≤ 512 ∧ (encN (partN n i n.keys.length).asR).length ≤ 512 := by
  have hlen := asR_len h.shaped
  have hbd := hs.bd
  rw [lessN_asR h hl, encN_leaf] at hless
  rw [partA_asR h, encN_halfA _ _ (by omega), partB_asR h hl (by omega), encN_leaf]
  rw [← hlen] at h2 hs hat
  exact parts_size h.asR (by rw [asR_leaf]; exact hl) h2 hs (List.getElem?_eq_getElem hat) hless
end Go.Proofs.Ytlcphgomhhejbaa

/- A node that comes in as an argument. -/
namespace Go.Proofs.Ytlcphgomhhejbaa
open Go.RowKit Go.ChangeShapes Go.WideShapes Go.Deep Go.Joins

theorem cellsOf_at {α : Type} (f : α → List Value) (z : Nat) (hz : 0 < z) (hf : ∀ x, (f x).length = z) : ∀ (l : List α) (i : Nat) (v : Value), (cellsOf f l)[i]? = some v → ∃ y, l[i / z]? = some y ∧ (f y)[i % z]? = some v
  | [], i, v, h => by simp [cellsOf] at h
  | x :: r, i, v, h => by
    have e : cellsOf f (x :: r) = f x ++ cellsOf f r := rfl
    rw [e] at h
    by_cases hi : i < z
    · rw [List.getElem?_append_left (by rw [hf]; exact hi)] at h
      exact ⟨x, by rw [Nat.div_eq_of_lt hi]; rfl, by rw [Nat.mod_eq_of_lt hi]; exact h⟩
    · rw [List.getElem?_append_right (by rw [hf]; omega), hf] at h
      obtain ⟨y, h1, h2⟩ := cellsOf_at f z hz hf r (i - z) v h
      have e1 : i = (i - z) + z := by omega
      refine ⟨y, ?_, ?_⟩
      · rw [e1, Nat.add_div_right _ hz]; exact h1
      · rw [e1, Nat.add_mod_right]; exact h2

/-- A row of values that came in, element by element. -/
theorem row_of {α : Type} (f : α → List Value) (z : Nat) (hz : 0 < z) (hf : ∀ x, (f x).length = z) (Q : α → Prop) (w : World) (x : Addr) (len : Nat)
    (hex : ∀ i : Fin len, ∃ y, Q y ∧ ∀ (j : Nat) (v : Value), (f y)[j]? = some v → w.cell? ((x.add (i.1 * z)).add j) = some v) :
    ∃ L : List α, L.length = len ∧ Arr w.heap.size w (some x) (cellsOf f L) ∧ ∀ y ∈ L, Q y := by
  obtain ⟨g, hg⟩ := Classical.axiomOfChoice hex
  refine ⟨List.ofFn g, by simp, ?_, ?_⟩
  · by_cases h0 : len = 0
    · left; subst h0; simp [cellsOf]
    · right
      obtain ⟨b, o, spot⟩ := x
      have hlen0 : 0 < (f (g ⟨0, by omega⟩)).length := by rw [hf]; exact hz
      have hc0 := (hg ⟨0, by omega⟩).2 0 _ (List.getElem?_eq_getElem hlen0)
      have hspot : spot = none := by
        have := World.cell?_spot hc0
        simpa [Addr.add] using this
      subst hspot
      have hblk := World.block_lt_of_cell? _ _ hc0
      refine ⟨b, o, rfl, by simpa [Addr.add] using hblk, fun i v hv => ?_⟩
      obtain ⟨y, h1, h2⟩ := cellsOf_at f z hz hf _ i v hv
      rw [List.getElem?_ofFn] at h1
      split at h1
      · rename_i hlt
        simp only [Option.some.injEq] at h1
        subst h1
        have hh := (hg ⟨i / z, hlt⟩).2 _ v h2
        have e1 : ((⟨b, o, none⟩ : Addr).add (i / z * z)).add (i % z) = ⟨b, o + i, none⟩ := by
          have : i / z * z + i % z = i := Nat.div_add_mod' i z
          simp only [Addr.add]
          split <;> split <;> simp_all <;> omega
        rw [e1] at hh
        exact hh
      · cases h1
  · intro y hy
    rw [List.mem_ofFn] at hy
    obtain ⟨i, rfl⟩ := hy
    exact (hg i).1

/-- What the walk is told of a node that came in. -/
structure NIn (w : World) (n : Nd) (m : NB) : Prop where
  hk : m.kl = n.keys.length
  hc : m.cl = n.cells.length
  hd : m.dl = n.kids.length
  kcap : m.kl ≤ m.kc
  ccap : m.cl ≤ m.cc
  dcap : m.dl ≤ m.dc
  kmax : m.kl ≤ 9223372036854775807
  cmax : m.cl ≤ 9223372036854775807
  dmax : m.dl ≤ 9223372036854775807
  karr : Arr w.heap.size w m.ka (cellsS n.keys)
  carr : Arr w.heap.size w m.ca (cellsC n.cells)
  darr : Arr w.heap.size w m.da (cellsI n.kids)
  kfair : ∀ k ∈ n.keys, k.size ≤ 9223372036854775807
  cfair : ∀ c ∈ n.cells, c.data.size ≤ 9223372036854775807 ∧ (-9223372036854775808 ≤ c.len ∧ c.len ≤ 9223372036854775807) ∧ (-9223372036854775808 ≤ c.page ∧ c.page ≤ 9223372036854775807)
  dfair : ∀ p ∈ n.kids, -9223372036854775808 ≤ p ∧ p ≤ 9223372036854775807
theorem NIn.later {w w' : World} {n : Nd} {m : NB} (h : NIn w n m) (hb : Below w.heap.size w w') : NIn w' n m :=
  ⟨h.hk, h.hc, h.hd, h.kcap, h.ccap, h.dcap, h.kmax, h.cmax, h.dmax, h.karr.later (N := 0) hb, h.carr.later (N := 0) hb, h.darr.later (N := 0) hb, h.kfair, h.cfair, h.dfair⟩

set_option maxRecDepth 100000 in
theorem trod_strs {H : Type} {enc : TypeId × Value → H} {w : World} {fuel : Nat} {cs : List Value} {x : DataW H × List MemPlace}
    (h : DataW.trod enc Try.prog w 0 (fun _ => true) true fuel 22 cs = some x) :
    ∃ (a : Option Addr) (len cap : Nat) (L : List ByteArray), cs = [.slice a len cap] ∧ L.length = len ∧ len ≤ cap ∧ cap ≤ 9223372036854775807 ∧ Arr w.heap.size w a (cellsS L) ∧ ∀ s ∈ L, s.size ≤ 9223372036854775807 := by
  rcases open_slice Try.underlying22 h with ⟨hcs, _⟩ | ⟨x, l, c, m, n, D, Pl, hcs, _, hl, hm, hmm, _, hi⟩
  · exact ⟨none, 0, 0, [], hcs, rfl, by omega, by omega, .inl rfl, by simp⟩
  · have hmc : m = c := by simpa using hmm
    have hC : Try.prog.cellsOf 9 = 1 := by kernel_rfl
    unfold maxLen at hm
    obtain ⟨L, h1, h2, h3⟩ := row_of (fun s : ByteArray => [Value.string s]) 1 (by omega) (fun _ => rfl) (fun s => s.size ≤ 9223372036854775807) w x l (fun i => by
      obtain ⟨cs', hc', ht'⟩ := hi i.1 (by have := i.2; omega)
      rw [hC] at hc'
      obtain ⟨_, hlen, hat⟩ := World.cells?_some hc'
      obtain ⟨s, e0, -, w0⟩ := DataW.trod_string Try.underlying9 ht'
      unfold maxLen at w0
      subst e0
      exact ⟨s, w0, fun j v hj => by rw [hat j (by have := (List.getElem?_eq_some_iff.1 hj).1; simpa using this)]; exact hj⟩)
    exact ⟨some x, l, c, L, hcs, h1, hl, by omega, h2, h3⟩

set_option maxRecDepth 100000 in
theorem trod_cells {H : Type} {enc : TypeId × Value → H} {w : World} {fuel : Nat} {cs : List Value} {x : DataW H × List MemPlace}
    (h : DataW.trod enc Try.prog w 0 (fun _ => true) true fuel 23 cs = some x) :
    ∃ (a : Option Addr) (len cap : Nat) (L : List Cl), cs = [.slice a len cap] ∧ L.length = len ∧ len ≤ cap ∧ cap ≤ 9223372036854775807 ∧ Arr w.heap.size w a (cellsC L) ∧
      ∀ c ∈ L, c.data.size ≤ 9223372036854775807 ∧ (-9223372036854775808 ≤ c.len ∧ c.len ≤ 9223372036854775807) ∧ (-9223372036854775808 ≤ c.page ∧ c.page ≤ 9223372036854775807) := by
  rcases open_slice Try.underlying23 h with ⟨hcs, _⟩ | ⟨x, l, c, m, n, D, Pl, hcs, _, hl, hm, hmm, _, hi⟩
  · exact ⟨none, 0, 0, [], hcs, rfl, by omega, by omega, .inl rfl, by simp⟩
  · have hmc : m = c := by simpa using hmm
    have hC : Try.prog.cellsOf 63 = 3 := by kernel_rfl
    unfold maxLen at hm
    obtain ⟨L, h1, h2, h3⟩ := row_of (fun c : Cl => [Value.int .i64 c.len, .string c.data, .int .i64 c.page]) 3 (by omega) (fun _ => rfl) (fun c => c.data.size ≤ 9223372036854775807 ∧ (-9223372036854775808 ≤ c.len ∧ c.len ≤ 9223372036854775807) ∧ (-9223372036854775808 ≤ c.page ∧ c.page ≤ 9223372036854775807)) w x l (fun i => by
      obtain ⟨cs', hc', ht'⟩ := hi i.1 (by have := i.2; omega)
      rw [hC] at hc'
      obtain ⟨_, hlen, hat⟩ := World.cells?_some hc'
      obtain ⟨y0, y1, y2, n', _, _, h0, h1, h2⟩ := trod_struct3 Try.underlying63 ht'
      match cs', hlen with
      | [v0, v1, v2], _ =>
        have g0 : DataW.trod enc Try.prog w 0 (fun _ => true) true n' 3 [v0] = some y0 := h0
        have g1 : DataW.trod enc Try.prog w 0 (fun _ => true) true n' 9 [v1] = some y1 := h1
        have g2 : DataW.trod enc Try.prog w 0 (fun _ => true) true n' 3 [v2] = some y2 := h2
        obtain ⟨z, e0, -, w0⟩ := DataW.trod_int Try.underlying3 g0
        obtain ⟨s, e1, -, w1⟩ := DataW.trod_string Try.underlying9 g1
        obtain ⟨p, e2, -, w2⟩ := DataW.trod_int Try.underlying3 g2
        simp only [List.cons.injEq, and_true] at e0 e1 e2
        subst e0 e1 e2
        unfold maxLen at w1
        exact ⟨⟨z, s, p⟩, ⟨w1, bd_i64 w0, bd_i64 w2⟩, fun j v hj => by rw [hat j (by have := (List.getElem?_eq_some_iff.1 hj).1; simpa using this)]; exact hj⟩)
    exact ⟨some x, l, c, L, hcs, h1, hl, by omega, h2, h3⟩

set_option maxRecDepth 100000 in
theorem trod_nums {H : Type} {enc : TypeId × Value → H} {w : World} {fuel : Nat} {cs : List Value} {x : DataW H × List MemPlace}
    (h : DataW.trod enc Try.prog w 0 (fun _ => true) true fuel 24 cs = some x) :
    ∃ (a : Option Addr) (len cap : Nat) (L : List Int), cs = [.slice a len cap] ∧ L.length = len ∧ len ≤ cap ∧ cap ≤ 9223372036854775807 ∧ Arr w.heap.size w a (cellsI L) ∧ ∀ p ∈ L, -9223372036854775808 ≤ p ∧ p ≤ 9223372036854775807 := by
  rcases open_slice Try.underlying24 h with ⟨hcs, _⟩ | ⟨x, l, c, m, n, D, Pl, hcs, _, hl, hm, hmm, _, hi⟩
  · exact ⟨none, 0, 0, [], hcs, rfl, by omega, by omega, .inl rfl, by simp⟩
  · have hmc : m = c := by simpa using hmm
    have hC : Try.prog.cellsOf 3 = 1 := by kernel_rfl
    unfold maxLen at hm
    obtain ⟨L, h1, h2, h3⟩ := row_of (fun n : Int => [Value.int .i64 n]) 1 (by omega) (fun _ => rfl) (fun p => -9223372036854775808 ≤ p ∧ p ≤ 9223372036854775807) w x l (fun i => by
      obtain ⟨cs', hc', ht'⟩ := hi i.1 (by have := i.2; omega)
      rw [hC] at hc'
      obtain ⟨_, hlen, hat⟩ := World.cells?_some hc'
      obtain ⟨s, e0, -, w0⟩ := DataW.trod_int Try.underlying3 ht'
      subst e0
      exact ⟨s, bd_i64 w0, fun j v hj => by rw [hat j (by have := (List.getElem?_eq_some_iff.1 hj).1; simpa using this)]; exact hj⟩)
    exact ⟨some x, l, c, L, hcs, h1, hl, by omega, h2, h3⟩

set_option maxRecDepth 100000 in
theorem open_node {H : Type} {enc : TypeId × Value → H} {w : World} {r : Reach} {b0 : Nat} {v : Value} {d : DataW H} {p : List MemPlace} (hv : Value.okWide Try.prog w r b0 26 v) (h : DataW.Trod enc Try.prog w 0 (fun _ => true) true 26 v d p) :
    ∃ (n : Nd) (m : NB), v = m.v n.leaf ∧ NIn w n m := by
  obtain ⟨cs, rfl, _⟩ := okWide_struct Try.underlying26 hv
  obtain ⟨fuel, hf⟩ := h
  have hf2 : DataW.trod enc Try.prog w 0 (fun _ => true) true fuel 26 cs.toList = some (d, p) := hf
  obtain ⟨xs, n, _, hx, hl, hlen, hfin⟩ := DataW.trod_struct Try.underlying26 hf2
  have hC : Try.prog.cellsOf 26 = 4 := by kernel_rfl
  rw [hC] at hl
  obtain ⟨cl, hcl⟩ : ∃ cl, cs.toList = cl := ⟨_, rfl⟩
  have hcs : cs = cl.toArray := by rw [← hcl]
  rw [hcl] at hl hfin
  subst hcs
  match cl, hl with
  | [v0, v1, v2, v3], _ =>
    match xs, hlen with
    | [y0, y1, y2, y3], _ =>
      have g0 : DataW.trod enc Try.prog w 0 (fun _ => true) true n 4 [v0] = some y0 := hfin 0 _ rfl
      have g1 : DataW.trod enc Try.prog w 0 (fun _ => true) true n 22 [v1] = some y1 := hfin 1 _ rfl
      have g2 : DataW.trod enc Try.prog w 0 (fun _ => true) true n 23 [v2] = some y2 := hfin 2 _ rfl
      have g3 : DataW.trod enc Try.prog w 0 (fun _ => true) true n 24 [v3] = some y3 := hfin 3 _ rfl
      obtain ⟨bl, e0, -⟩ := DataW.trod_bool Try.underlying4 g0
      obtain ⟨ka, kl, kc, ks, e1, k1, k2, k3, k4, k5⟩ := trod_strs g1
      obtain ⟨ca, cl, cc, cs, e2, c1, c2, c3, c4, c5⟩ := trod_cells g2
      obtain ⟨da, dl, dc, ps, e3, d1, d2, d3, d4, d5⟩ := trod_nums g3
      simp only [List.cons.injEq, and_true] at e0 e1 e2 e3
      subst e0 e1 e2 e3
      exact ⟨⟨bl, ks, cs, ps⟩, ⟨ka, kl, kc, ca, cl, cc, da, dl, dc⟩, rfl, ⟨k1.symm, c1.symm, d1.symm, k2, c2, d2, by simp only; omega, by simp only; omega, by simp only; omega, k4, c4, d4, k5, c5, d5⟩⟩
end Go.Proofs.Ytlcphgomhhejbaa
