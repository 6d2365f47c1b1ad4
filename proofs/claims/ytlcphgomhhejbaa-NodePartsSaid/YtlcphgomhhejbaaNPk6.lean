/- Several texts of one proof, one behind the other. -/
import Derived.Test.YtlcphgomhhejbaaNPk5
import Derived.Sort.Walk0

/- The walks of cell.Bool, Not, decide, And, Or. -/
namespace Go.Proofs.Ytlcphgomhhejbaa
open Go.RowKit

/-- What Not answers. -/
def notV (x : Vl) : Vl × Int :=
  if (truthT x).2.2 ≠ 0 then (nullV, (truthT x).2.2) else if (truthT x).2.1 = false then (nullV, 0) else (boolV (!(truthT x).1), 0)

/-- What decide answers. -/
def decideV (win : Bool) (a b : Vl) : Vl × Int :=
  if a.right = false ∨ b.right = false then (nullV, 3)
  else if 1 < a.k ∨ 1 < b.k then (nullV, 20)
  else if (truthT a).2.1 = true ∧ (truthT a).1 = win ∨ (truthT b).2.1 = true ∧ (truthT b).1 = win then (boolV win, 0)
  else if (truthT a).2.1 = false ∨ (truthT b).2.1 = false then (nullV, 0)
  else (boolV (!win), 0)

/-- Two truths and the winner decide. -/
def decideB (win y1 kn1 y2 kn2 : Bool) : Vl × Int :=
  if kn1 = true ∧ y1 = win ∨ kn2 = true ∧ y2 = win then (boolV win, 0) else if kn1 = false ∨ kn2 = false then (nullV, 0) else (boolV (!win), 0)

theorem truth_num (x : Vl) (h : x.right = true) (hk : x.k ≤ 1) : (truthT x).2.2 = 0 := by
  unfold truthT
  rw [if_neg (by simp [h]), if_neg (by omega)]
  split <;> rfl

theorem truth_type (x : Vl) (h : x.right = true) (hk : ¬ x.k ≤ 1) : truthT x = (false, false, 20) := by
  unfold truthT
  rw [if_neg (by simp [h]), if_pos (by omega)]

end Go.Proofs.Ytlcphgomhhejbaa

/- The walks of cmp.Compare, cell.Order and cell.Compare. -/
namespace Go.Proofs.Ytlcphgomhhejbaa
open Go.RowKit

def cmpI (x y : Int) : Int := if x < y then -1 else if y < x then 1 else 0
def cmpS (s t : ByteArray) : Int := if Op.bytesLess s.toList t.toList then -1 else if s.toList == t.toList then 0 else 1

/-- The order of two values. -/
def orderV (a b : Vl) : Int :=
  if a = b ∨ a.right = false ∨ b.right = false then 0 else if a.k ≠ b.k then cmpI a.k b.k else if a.n ≠ b.n then cmpI a.n b.n else cmpS a.s b.s

theorem toList_inj {s t : ByteArray} (h : s.toList = t.toList) : s = t := by
  rw [ByteArray.toList_eq, ByteArray.toList_eq] at h
  exact ByteArray.ext (Array.toList_inj.1 h)

theorem ne_bool (k1 k2 : Nat) (n1 n2 : Int) (s1 s2 : ByteArray) (h : (⟨k1, n1, s1⟩ : Vl) ≠ ⟨k2, n2, s2⟩) : ((k1 : Int) == (k2 : Int) && (n1 == n2 && s1.toList == s2.toList)) = false := by
  rw [Bool.eq_false_iff]
  intro hh
  simp only [Bool.and_eq_true, beq_iff_eq] at hh
  obtain ⟨e1, e2, e3⟩ := hh
  apply h
  rw [show k1 = k2 by omega, e2, toList_inj e3]

def RetI (w : World) (n : Int) (e : Ending) (w' : World) : Prop := e = .returned (.int .i64 n) ∧ Below w.heap.size w w'

end Go.Proofs.Ytlcphgomhhejbaa

/- The walk of cell.Compare. -/
namespace Go.Proofs.Ytlcphgomhhejbaa
open Go.RowKit

/-- What Compare answers. -/
def compareV (a b : Vl) : Int × Bool × Int :=
  if a.right = false ∨ b.right = false then (0, false, 3) else if a.k = 0 ∨ b.k = 0 then (0, false, 0) else if a.k ≠ b.k then (0, false, 20) else (orderV a b, true, 0)

def RetC (w : World) (r : Int × Bool × Int) (e : Ending) (w' : World) : Prop := e = .returned (.tuple #[.int .i64 r.1, .bool r.2.1, .int .i64 r.2.2]) ∧ Below w.heap.size w w'

theorem right_null0 (x : Vl) (h : x.right = true) (hk : x.k = 0) : x = ⟨0, 0, ⟨#[]⟩⟩ := by
  obtain ⟨k, n, s⟩ := x
  simp only at hk
  subst hk
  obtain ⟨rfl, rfl⟩ := right_null h
  rfl

end Go.Proofs.Ytlcphgomhhejbaa

/- Plain mathematics of the order of values: it is total. -/
namespace Go.Proofs.Ytlcphgomhhejbaa
open Go.RowKit

def ltV (a b : Vl) : Prop := a.k < b.k ∨ (a.k = b.k ∧ (a.n < b.n ∨ (a.n = b.n ∧ a.s.toList < b.s.toList)))

theorem less_lt (s t : List UInt8) : Op.bytesLess s t = decide (s < t) := bytesLess_eq s t

theorem ltV_irrefl (a : Vl) : ¬ ltV a a := by
  rintro (h | ⟨_, h | ⟨_, h⟩⟩)
  · omega
  · omega
  · exact List.lt_irrefl _ h

theorem ltV_trans {a b c : Vl} (h : ltV a b) (k : ltV b c) : ltV a c := by
  rcases h with h | ⟨h1, h | ⟨h2, h⟩⟩ <;> rcases k with k | ⟨k1, k | ⟨k2, k⟩⟩
  · exact .inl (by omega)
  · exact .inl (by omega)
  · exact .inl (by omega)
  · exact .inl (by omega)
  · exact .inr ⟨by omega, .inl (by omega)⟩
  · exact .inr ⟨by omega, .inl (by omega)⟩
  · exact .inl (by omega)
  · exact .inr ⟨by omega, .inl (by omega)⟩
  · exact .inr ⟨by omega, .inr ⟨by omega, List.lt_trans h k⟩⟩

theorem list_tri (s t : List UInt8) (h : s ≠ t) : s < t ∨ t < s := by
  by_cases h1 : s < t
  · exact .inl h1
  · by_cases h2 : t < s
    · exact .inr h2
    · exact absurd (List.le_antisymm (List.not_lt.1 h2) (List.not_lt.1 h1)) h

theorem ltV_total (a b : Vl) (h : a ≠ b) : ltV a b ∨ ltV b a := by
  by_cases h1 : a.k = b.k
  · by_cases h2 : a.n = b.n
    · have hs : a.s.toList ≠ b.s.toList := by
        intro hs
        apply h
        obtain ⟨k, n, s⟩ := a
        obtain ⟨k', n', s'⟩ := b
        simp only at h1 h2 hs
        rw [h1, h2, toList_inj hs]
      rcases list_tri _ _ hs with h3 | h3
      · exact .inl (.inr ⟨h1, .inr ⟨h2, h3⟩⟩)
      · exact .inr (.inr ⟨h1.symm, .inr ⟨h2.symm, h3⟩⟩)
    · rcases Int.lt_or_gt_of_ne h2 with h3 | h3
      · exact .inl (.inr ⟨h1, .inl h3⟩)
      · exact .inr (.inr ⟨h1.symm, .inl h3⟩)
  · rcases Nat.lt_or_gt_of_ne h1 with h3 | h3
    · exact .inl (.inl h3)
    · exact .inr (.inl h3)

open Classical in
theorem orderV_lt (a b : Vl) (ha : a.right = true) (hb : b.right = true) : orderV a b = if a = b then 0 else if ltV a b then -1 else 1 := by
  unfold orderV
  by_cases hab : a = b
  · rw [if_pos (.inl hab), if_pos hab]
  · rw [if_neg (by simp [hab, ha, hb]), if_neg hab]
    by_cases h1 : a.k = b.k
    · rw [if_neg (by simp [h1])]
      by_cases h2 : a.n = b.n
      · rw [if_neg (by simp [h2])]
        have hs : a.s.toList ≠ b.s.toList := by
          intro hs
          apply hab
          obtain ⟨k, n, s⟩ := a
          obtain ⟨k', n', s'⟩ := b
          simp only at h1 h2 hs
          rw [h1, h2, toList_inj hs]
        unfold cmpS
        rw [less_lt]
        by_cases h3 : a.s.toList < b.s.toList
        · rw [if_pos (by simpa using h3), if_pos (.inr ⟨h1, .inr ⟨h2, h3⟩⟩)]
        · rw [if_neg (by simpa using h3), if_neg (by simpa using hs), if_neg]
          rintro (h | ⟨_, h | ⟨_, h⟩⟩)
          · omega
          · omega
          · exact h3 h
      · rw [if_pos (by simpa using h2)]
        unfold cmpI
        by_cases h3 : a.n < b.n
        · rw [if_pos h3, if_pos (.inr ⟨h1, .inl h3⟩)]
        · rw [if_neg h3, if_pos (by omega), if_neg]
          rintro (h | ⟨_, h | ⟨h, _⟩⟩) <;> omega
    · rw [if_pos (by simpa using h1)]
      unfold cmpI
      by_cases h3 : a.k < b.k
      · rw [if_pos (by omega), if_pos (.inl h3)]
      · rw [if_neg (by omega), if_pos (by omega), if_neg]
        rintro (h | ⟨h, _⟩) <;> omega

/-- What the law asks of the order. -/
theorem order_total (a b c : Vl) (ha : a.right = true) (hb : b.right = true) (hc : c.right = true) :
    orderV a b = -orderV b a ∧ (orderV a b = 0 ↔ a = b) ∧ ¬ (orderV a b < 0 ∧ orderV b c < 0 ∧ 0 ≤ orderV a c) ∧ ¬ (orderV a b ≤ 0 ∧ orderV b c ≤ 0 ∧ 0 < orderV a c) ∧ -1 ≤ orderV a b ∧ orderV a b ≤ 1 := by
  rw [orderV_lt a b ha hb, orderV_lt b a hb ha, orderV_lt b c hb hc, orderV_lt a c ha hc]
  by_cases hab : a = b
  · subst hab
    rw [if_pos rfl]
    refine ⟨by simp, by simp, by omega, ?_, by omega, by omega⟩
    intro h; omega
  · have hba : ¬ b = a := fun h => hab h.symm
    rw [if_neg hab, if_neg hba]
    rcases ltV_total a b hab with h1 | h1
    · have h1' : ¬ ltV b a := fun h => ltV_irrefl a (ltV_trans h1 h)
      rw [if_pos h1, if_neg h1']
      refine ⟨by omega, by simp [hab], ?_, ?_, by omega, by omega⟩
      · rintro ⟨_, h2, h3⟩
        by_cases hbc : b = c
        · rw [if_pos hbc] at h2; omega
        · rw [if_neg hbc] at h2
          by_cases hl : ltV b c
          · have hac := ltV_trans h1 hl
            have hne : a ≠ c := fun h => ltV_irrefl a (by rw [h] at hac ⊢; exact hac)
            rw [if_neg hne, if_pos hac] at h3; omega
          · rw [if_neg hl] at h2; omega
      · rintro ⟨_, h2, h3⟩
        by_cases hbc : b = c
        · subst hbc
          rw [if_neg hab, if_pos h1] at h3; omega
        · rw [if_neg hbc] at h2
          by_cases hl : ltV b c
          · have hac := ltV_trans h1 hl
            have hne : a ≠ c := fun h => ltV_irrefl a (by rw [h] at hac ⊢; exact hac)
            rw [if_neg hne, if_pos hac] at h3; omega
          · rw [if_neg hl] at h2; omega
    · have h1' : ¬ ltV a b := fun h => ltV_irrefl a (ltV_trans h h1)
      rw [if_neg h1', if_pos h1]
      refine ⟨by omega, by simp [hab], by omega, by omega, by omega, by omega⟩

end Go.Proofs.Ytlcphgomhhejbaa

/- The walks of slices.IndexFunc and slices.ContainsFunc over cells and over pages. -/
namespace Go.Proofs.Ytlcphgomhhejbaa
open Go.RowKit

/-- Where the first wrong one is: -1 if there is none. -/
def RetFi (w : World) (all : Bool) (e : Ending) (w' : World) : Prop := ∃ r : Int, e = .returned (.int .i64 r) ∧ (decide (0 ≤ r) = !all) ∧ -1 ≤ r ∧ Below w.heap.size w w'

theorem all_takeG {α : Type} (p : α → Bool) (l : List α) (k : Nat) (h : k < l.length) : (l.take (k + 1)).all p = ((l.take k).all p && p l[k]) := by
  rw [List.take_succ_eq_append_getElem h, List.all_append]; simp only [List.all_cons, List.all_nil, Bool.and_true]

theorem all_falseG {α : Type} (p : α → Bool) (l : List α) (k : Nat) (h : k < l.length) (hk : p l[k] = false) : l.all p = false := by
  rw [List.all_eq_false]
  exact ⟨l[k], List.getElem_mem h, by simp [hk]⟩

set_option maxHeartbeats 1000000 in
theorem indexC_any (l : List Cl) (a : Option Addr) (len cap : Nat) (w : World) (hV : Arr w.heap.size w a (cellsC l)) (hlen : len = l.length) (hmax : len ≤ 140737488355328) (hd : ∀ c ∈ l, c.data.size ≤ 140737488355328) :
    Calls Try.prog 57 #[.slice a len cap, .func (.func 35) #[] #[]] w (RetFi w (l.all Cl.ok)) := by
  have HV := Lib.hid hV
  have HL := Lib.hid hlen
  have HD := Lib.hid hd
  clear hV hlen hd
  go_enter Try.func57, Try.ntmps57
  go_wp2
  go_loopw [8] (fun i wr => ∃ k : Nat, k ≤ len ∧ i = .int .i64 k ∧ Hid ((l.take k).all Cl.ok = true) ∧ Below w.heap.size w wr) (fun i _ => len - (intOf i).toNat)
  case atStart => exact ⟨0, by omega, rfl, by simp [Hid], Below.refl _ _⟩
  case round =>
    obtain ⟨k, hk, rfl, HI, hb⟩ := hrel
    have hsz := hb.size
    by_cases hlt : k < len
    · have hkl : k < l.length := by have := HL.out; omega
      obtain ⟨b, o, rfl, hbN, hc⟩ := cellAt (HV.out.below hb) hkl
      obtain ⟨c0, c1, c2⟩ := hc
      obtain ⟨y, hy⟩ : ∃ y, y = l[k] := ⟨_, rfl⟩
      have HA := Lib.hid (all_takeG Cl.ok l k hkl)
      have HF := Lib.hid (all_falseG Cl.ok l k hkl)
      have hyd := HD.out _ (List.getElem_mem hkl)
      rw [← hy] at c0 c1 c2 HA HF hyd
      clear hy
      have HN := Lib.hid (fun W => isWrong_any y W hyd)
      obtain ⟨r, hr⟩ : ∃ r, y.ok = r := ⟨_, rfl⟩
      rw [hr] at HN HA HF
      clear hr
      go_wp2_with fail
      refine (HN.out _).mono ?_
      rintro e w1 ⟨rfl, hb1⟩
      clear HN
      cases r with
      | true =>
        go_wp2
        go_roundw
        case rel => exact ⟨k + 1, by omega, by go_num, by rw [HA.out, HI.out]; rfl, hb.trans (Below.mono hb1 hsz)⟩
        case measure => simp [intOf]; omega
      | false =>
        go_wp2
        go_ret
        exact ⟨k, rfl, by rw [HF.out (by trivial)]; simp, by omega, hb.trans (Below.mono hb1 hsz)⟩
    · go_wp2
      go_ret
      have hk2 : l.take k = l := List.take_of_length_le (by have := HL.out; omega)
      have := HI.out
      rw [hk2] at this
      exact ⟨-1, rfl, by rw [this]; rfl, by omega, hb⟩

set_option maxHeartbeats 1000000 in
theorem indexI_any (l : List Int) (a : Option Addr) (len cap : Nat) (w : World) (hV : Arr w.heap.size w a (cellsI l)) (hlen : len = l.length) (hmax : len ≤ 140737488355328) :
    Calls Try.prog 58 #[.slice a len cap, .func (.func 37) #[] #[]] w (RetFi w (l.all okPage)) := by
  have HV := Lib.hid hV
  have HL := Lib.hid hlen
  clear hV hlen
  go_enter Try.func58, Try.ntmps58
  go_wp2
  go_loopw [8] (fun i wr => ∃ k : Nat, k ≤ len ∧ i = .int .i64 k ∧ Hid ((l.take k).all okPage = true) ∧ Below w.heap.size w wr) (fun i _ => len - (intOf i).toNat)
  case atStart => exact ⟨0, by omega, rfl, by simp [Hid], Below.refl _ _⟩
  case round =>
    obtain ⟨k, hk, rfl, HI, hb⟩ := hrel
    have hsz := hb.size
    by_cases hlt : k < len
    · have hkl : k < l.length := by have := HL.out; omega
      obtain ⟨b, o, rfl, hbN, c0⟩ := intAt (HV.out.below hb) hkl
      obtain ⟨y, hy⟩ : ∃ y, y = l[k] := ⟨_, rfl⟩
      have HA := Lib.hid (all_takeG okPage l k hkl)
      have HF := Lib.hid (all_falseG okPage l k hkl)
      rw [← hy] at c0 HA HF
      clear hy
      have HN := Lib.hid (fun W => noPage_any y W)
      obtain ⟨r, hr⟩ : ∃ r, okPage y = r := ⟨_, rfl⟩
      rw [hr] at HN HA HF
      clear hr
      go_wp2_with fail
      refine (HN.out _).mono ?_
      rintro e w1 ⟨rfl, rfl⟩
      clear HN
      cases r with
      | true =>
        go_wp2
        go_roundw
        case rel => exact ⟨k + 1, by omega, by go_num, by rw [HA.out, HI.out]; rfl, hb⟩
        case measure => simp [intOf]; omega
      | false =>
        go_wp2
        go_ret
        exact ⟨k, rfl, by rw [HF.out (by trivial)]; simp, by omega, hb⟩
    · go_wp2
      go_ret
      have hk2 : l.take k = l := List.take_of_length_le (by have := HL.out; omega)
      have := HI.out
      rw [hk2] at this
      exact ⟨-1, rfl, by rw [this]; rfl, by omega, hb⟩

theorem containsC_any (l : List Cl) (a : Option Addr) (len cap : Nat) (w : World) (hV : Arr w.heap.size w a (cellsC l)) (hlen : len = l.length) (hmax : len ≤ 140737488355328) (hd : ∀ c ∈ l, c.data.size ≤ 140737488355328) :
    Calls Try.prog 34 #[.slice a len cap, .func (.func 35) #[] #[]] w fun e w' => e = .returned (.bool (!(l.all Cl.ok))) ∧ Below w.heap.size w w' := by
  have HC := Lib.hid (indexC_any l a len cap w hV hlen hmax hd)
  clear hV hlen hd
  go_enter Try.func34, Try.ntmps34
  go_wp2_with fail
  refine HC.out.mono ?_
  rintro e w1 ⟨r, rfl, hr, hr1, hb⟩
  clear HC
  have HR := Lib.hid hr
  clear hr
  go_wp2
  go_ret
  refine ⟨?_, hb⟩
  rw [← HR.out]
  try rfl
  try simp

theorem containsI_any (l : List Int) (a : Option Addr) (len cap : Nat) (w : World) (hV : Arr w.heap.size w a (cellsI l)) (hlen : len = l.length) (hmax : len ≤ 140737488355328) :
    Calls Try.prog 36 #[.slice a len cap, .func (.func 37) #[] #[]] w fun e w' => e = .returned (.bool (!(l.all okPage))) ∧ Below w.heap.size w w' := by
  have HC := Lib.hid (indexI_any l a len cap w hV hlen hmax)
  clear hV hlen
  go_enter Try.func36, Try.ntmps36
  go_wp2_with fail
  refine HC.out.mono ?_
  rintro e w1 ⟨r, rfl, hr, hr1, hb⟩
  clear HC
  have HR := Lib.hid hr
  clear hr
  go_wp2
  go_ret
  refine ⟨?_, hb⟩
  rw [← HR.out]
  try rfl
  try simp

open Classical in
theorem keysOk_yes {l : List ByteArray} (h : KeysOk l) : keysOk l = true := decide_eq_true h
open Classical in
theorem keysOk_no {l : List ByteArray} (h : ¬ KeysOk l) : keysOk l = false := decide_eq_false h

theorem less_yes {p y : ByteArray} (h : lessK p y = true) : Op.bytesLess y.toList p.toList = false ∧ (y.toList == p.toList) = false := by
  unfold lessK at h
  rw [less_lt] at h ⊢
  have h1 : p.toList < y.toList := of_decide_eq_true h
  refine ⟨decide_eq_false (List.lt_asymm h1), ?_⟩
  rw [beq_eq_false_iff_ne]
  intro h2
  rw [h2] at h1
  exact List.lt_irrefl _ h1
theorem less_no {p y : ByteArray} (h : lessK p y = false) : Op.bytesLess y.toList p.toList = true ∨ (Op.bytesLess y.toList p.toList = false ∧ (y.toList == p.toList) = true) := by
  unfold lessK at h
  rw [less_lt] at h ⊢
  have h1 : ¬ p.toList < y.toList := of_decide_eq_false h
  by_cases h2 : y.toList = p.toList
  · exact .inr ⟨decide_eq_false (by rw [h2]; exact List.lt_irrefl _), by simpa using h2⟩
  · exact .inl (decide_eq_true ((list_tri _ _ h2).resolve_right h1))

set_option maxHeartbeats 2000000 in
theorem areKeys_any (l : List ByteArray) (a : Option Addr) (len cap : Nat) (w : World) (hV : Arr w.heap.size w a (cellsS l)) (hlen : len = l.length) (hmax : len ≤ 140737488355328) (hs : ∀ k ∈ l, k.size ≤ 140737488355328) :
    Calls Try.prog 33 #[.slice a len cap] w fun e w' => e = .returned (.bool (keysOk l)) ∧ w = w' := by
  have HV := Lib.hid hV
  have HL := Lib.hid hlen
  have HS := Lib.hid hs
  clear hV hlen hs
  go_enter Try.func33, Try.ntmps33
  go_wp2
  go_loop [7] (fun i => ∃ k : Nat, k ≤ len ∧ i = .int .i64 k ∧ Hid (KeysOk (l.take k))) (fun i => len - (intOf i).toNat)
  case atStart => exact ⟨0, by omega, rfl, by intro i k h; simp at h⟩
  case round =>
    obtain ⟨k, hk, rfl, HI⟩ := hrel
    by_cases hlt : k < len
    · have hkl : k < l.length := by have := HL.out; omega
      obtain ⟨b, o, rfl, hbN, c0⟩ := strAt HV.out hkl
      have hys := HS.out _ (List.getElem_mem hkl)
      have HN1 := Lib.hid (fun h => keysOk_no (KeysOk.len_no hkl h))
      have HN2 := Lib.hid (fun p (hp : l[k - 1]? = some p) h0 h => keysOk_no (KeysOk.less_no hkl hp h0 h))
      have HY := Lib.hid (KeysOk.succ HI.out hkl)
      have HP : Hid (0 < k → ∃ p, l[k - 1]? = some p ∧ w.cell? ⟨b, o + (k - 1), none⟩ = some (.string p)) := by
        intro h0
        obtain ⟨b', o', h, _, c1⟩ := strAt HV.out (show k - 1 < l.length by omega)
        simp only [Option.some.injEq, Addr.mk.injEq] at h
        obtain ⟨rfl, rfl, _⟩ := h
        exact ⟨_, List.getElem?_eq_getElem _, c1⟩
      obtain ⟨y, hy⟩ : ∃ y, y = l[k] := ⟨_, rfl⟩
      rw [← hy] at c0 hys HN1 HN2 HY
      clear hy
      by_cases h100 : y.size ≤ 100
      · have q1 : decide ((100 : Int) < (y.size : Int)) = false := by simp; omega
        by_cases h0 : k = 0
        · subst h0
          have HY2 := HY.out h100 (fun h => absurd h (by omega))
          clear HY HN1 HN2 HP
          rw [Nat.add_zero] at c0
          go_wp2
          go_round
          case rel => exact ⟨1, by omega, by go_num, HY2⟩
          case measure => simp [intOf]; omega
        · obtain ⟨p, hp, c1⟩ := HP.out (by omega)
          have q2 : decide ((0 : Int) < (k : Int)) = true := by simp; omega
          have q3 : 0 < k := by omega
          have hk1 : ((k : Int) - 1) = ((k - 1 : Nat) : Int) := by omega
          cases hl : lessK p y with
          | true =>
            have HY2 := HY.out h100 (fun _ p' hp' => by rw [hp] at hp'; simp at hp'; subst hp'; exact hl)
            have HL2 := Lib.hid hl
            clear HY HN1 HN2 HP hl hp
            obtain ⟨r1, r2⟩ := less_yes HL2.out
            go_wp2
            go_round
            case rel => exact ⟨k + 1, by omega, by go_num, HY2⟩
            case measure => simp [intOf]; omega
          | false =>
            have HN := Lib.hid (HN2.out p hp (by omega) hl)
            have hc := less_no hl
            clear HY HN1 HN2 HP hl hp
            rcases hc with r1 | ⟨r1, r2⟩
            all_goals
              go_wp2
              go_ret
              exact ⟨ret_b HN.out.symm, rfl⟩
      · have q1 : decide ((100 : Int) < (y.size : Int)) = true := by simp; omega
        have HN := Lib.hid (HN1.out h100)
        clear HY HN1 HN2 HP
        go_wp2
        go_ret
        exact ⟨ret_b HN.out.symm, rfl⟩
    · have hk2 : l.take k = l := List.take_of_length_le (by have := HL.out; omega)
      have HR : Hid (keysOk l = true) := keysOk_yes (by have := HI.out; rw [hk2] at this; exact this)
      go_wp2
      go_ret
      exact ⟨ret_b HR.out.symm, rfl⟩
end Go.Proofs.Ytlcphgomhhejbaa
