/- Several texts of one proof, one behind the other. -/
import Derived.Test.YtlcphgomhhejbaaNPk7
import Derived.Sort.Walk0
set_option linter.unusedSimpArgs false
set_option linter.unusedVariables false

/- Plain mathematics of the order of values: it is total. -/
namespace Go.Proofs.Ytlcphgomhhejbaa
open Go.RowKit

def ltV (a b : Vl) : Prop := a.k < b.k ∨ (a.k = b.k ∧ (a.n < b.n ∨ (a.n = b.n ∧ a.s.toList < b.s.toList)))

theorem less_lt (s t : List UInt8) : Op.bytesLess s t = decide (s < t) := bytesLess_eq s t

theorem ltV_irrefl (a : Vl) : ¬ ltV a a := by
  rintro (h | ⟨_, h | ⟨_, h⟩⟩)
  · omega
  · omega
  · exact List.lt_irrefl _ h

theorem ltV_trans {a b c : Vl} (h : ltV a b) (k : ltV b c) : ltV a c := by
  rcases h with h | ⟨h1, h | ⟨h2, h⟩⟩ <;> rcases k with k | ⟨k1, k | ⟨k2, k⟩⟩
  · exact .inl (by omega)
  · exact .inl (by omega)
  · exact .inl (by omega)
  · exact .inl (by omega)
  · exact .inr ⟨by omega, .inl (by omega)⟩
  · exact .inr ⟨by omega, .inl (by omega)⟩
  · exact .inl (by omega)
  · exact .inr ⟨by omega, .inl (by omega)⟩
  · exact .inr ⟨by omega, .inr ⟨by omega, List.lt_trans h k⟩⟩

theorem list_tri (s t : List UInt8) (h : s ≠ t) : s < t ∨ t < s := by
  by_cases h1 : s < t
  · exact .inl h1
  · by_cases h2 : t < s
    · exact .inr h2
    · exact absurd (List.le_antisymm (List.not_lt.1 h2) (List.not_lt.1 h1)) h

theorem ltV_total (a b : Vl) (h : a ≠ b) : ltV a b ∨ ltV b a := by
  by_cases h1 : a.k = b.k
  · by_cases h2 : a.n = b.n
    · have hs : a.s.toList ≠ b.s.toList := by
        intro hs
        apply h
        obtain ⟨k, n, s⟩ := a
        obtain ⟨k', n', s'⟩ := b
        simp only at h1 h2 hs
        rw [h1, h2, toList_inj hs]
      rcases list_tri _ _ hs with h3 | h3
      · exact .inl (.inr ⟨h1, .inr ⟨h2, h3⟩⟩)
      · exact .inr (.inr ⟨h1.symm, .inr ⟨h2.symm, h3⟩⟩)
    · rcases Int.lt_or_gt_of_ne h2 with h3 | h3
      · exact .inl (.inr ⟨h1, .inl h3⟩)
      · exact .inr (.inr ⟨h1.symm, .inl h3⟩)
  · rcases Nat.lt_or_gt_of_ne h1 with h3 | h3
    · exact .inl (.inl h3)
    · exact .inr (.inl h3)

open Classical in
theorem orderV_lt (a b : Vl) (ha : a.right = true) (hb : b.right = true) : orderV a b = if a = b then 0 else if ltV a b then -1 else 1 := by
  unfold orderV
  by_cases hab : a = b
  · rw [if_pos (.inl hab), if_pos hab]
  · rw [if_neg (by simp [hab, ha, hb]), if_neg hab]
    by_cases h1 : a.k = b.k
    · rw [if_neg (by simp [h1])]
      by_cases h2 : a.n = b.n
      · rw [if_neg (by simp [h2])]
        have hs : a.s.toList ≠ b.s.toList := by
          intro hs
          apply hab
          obtain ⟨k, n, s⟩ := a
          obtain ⟨k', n', s'⟩ := b
          simp only at h1 h2 hs
          rw [h1, h2, toList_inj hs]
        unfold cmpS
        rw [less_lt]
        by_cases h3 : a.s.toList < b.s.toList
        · rw [if_pos (by simpa using h3), if_pos (.inr ⟨h1, .inr ⟨h2, h3⟩⟩)]
        · rw [if_neg (by simpa using h3), if_neg (by simpa using hs), if_neg]
          rintro (h | ⟨_, h | ⟨_, h⟩⟩)
          · omega
          · omega
          · exact h3 h
      · rw [if_pos (by simpa using h2)]
        unfold cmpI
        by_cases h3 : a.n < b.n
        · rw [if_pos h3, if_pos (.inr ⟨h1, .inl h3⟩)]
        · rw [if_neg h3, if_pos (by omega), if_neg]
          rintro (h | ⟨_, h | ⟨h, _⟩⟩) <;> omega
    · rw [if_pos (by simpa using h1)]
      unfold cmpI
      by_cases h3 : a.k < b.k
      · rw [if_pos (by omega), if_pos (.inl h3)]
      · rw [if_neg (by omega), if_pos (by omega), if_neg]
        rintro (h | ⟨h, _⟩) <;> omega

/-- What the law asks of the order. -/
theorem order_total (a b c : Vl) (ha : a.right = true) (hb : b.right = true) (hc : c.right = true) :
    orderV a b = -orderV b a ∧ (orderV a b = 0 ↔ a = b) ∧ ¬ (orderV a b < 0 ∧ orderV b c < 0 ∧ 0 ≤ orderV a c) ∧ ¬ (orderV a b ≤ 0 ∧ orderV b c ≤ 0 ∧ 0 < orderV a c) ∧ -1 ≤ orderV a b ∧ orderV a b ≤ 1 := by
  rw [orderV_lt a b ha hb, orderV_lt b a hb ha, orderV_lt b c hb hc, orderV_lt a c ha hc]
  by_cases hab : a = b
  · subst hab
    rw [if_pos rfl]
    refine ⟨by simp, by simp, by omega, ?_, by omega, by omega⟩
    intro h; omega
  · have hba : ¬ b = a := fun h => hab h.symm
    rw [if_neg hab, if_neg hba]
    rcases ltV_total a b hab with h1 | h1
    · have h1' : ¬ ltV b a := fun h => ltV_irrefl a (ltV_trans h1 h)
      rw [if_pos h1, if_neg h1']
      refine ⟨by omega, by simp [hab], ?_, ?_, by omega, by omega⟩
      · rintro ⟨_, h2, h3⟩
        by_cases hbc : b = c
        · rw [if_pos hbc] at h2; omega
        · rw [if_neg hbc] at h2
          by_cases hl : ltV b c
          · have hac := ltV_trans h1 hl
            have hne : a ≠ c := fun h => ltV_irrefl a (by rw [h] at hac ⊢; exact hac)
            rw [if_neg hne, if_pos hac] at h3; omega
          · rw [if_neg hl] at h2; omega
      · rintro ⟨_, h2, h3⟩
        by_cases hbc : b = c
        · subst hbc
          rw [if_neg hab, if_pos h1] at h3; omega
        · rw [if_neg hbc] at h2
          by_cases hl : ltV b c
          · have hac := ltV_trans h1 hl
            have hne : a ≠ c := fun h => ltV_irrefl a (by rw [h] at hac ⊢; exact hac)
            rw [if_neg hne, if_pos hac] at h3; omega
          · rw [if_neg hl] at h2; omega
    · have h1' : ¬ ltV a b := fun h => ltV_irrefl a (ltV_trans h h1)
      rw [if_neg h1', if_pos h1]
      refine ⟨by omega, by simp [hab], by omega, by omega, by omega, by omega⟩

end Go.Proofs.Ytlcphgomhhejbaa

/- The walks of slices.IndexFunc and slices.ContainsFunc over cells and over pages. -/
namespace Go.Proofs.Ytlcphgomhhejbaa
open Go.RowKit

/-- Where the first wrong one is: -1 if there is none. -/
def RetFi (w : World) (all : Bool) (e : Ending) (w' : World) : Prop := ∃ r : Int, e = .returned (.int .i64 r) ∧ (decide (0 ≤ r) = !all) ∧ -1 ≤ r ∧ Below w.heap.size w w'

theorem all_takeG {α : Type} (p : α → Bool) (l : List α) (k : Nat) (h : k < l.length) : (l.take (k + 1)).all p = ((l.take k).all p && p l[k]) := by
  rw [List.take_succ_eq_append_getElem h, List.all_append]; simp only [List.all_cons, List.all_nil, Bool.and_true]

theorem all_falseG {α : Type} (p : α → Bool) (l : List α) (k : Nat) (h : k < l.length) (hk : p l[k] = false) : l.all p = false := by
  rw [List.all_eq_false]
  exact ⟨l[k], List.getElem_mem h, by simp [hk]⟩

set_option maxHeartbeats 1000000 in
theorem indexC_any (l : List Cl) (a : Option Addr) (len cap : Nat) (w : World) (hV : Arr w.heap.size w a (cellsC l)) (hlen : len = l.length) (hmax : len ≤ 140737488355328) (hd : ∀ c ∈ l, c.data.size ≤ 140737488355328) :
    Calls Try.prog 57 #[.slice a len cap, .func (.func 35) #[] #[]] w (RetFi w (l.all Cl.ok)) := by
  have HV := Lib.hid hV
  have HL := Lib.hid hlen
  have HD := Lib.hid hd
  clear hV hlen hd
  go_enter Try.func57, Try.ntmps57
  go_wp2
  go_loopw [8] (fun i wr => ∃ k : Nat, k ≤ len ∧ i = .int .i64 k ∧ Hid ((l.take k).all Cl.ok = true) ∧ Below w.heap.size w wr) (fun i _ => len - (intOf i).toNat)
  case atStart => exact ⟨0, by omega, rfl, by simp [Hid], Below.refl _ _⟩
  case round =>
    obtain ⟨k, hk, rfl, HI, hb⟩ := hrel
    have hsz := hb.size
    by_cases hlt : k < len
    · have hkl : k < l.length := by have := HL.out; omega
      obtain ⟨b, o, rfl, hbN, hc⟩ := cellAt (HV.out.below hb) hkl
      obtain ⟨c0, c1, c2⟩ := hc
      obtain ⟨y, hy⟩ : ∃ y, y = l[k] := ⟨_, rfl⟩
      have HA := Lib.hid (all_takeG Cl.ok l k hkl)
      have HF := Lib.hid (all_falseG Cl.ok l k hkl)
      have hyd := HD.out _ (List.getElem_mem hkl)
      rw [← hy] at c0 c1 c2 HA HF hyd
      clear hy
      have HN := Lib.hid (fun W => isWrong_any y W hyd)
      obtain ⟨r, hr⟩ : ∃ r, y.ok = r := ⟨_, rfl⟩
      rw [hr] at HN HA HF
      clear hr
      go_wp2_with fail
      refine (HN.out _).mono ?_
      rintro e w1 ⟨rfl, hb1⟩
      clear HN
      cases r with
      | true =>
        go_wp2
        go_roundw
        case rel => exact ⟨k + 1, by omega, by go_num, by rw [HA.out, HI.out]; rfl, hb.trans (Below.mono hb1 hsz)⟩
        case measure => simp [intOf]; omega
      | false =>
        go_wp2
        go_ret
        exact ⟨k, rfl, by rw [HF.out (by trivial)]; simp, by omega, hb.trans (Below.mono hb1 hsz)⟩
    · go_wp2
      go_ret
      have hk2 : l.take k = l := List.take_of_length_le (by have := HL.out; omega)
      have := HI.out
      rw [hk2] at this
      exact ⟨-1, rfl, by rw [this]; rfl, by omega, hb⟩

set_option maxHeartbeats 1000000 in
theorem indexI_any (l : List Int) (a : Option Addr) (len cap : Nat) (w : World) (hV : Arr w.heap.size w a (cellsI l)) (hlen : len = l.length) (hmax : len ≤ 140737488355328) :
    Calls Try.prog 58 #[.slice a len cap, .func (.func 37) #[] #[]] w (RetFi w (l.all okPage)) := by
  have HV := Lib.hid hV
  have HL := Lib.hid hlen
  clear hV hlen
  go_enter Try.func58, Try.ntmps58
  go_wp2
  go_loopw [8] (fun i wr => ∃ k : Nat, k ≤ len ∧ i = .int .i64 k ∧ Hid ((l.take k).all okPage = true) ∧ Below w.heap.size w wr) (fun i _ => len - (intOf i).toNat)
  case atStart => exact ⟨0, by omega, rfl, by simp [Hid], Below.refl _ _⟩
  case round =>
    obtain ⟨k, hk, rfl, HI, hb⟩ := hrel
    have hsz := hb.size
    by_cases hlt : k < len
    · have hkl : k < l.length := by have := HL.out; omega
      obtain ⟨b, o, rfl, hbN, c0⟩ := intAt (HV.out.below hb) hkl
      obtain ⟨y, hy⟩ : ∃ y, y = l[k] := ⟨_, rfl⟩
      have HA := Lib.hid (all_takeG okPage l k hkl)
      have HF := Lib.hid (all_falseG okPage l k hkl)
      rw [← hy] at c0 HA HF
      clear hy
      have HN := Lib.hid (fun W => noPage_any y W)
      obtain ⟨r, hr⟩ : ∃ r, okPage y = r := ⟨_, rfl⟩
      rw [hr] at HN HA HF
      clear hr
      go_wp2_with fail
      refine (HN.out _).mono ?_
      rintro e w1 ⟨rfl, rfl⟩
      clear HN
      cases r with
      | true =>
        go_wp2
        go_roundw
        case rel => exact ⟨k + 1, by omega, by go_num, by rw [HA.out, HI.out]; rfl, hb⟩
        case measure => simp [intOf]; omega
      | false =>
        go_wp2
        go_ret
        exact ⟨k, rfl, by rw [HF.out (by trivial)]; simp, by omega, hb⟩
    · go_wp2
      go_ret
      have hk2 : l.take k = l := List.take_of_length_le (by have := HL.out; omega)
      have := HI.out
      rw [hk2] at this
      exact ⟨-1, rfl, by rw [this]; rfl, by omega, hb⟩

theorem containsC_any (l : List Cl) (a : Option Addr) (len cap : Nat) (w : World) (hV : Arr w.heap.size w a (cellsC l)) (hlen : len = l.length) (hmax : len ≤ 140737488355328) (hd : ∀ c ∈ l, c.data.size ≤ 140737488355328) :
    Calls Try.prog 34 #[.slice a len cap, .func (.func 35) #[] #[]] w fun e w' => e = .returned (.bool (!(l.all Cl.ok))) ∧ Below w.heap.size w w' := by
  have HC := Lib.hid (indexC_any l a len cap w hV hlen hmax hd)
  clear hV hlen hd
  go_enter Try.func34, Try.ntmps34
  go_wp2_with fail
  refine HC.out.mono ?_
  rintro e w1 ⟨r, rfl, hr, hr1, hb⟩
  clear HC
  have HR := Lib.hid hr
  clear hr
  go_wp2
  go_ret
  refine ⟨?_, hb⟩
  rw [← HR.out]
  try rfl
  try simp

theorem containsI_any (l : List Int) (a : Option Addr) (len cap : Nat) (w : World) (hV : Arr w.heap.size w a (cellsI l)) (hlen : len = l.length) (hmax : len ≤ 140737488355328) :
    Calls Try.prog 36 #[.slice a len cap, .func (.func 37) #[] #[]] w fun e w' => e = .returned (.bool (!(l.all okPage))) ∧ Below w.heap.size w w' := by
  have HC := Lib.hid (indexI_any l a len cap w hV hlen hmax)
  clear hV hlen
  go_enter Try.func36, Try.ntmps36
  go_wp2_with fail
  refine HC.out.mono ?_
  rintro e w1 ⟨r, rfl, hr, hr1, hb⟩
  clear HC
  have HR := Lib.hid hr
  clear hr
  go_wp2
  go_ret
  refine ⟨?_, hb⟩
  rw [← HR.out]
  try rfl
  try simp

open Classical in
theorem keysOk_yes {l : List ByteArray} (h : KeysOk l) : keysOk l = true := decide_eq_true h
open Classical in
theorem keysOk_no {l : List ByteArray} (h : ¬ KeysOk l) : keysOk l = false := decide_eq_false h

theorem less_yes {p y : ByteArray} (h : lessK p y = true) : Op.bytesLess y.toList p.toList = false ∧ (y.toList == p.toList) = false := by
  unfold lessK at h
  rw [less_lt] at h ⊢
  have h1 : p.toList < y.toList := of_decide_eq_true h
  refine ⟨decide_eq_false (List.lt_asymm h1), ?_⟩
  rw [beq_eq_false_iff_ne]
  intro h2
  rw [h2] at h1
  exact List.lt_irrefl _ h1
theorem less_no {p y : ByteArray} (h : lessK p y = false) : Op.bytesLess y.toList p.toList = true ∨ (Op.bytesLess y.toList p.toList = false ∧ (y.toList == p.toList) = true) := by
  unfold lessK at h
  rw [less_lt] at h ⊢
  have h1 : ¬ p.toList < y.toList := of_decide_eq_false h
  by_cases h2 : y.toList = p.toList
  · exact .inr ⟨decide_eq_false (by rw [h2]; exact List.lt_irrefl _), by simpa using h2⟩
  · exact .inl (decide_eq_true ((list_tri _ _ h2).resolve_right h1))

set_option maxHeartbeats 2000000 in
theorem areKeys_any (l : List ByteArray) (a : Option Addr) (len cap : Nat) (w : World) (hV : Arr w.heap.size w a (cellsS l)) (hlen : len = l.length) (hmax : len ≤ 140737488355328) (hs : ∀ k ∈ l, k.size ≤ 140737488355328) :
    Calls Try.prog 33 #[.slice a len cap] w fun e w' => e = .returned (.bool (keysOk l)) ∧ w = w' := by
  have HV := Lib.hid hV
  have HL := Lib.hid hlen
  have HS := Lib.hid hs
  clear hV hlen hs
  go_enter Try.func33, Try.ntmps33
  go_wp2
  go_loop [7] (fun i => ∃ k : Nat, k ≤ len ∧ i = .int .i64 k ∧ Hid (KeysOk (l.take k))) (fun i => len - (intOf i).toNat)
  case atStart => exact ⟨0, by omega, rfl, by intro i k h; simp at h⟩
  case round =>
    obtain ⟨k, hk, rfl, HI⟩ := hrel
    by_cases hlt : k < len
    · have hkl : k < l.length := by have := HL.out; omega
      obtain ⟨b, o, rfl, hbN, c0⟩ := strAt HV.out hkl
      have hys := HS.out _ (List.getElem_mem hkl)
      have HN1 := Lib.hid (fun h => keysOk_no (KeysOk.len_no hkl h))
      have HN2 := Lib.hid (fun p (hp : l[k - 1]? = some p) h0 h => keysOk_no (KeysOk.less_no hkl hp h0 h))
      have HY := Lib.hid (KeysOk.succ HI.out hkl)
      have HP : Hid (0 < k → ∃ p, l[k - 1]? = some p ∧ w.cell? ⟨b, o + (k - 1), none⟩ = some (.string p)) := by
        intro h0
        obtain ⟨b', o', h, _, c1⟩ := strAt HV.out (show k - 1 < l.length by omega)
        simp only [Option.some.injEq, Addr.mk.injEq] at h
        obtain ⟨rfl, rfl, _⟩ := h
        exact ⟨_, List.getElem?_eq_getElem _, c1⟩
      obtain ⟨y, hy⟩ : ∃ y, y = l[k] := ⟨_, rfl⟩
      rw [← hy] at c0 hys HN1 HN2 HY
      clear hy
      by_cases h100 : y.size ≤ 100
      · have q1 : decide ((100 : Int) < (y.size : Int)) = false := by simp; omega
        by_cases h0 : k = 0
        · subst h0
          have HY2 := HY.out h100 (fun h => absurd h (by omega))
          clear HY HN1 HN2 HP
          rw [Nat.add_zero] at c0
          go_wp2
          go_round
          case rel => exact ⟨1, by omega, by go_num, HY2⟩
          case measure => simp [intOf]; omega
        · obtain ⟨p, hp, c1⟩ := HP.out (by omega)
          have q2 : decide ((0 : Int) < (k : Int)) = true := by simp; omega
          have q3 : 0 < k := by omega
          have hk1 : ((k : Int) - 1) = ((k - 1 : Nat) : Int) := by omega
          cases hl : lessK p y with
          | true =>
            have HY2 := HY.out h100 (fun _ p' hp' => by rw [hp] at hp'; simp at hp'; subst hp'; exact hl)
            have HL2 := Lib.hid hl
            clear HY HN1 HN2 HP hl hp
            obtain ⟨r1, r2⟩ := less_yes HL2.out
            go_wp2
            go_round
            case rel => exact ⟨k + 1, by omega, by go_num, HY2⟩
            case measure => simp [intOf]; omega
          | false =>
            have HN := Lib.hid (HN2.out p hp (by omega) hl)
            have hc := less_no hl
            clear HY HN1 HN2 HP hl hp
            rcases hc with r1 | ⟨r1, r2⟩
            all_goals
              go_wp2
              go_ret
              exact ⟨ret_b HN.out.symm, rfl⟩
      · have q1 : decide ((100 : Int) < (y.size : Int)) = true := by simp; omega
        have HN := Lib.hid (HN1.out h100)
        clear HY HN1 HN2 HP
        go_wp2
        go_ret
        exact ⟨ret_b HN.out.symm, rfl⟩
    · have hk2 : l.take k = l := List.take_of_length_le (by have := HL.out; omega)
      have HR : Hid (keysOk l = true) := keysOk_yes (by have := HI.out; rw [hk2] at this; exact this)
      go_wp2
      go_ret
      exact ⟨ret_b HR.out.symm, rfl⟩
end Go.Proofs.Ytlcphgomhhejbaa

/- A node in memory; the walk of node.Right. -/
namespace Go.Proofs.Ytlcphgomhhejbaa
open Go.RowKit

/-- Where a node's keys, cells and kids lie. -/
structure NB where
  ka : Option Addr
  kl : Nat
  kc : Nat
  ca : Option Addr
  cl : Nat
  cc : Nat
  da : Option Addr
  dl : Nat
  dc : Nat

/-- A node's value. -/
abbrev NB.v (m : NB) (leaf : Bool) : Value := .agg #[.bool leaf, .slice m.ka m.kl m.kc, .slice m.ca m.cl m.cc, .slice m.da m.dl m.dc]

def Cl.fair (c : Cl) : Prop := c.data.size ≤ 140737488355328 ∧ (-9223372036854775808 ≤ c.len ∧ c.len ≤ 9223372036854775807) ∧ (-9223372036854775808 ≤ c.page ∧ c.page ≤ 9223372036854775807)

/-- The node n lies there. -/
structure NAt (w : World) (n : Nd) (m : NB) : Prop where
  hk : m.kl = n.keys.length
  hc : m.cl = n.cells.length
  hd : m.dl = n.kids.length
  kcap : m.kl ≤ m.kc
  ccap : m.cl ≤ m.cc
  dcap : m.dl ≤ m.dc
  kmax : m.kl ≤ 140737488355328
  cmax : m.cl ≤ 140737488355328
  dmax : m.dl ≤ 140737488355328
  karr : Arr w.heap.size w m.ka (cellsS n.keys)
  carr : Arr w.heap.size w m.ca (cellsC n.cells)
  darr : Arr w.heap.size w m.da (cellsI n.kids)
  kfair : ∀ k ∈ n.keys, k.size ≤ 140737488355328
  cfair : ∀ c ∈ n.cells, c.fair
  dfair : ∀ p ∈ n.kids, -9223372036854775808 ≤ p ∧ p ≤ 9223372036854775807

theorem NAt.later {w w' : World} {n : Nd} {m : NB} (h : NAt w n m) (hb : Below w.heap.size w w') : NAt w' n m :=
  ⟨h.hk, h.hc, h.hd, h.kcap, h.ccap, h.dcap, h.kmax, h.cmax, h.dmax, h.karr.later (N := 0) hb, h.carr.later (N := 0) hb, h.darr.later (N := 0) hb, h.kfair, h.cfair, h.dfair⟩

open Classical in
theorem Nd.ok_eq {n : Nd} {b : Bool} (h : n.Ok ↔ b = true) : n.ok = b := by
  unfold Nd.ok
  cases b with
  | true => exact decide_eq_true (h.2 rfl)
  | false => exact decide_eq_false (fun h2 => by simpa using h.1 h2)

theorem keysOk_iff (l : List ByteArray) : keysOk l = true ↔ KeysOk l := by unfold keysOk; simp

set_option maxHeartbeats 4000000 in
theorem NRight_any (n : Nd) (m : NB) (w : World) (h : NAt w n m) :
    Calls Try.prog 15 #[m.v n.leaf] w fun e w' => e = .returned (.bool n.ok) ∧ Below w.heap.size w w' := by
  have HK := Lib.hid (fun W (hb : Below w.heap.size w W) => areKeys_any n.keys m.ka m.kl m.kc W (h.later hb).karr h.hk h.kmax h.kfair)
  have HC := Lib.hid (fun W (hb : Below w.heap.size w W) => containsC_any n.cells m.ca m.cl m.cc W (h.later hb).carr h.hc h.cmax (fun c hc => (h.cfair c hc).1))
  have HD := Lib.hid (fun W (hb : Below w.heap.size w W) => containsI_any n.kids m.da m.dl m.dc W (h.later hb).darr h.hd h.dmax)
  have hE := fun b => Nd.ok_eq (n := n) (b := b)
  have hk := h.hk
  have hc := h.hc
  have hd := h.hd
  have kmax := h.kmax
  have cmax := h.cmax
  have dmax := h.dmax
  clear h
  obtain ⟨leaf, ks, cs, ps⟩ := n
  obtain ⟨ka, kl, kc, ca, cl, cc, da, dl, dc⟩ := m
  simp only [Nd.Ok] at *
  obtain ⟨r1, h1⟩ : ∃ r, keysOk ks = r := ⟨_, rfl⟩
  obtain ⟨r2, h2⟩ : ∃ r, cs.all Cl.ok = r := ⟨_, rfl⟩
  obtain ⟨r3, h3⟩ : ∃ r, ps.all okPage = r := ⟨_, rfl⟩
  rw [h1] at HK
  rw [h2] at HC
  rw [h3] at HD
  have e1 : KeysOk ks ↔ r1 = true := by rw [← h1]; exact (keysOk_iff ks).symm
  have e2 : (∀ c ∈ cs, c.ok = true) ↔ r2 = true := by rw [← h2]; simp
  have e3 : (∀ p ∈ ps, okPage p = true) ↔ r3 = true := by rw [← h3]; simp
  have e4 : ks ≠ [] ↔ 0 < kl := by rw [hk]; cases ks <;> simp
  have e5 : ps = [] ↔ dl = 0 := by rw [hd]; exact List.length_eq_zero_iff.symm
  have e6 : cs = [] ↔ cl = 0 := by rw [hc]; exact List.length_eq_zero_iff.symm
  rw [e1, e2, e3, e4, e5, e6, ← hk, ← hc, ← hd] at hE
  generalize Nd.ok ⟨leaf, ks, cs, ps⟩ = R at *
  clear e1 e2 e3 e4 e5 e6 h1 h2 h3 hk hc hd
  have HR : ∀ b, Hid ((r1 = true ∧ (if leaf = true then cl = kl ∧ dl = 0 ∧ r2 = true else 0 < kl ∧ dl = kl + 1 ∧ cl = 0 ∧ r3 = true)) ↔ b = true) → Hid (R = b) := fun b hb => hE b hb
  clear hE
  cases r1 with
  | false =>
    have HB := HR false (by simp [Hid])
    go_enter Try.func15, Try.ntmps15
    go_wp2_with fail
    refine (HK.out _ (Below.box _ _)).mono ?_
    rintro e w1 ⟨rfl, rfl⟩
    go_wp2
    go_ret
    exact ⟨ret_b HB.out.symm, Below.box _ _⟩
  | true =>
    cases leaf with
    | true =>
      by_cases q1 : cl = kl
      · subst q1
        by_cases q2 : dl = 0
        · subst q2
          have HB := HR r2 (by cases r2 <;> simp [Hid])
          have HB2 := Lib.hid HR
          clear HR
          go_enter Try.func15, Try.ntmps15
          go_wp2_with fail
          refine (HK.out _ (Below.box _ _)).mono ?_
          rintro e w1 ⟨rfl, rfl⟩
          go_wp2_with fail
          refine (HC.out _ (Below.box _ _)).mono ?_
          rintro e w1 ⟨rfl, hb⟩
          go_wp2
          go_ret
          exact ⟨ret_b (by first | (rw [HB.out]; done) | (rw [HB.out]; simp)), (Below.box _ _).trans (hb.mono (by simp))⟩
        · have HB := HR false (by first | (simp [Hid, q2]; done) | (simp [Hid]; omega))
          have q3 : ((dl : Int) == 0) = false := by first | (simp; done) | (simp; omega)
          clear HR
          go_enter Try.func15, Try.ntmps15
          go_wp2_with fail
          refine (HK.out _ (Below.box _ _)).mono ?_
          rintro e w1 ⟨rfl, rfl⟩
          go_wp2
          go_ret
          exact ⟨ret_b (by rw [HB.out]), Below.box _ _⟩
      · have HB := HR false (by first | (simp [Hid, q1]; done) | (simp [Hid]; omega))
        have q3 : ((cl : Int) == (kl : Int)) = false := by first | (simp; done) | (simp; omega)
        clear HR
        go_enter Try.func15, Try.ntmps15
        go_wp2_with fail
        refine (HK.out _ (Below.box _ _)).mono ?_
        rintro e w1 ⟨rfl, rfl⟩
        go_wp2
        go_ret
        exact ⟨ret_b (by rw [HB.out]), Below.box _ _⟩
    | false =>
      by_cases q0 : 0 < kl
      · have q0' : decide ((0 : Int) < (kl : Int)) = true := by first | (simp; done) | (simp; omega)
        by_cases q1 : dl = kl + 1
        · have q1' : ((dl : Int) == (kl : Int) + 1) = true := by first | (simp; done) | (simp; omega)
          by_cases q2 : cl = 0
          · subst q2
            have HB := HR r3 (by simp [Hid, q0, q1])
            clear HR q1
            go_enter Try.func15, Try.ntmps15
            go_wp2_with fail
            refine (HK.out _ (Below.box _ _)).mono ?_
            rintro e w1 ⟨rfl, rfl⟩
            go_wp2_with fail
            refine (HD.out _ (Below.box _ _)).mono ?_
            rintro e w1 ⟨rfl, hb⟩
            go_wp2
            go_ret
            exact ⟨ret_b (by first | (rw [HB.out]; done) | (rw [HB.out]; simp)), (Below.box _ _).trans (hb.mono (by simp))⟩
          · have HB := HR false (by first | (simp [Hid]; done) | (simp [Hid]; omega))
            have q3 : ((cl : Int) == 0) = false := by first | (simp; done) | (simp; omega)
            clear HR q1
            go_enter Try.func15, Try.ntmps15
            go_wp2_with fail
            refine (HK.out _ (Below.box _ _)).mono ?_
            rintro e w1 ⟨rfl, rfl⟩
            go_wp2
            go_ret
            exact ⟨ret_b (by rw [HB.out]), Below.box _ _⟩
        · have HB := HR false (by first | (simp [Hid]; done) | (simp [Hid]; omega))
          have q1' : ((dl : Int) == (kl : Int) + 1) = false := by first | (simp; done) | (simp; omega)
          clear HR
          go_enter Try.func15, Try.ntmps15
          go_wp2_with fail
          refine (HK.out _ (Below.box _ _)).mono ?_
          rintro e w1 ⟨rfl, rfl⟩
          go_wp2
          go_ret
          exact ⟨ret_b (by rw [HB.out]), Below.box _ _⟩
      · have HB := HR false (by first | (simp [Hid]; done) | (simp [Hid]; omega))
        have q0' : decide ((0 : Int) < (kl : Int)) = false := by first | (simp; done) | (simp; omega)
        clear HR
        go_enter Try.func15, Try.ntmps15
        go_wp2_with fail
        refine (HK.out _ (Below.box _ _)).mono ?_
        rintro e w1 ⟨rfl, rfl⟩
        go_wp2
        go_ret
        exact ⟨ret_b (by rw [HB.out]), Below.box _ _⟩
end Go.Proofs.Ytlcphgomhhejbaa

/- What is read of a node's bytes. -/
namespace Go.Proofs.Ytlcphgomhhejbaa
open Go.RowKit

/-- k bytes from a place on. -/
def cutL (b : List Nat) (at_ k : Nat) : List Nat := (b.drop at_).take k
theorem cutL_len {b : List Nat} {at_ k : Nat} (h : at_ + k ≤ b.length) : (cutL b at_ k).length = k := by
  unfold cutL; rw [List.length_take, List.length_drop]; omega
theorem cutL_lt {b : List Nat} (hb : ∀ c ∈ b, c < 256) (at_ k : Nat) : ∀ c ∈ cutL b at_ k, c < 256 := fun c hc => hb c (List.mem_of_mem_drop (List.mem_of_mem_take hc))
theorem cutL_add (b : List Nat) (at_ k m : Nat) : cutL b at_ (k + m) = cutL b at_ k ++ cutL b (at_ + k) m := by
  unfold cutL
  rw [← List.drop_drop, List.take_add]
theorem cutL_app (A B C : List Nat) : cutL (A ++ (B ++ C)) A.length B.length = B := by
  unfold cutL
  rw [List.drop_left, List.take_left]

/-- A part that begins at a place, and the place behind it. -/
def decP (leaf : Bool) (b : List Nat) (at_ : Nat) : Option (Pt × Nat) :=
  let front := if leaf then 3 else 1
  if b.length < at_ + front then none else
  let k := valL (cutL b at_ 1)
  let len := if leaf then valL (cutL b (at_ + 1) 2) else 0
  let behind := if leaf && decide (len ≤ 120) then len else 4
  if b.length < at_ + front + k + behind then none else
  some (⟨strN (cutL b (at_ + front) k), (len : Int), if leaf && decide (len ≤ 120) then strN (cutL b (at_ + front + k) behind) else ⟨#[]⟩, if leaf && decide (len ≤ 120) then 0 else (valL (cutL b (at_ + front + k) behind) : Int)⟩, at_ + front + k + behind)

/-- The first i parts, and the place behind them. -/
def decs (leaf : Bool) (b : List Nat) (at_ : Nat) : Nat → Option (List Pt × Nat)
  | 0 => some ([], at_)
  | i + 1 => match decs leaf b at_ i with
    | none => none
    | some (l, p) => match decP leaf b p with
      | none => none
      | some (x, q) => some (l ++ [x], q)

theorem bytesOf_strB {l : List Nat} (h : ∀ c ∈ l, c < 256) : bytesOf (strN l) = l := by
  unfold bytesOf strN
  simp only [List.map_map]
  conv => rhs; rw [← List.map_id l]
  apply List.map_congr_left
  intro c hc
  have := h c hc
  simp; omega

theorem decs_len {leaf : Bool} {b : List Nat} {at_ : Nat} : ∀ {i : Nat} {l : List Pt} {p : Nat}, decs leaf b at_ i = some (l, p) → l.length = i
  | 0, l, p, h => by simp [decs] at h; simp [← h.1]
  | i + 1, l, p, h => by
    unfold decs at h
    cases h1 : decs leaf b at_ i with
    | none => rw [h1] at h; simp at h
    | some r =>
      obtain ⟨l', p'⟩ := r
      rw [h1] at h
      cases h2 : decP leaf b p' with
      | none => simp [h2] at h
      | some r2 =>
        obtain ⟨x, q⟩ := r2
        simp [h2] at h
        have := decs_len h1
        simp [← h.1, this]

/-- What was read are its bytes. -/
theorem decP_enc {leaf : Bool} {b : List Nat} (hb : ∀ c ∈ b, c < 256) {at_ q : Nat} {x : Pt} (h : decP leaf b at_ = some (x, q)) : at_ ≤ q ∧ q ≤ b.length ∧ cutL b at_ (q - at_) = encPt leaf x ∧ x.key.size < 256 := by
  have key : ∀ (k front : Nat), k = valL (cutL b at_ 1) → at_ + front ≤ b.length → 1 ≤ front → cutL b at_ 1 = [k] ∧ k < 256 := by
    intro k front hk hf h1
    have hk1 : (cutL b at_ 1).length = 1 := cutL_len (by omega)
    subst hk
    refine ⟨?_, by have := valL_lt _ (cutL_lt hb at_ 1); rw [hk1] at this; simpa using this⟩
    match hc : cutL b at_ 1, hk1 with
    | [c], _ => simp [valL]
  unfold decP at h
  cases leaf with
  | true =>
    simp only [if_true, Bool.true_and] at h
    split at h
    · simp at h
    · rename_i hf
      obtain ⟨hkb, hkl⟩ := key _ 3 rfl (by omega) (by omega)
      have hl2 : (cutL b (at_ + 1) 2).length = 2 := cutL_len (by omega)
      have hlb := beL_valL _ (cutL_lt hb (at_ + 1) 2)
      rw [hl2] at hlb
      generalize hK : valL (cutL b at_ 1) = k at *
      generalize hL : valL (cutL b (at_ + 1) 2) = len at *
      by_cases h120 : len ≤ 120
      · simp only [h120, decide_true, if_true] at h
        split at h
        · simp at h
        · rename_i hs
          simp only [Option.some.injEq, Prod.mk.injEq] at h
          obtain ⟨rfl, rfl⟩ := h
          refine ⟨by omega, by omega, ?_, ?_⟩
          · have e1 : at_ + 3 + k + len - at_ = 1 + (2 + (k + len)) := by omega
            rw [e1, cutL_add, cutL_add, cutL_add, hkb, ← hlb]
            unfold encPt
            have hks : (strN (cutL b (at_ + 3) k)).size = k := by rw [strN_size, cutL_len (by omega)]
            rw [hks, bytesOf_strB (cutL_lt hb _ _)]
            have : decide ((len : Int) ≤ 120) = true := by simp; omega
            simp only [if_true, Bool.true_and, this, Int.toNat_natCast]
            rw [bytesOf_strB (cutL_lt hb _ _)]
            simp [Nat.add_assoc]
          · simp only; rw [strN_size, cutL_len (by omega)]; exact hkl
      · simp only [h120, decide_false, Bool.false_eq_true, if_false] at h
        split at h
        · simp at h
        · rename_i hs
          simp only [Option.some.injEq, Prod.mk.injEq] at h
          obtain ⟨rfl, rfl⟩ := h
          refine ⟨by omega, by omega, ?_, ?_⟩
          · have e1 : at_ + 3 + k + 4 - at_ = 1 + (2 + (k + 4)) := by omega
            have hpb := beL_valL _ (cutL_lt hb (at_ + 3 + k) 4)
            rw [cutL_len (by omega)] at hpb
            rw [e1, cutL_add, cutL_add, cutL_add, hkb, ← hlb]
            unfold encPt
            have hks : (strN (cutL b (at_ + 3) k)).size = k := by rw [strN_size, cutL_len (by omega)]
            rw [hks, bytesOf_strB (cutL_lt hb _ _)]
            have : decide ((len : Int) ≤ 120) = false := by simp; omega
            simp only [if_true, Bool.true_and, this, Int.toNat_natCast, Bool.false_eq_true, if_false]
            rw [hpb]
            simp [Nat.add_assoc]
          · simp only; rw [strN_size, cutL_len (by omega)]; exact hkl
  | false =>
    simp only [Bool.false_eq_true, if_false, Bool.false_and] at h
    split at h
    · simp at h
    · rename_i hf
      obtain ⟨hkb, hkl⟩ := key _ 1 rfl (by omega) (by omega)
      generalize hK : valL (cutL b at_ 1) = k at *
      split at h
      · simp at h
      · rename_i hs
        simp only [Option.some.injEq, Prod.mk.injEq] at h
        obtain ⟨rfl, rfl⟩ := h
        refine ⟨by omega, by omega, ?_, ?_⟩
        · have e1 : at_ + 1 + k + 4 - at_ = 1 + (k + 4) := by omega
          have hpb := beL_valL _ (cutL_lt hb (at_ + 1 + k) 4)
          rw [cutL_len (by omega)] at hpb
          rw [e1, cutL_add, cutL_add, hkb]
          unfold encPt
          have hks : (strN (cutL b (at_ + 1) k)).size = k := by rw [strN_size, cutL_len (by omega)]
          rw [hks, bytesOf_strB (cutL_lt hb _ _)]
          simp only [Bool.false_eq_true, if_false, Bool.false_and, Int.toNat_natCast]
          rw [hpb]
          simp [Nat.add_assoc]
        · simp only; rw [strN_size, cutL_len (by omega)]; exact hkl

theorem decs_enc {leaf : Bool} {b : List Nat} (hb : ∀ c ∈ b, c < 256) {at_ : Nat} (hat : at_ ≤ b.length) : ∀ {i : Nat} {l : List Pt} {q : Nat}, decs leaf b at_ i = some (l, q) → at_ ≤ q ∧ q ≤ b.length ∧ cutL b at_ (q - at_) = encPs leaf l
  | 0, l, q, h => by
    simp [decs] at h
    obtain ⟨rfl, rfl⟩ := h
    exact ⟨by omega, hat, by simp [cutL, encPs]⟩
  | i + 1, l, q, h => by
    unfold decs at h
    cases h1 : decs leaf b at_ i with
    | none => rw [h1] at h; simp at h
    | some r =>
      obtain ⟨l', p'⟩ := r
      rw [h1] at h
      cases h2 : decP leaf b p' with
      | none => simp [h2] at h
      | some r2 =>
        obtain ⟨x, q'⟩ := r2
        simp [h2] at h
        obtain ⟨rfl, rfl⟩ := h
        obtain ⟨i1, i2, i3⟩ := decs_enc hb hat h1
        obtain ⟨j1, j2, j3, _⟩ := decP_enc hb h2
        refine ⟨by omega, j2, ?_⟩
        rw [show q' - at_ = (p' - at_) + (q' - p') by omega, cutL_add, i3, show at_ + (p' - at_) = p' by omega, j3, encPs_snoc]

/-- What was written is read. -/
theorem decP_of (leaf : Bool) (A C : List Nat) (x : Pt) (hk : x.key.size < 256) (hx : if leaf then x.okL = true else x.okI = true) : decP leaf (A ++ (encPt leaf x ++ C)) A.length = some (x, A.length + (encPt leaf x).length) := by
  obtain ⟨key, len, data, page⟩ := x
  cases leaf with
  | true =>
    simp only [if_true] at hx
    obtain ⟨l0, l1, l2, l3⟩ := okL_bd hx
    simp only at l0 l1 l2 l3 hk
    obtain ⟨n, rfl⟩ := Int.eq_ofNat_of_zero_le l0
    have hn : n < 65536 := by omega
    have henc : encPt true ⟨key, n, data, page⟩ = [key.size] ++ (beL 2 n ++ (bytesOf key ++ (if n ≤ 120 then bytesOf data else beL 4 page.toNat))) := by
      unfold encPt
      have : decide ((n : Int) ≤ 120) = decide (n ≤ 120) := decide_eq_decide.2 (by omega)
      simp only [if_true, Bool.true_and, this, decide_eq_true_eq, Int.toNat_natCast, List.singleton_append]
    have c1 : cutL (A ++ (encPt true ⟨key, n, data, page⟩ ++ C)) A.length 1 = [key.size] := by
      rw [henc, List.append_assoc]; exact cutL_app A [key.size] _
    have c2 : cutL (A ++ (encPt true ⟨key, n, data, page⟩ ++ C)) (A.length + 1) 2 = beL 2 n := by
      have := cutL_app (A ++ [key.size]) (beL 2 n) ((bytesOf key ++ (if n ≤ 120 then bytesOf data else beL 4 page.toNat)) ++ C)
      rw [beL_len, List.length_append] at this
      rw [henc]
      simpa [List.append_assoc] using this
    have c3 : cutL (A ++ (encPt true ⟨key, n, data, page⟩ ++ C)) (A.length + 3) key.size = bytesOf key := by
      have := cutL_app (A ++ [key.size] ++ beL 2 n) (bytesOf key) ((if n ≤ 120 then bytesOf data else beL 4 page.toNat) ++ C)
      rw [bytesOf_len, List.length_append, List.length_append, beL_len] at this
      rw [henc]
      simpa [List.append_assoc] using this
    have hv1 : valL [key.size] = key.size := by simp [valL]
    have hv2 : valL (beL 2 n) = n := by rw [valL_beL]; omega
    have hlen : (encPt true ⟨key, n, data, page⟩).length = 3 + key.size + (if n ≤ 120 then data.size else 4) := by
      rw [henc]; simp only [List.length_append, beL_len, bytesOf_len, List.length_singleton]; split <;> simp [bytesOf_len, beL_len] <;> omega
    unfold decP
    simp only [if_true, Bool.true_and, c1, c2, hv1, hv2]
    rw [c3]
    have htot : (A ++ (encPt true ⟨key, n, data, page⟩ ++ C)).length = A.length + (3 + key.size + (if n ≤ 120 then data.size else 4)) + C.length := by
      rw [List.length_append, List.length_append, hlen]; omega
    by_cases h120 : n ≤ 120
    · obtain ⟨d1, d2⟩ := l2 (by omega)
      have d1' : data.size = n := by omega
      subst d2
      have c4 : cutL (A ++ (encPt true ⟨key, n, data, 0⟩ ++ C)) (A.length + 3 + key.size) n = bytesOf data := by
        have := cutL_app (A ++ [key.size] ++ beL 2 n ++ bytesOf key) (bytesOf data) C
        rw [bytesOf_len, List.length_append, List.length_append, List.length_append, beL_len, bytesOf_len, d1'] at this
        rw [henc, if_pos h120]
        simpa [List.append_assoc] using this
      rw [if_pos h120] at htot hlen
      simp only [h120, decide_true, if_true]
      rw [if_neg (by omega), if_neg (by omega), c4, hlen, strN_bytesOf, strN_bytesOf]
      simp; omega
    · obtain ⟨d1, d2, d3⟩ := l3 (by omega)
      have d0 : data = ⟨#[]⟩ := ByteArray.ext (Array.size_eq_zero_iff.1 d1)
      have c4 : cutL (A ++ (encPt true ⟨key, n, data, page⟩ ++ C)) (A.length + 3 + key.size) 4 = beL 4 page.toNat := by
        have := cutL_app (A ++ [key.size] ++ beL 2 n ++ bytesOf key) (beL 4 page.toNat) C
        rw [beL_len, List.length_append, List.length_append, List.length_append, beL_len, bytesOf_len] at this
        rw [henc, if_neg h120]
        simpa [List.append_assoc] using this
      have hv4 : valL (beL 4 page.toNat) = page.toNat := by rw [valL_beL]; omega
      rw [if_neg h120] at htot hlen
      simp only [h120, decide_false, Bool.false_eq_true, if_false]
      rw [if_neg (by omega), if_neg (by omega), c4, hlen, strN_bytesOf, hv4, d0]
      simp; omega
  | false =>
    simp only [Bool.false_eq_true, if_false] at hx
    obtain ⟨l0, l1, l2, l3⟩ := okI_bd hx
    simp only at l0 l1 l2 l3 hk
    have d0 : data = ⟨#[]⟩ := ByteArray.ext (Array.size_eq_zero_iff.1 l1)
    subst l0 d0
    have henc : encPt false ⟨key, 0, ⟨#[]⟩, page⟩ = [key.size] ++ (bytesOf key ++ beL 4 page.toNat) := by
      unfold encPt; simp
    have c1 : cutL (A ++ (encPt false ⟨key, 0, ⟨#[]⟩, page⟩ ++ C)) A.length 1 = [key.size] := by
      rw [henc, List.append_assoc]; exact cutL_app A [key.size] _
    have c3 : cutL (A ++ (encPt false ⟨key, 0, ⟨#[]⟩, page⟩ ++ C)) (A.length + 1) key.size = bytesOf key := by
      have := cutL_app (A ++ [key.size]) (bytesOf key) (beL 4 page.toNat ++ C)
      rw [bytesOf_len, List.length_append] at this
      rw [henc]
      simpa [List.append_assoc] using this
    have c4 : cutL (A ++ (encPt false ⟨key, 0, ⟨#[]⟩, page⟩ ++ C)) (A.length + 1 + key.size) 4 = beL 4 page.toNat := by
      have := cutL_app (A ++ [key.size] ++ bytesOf key) (beL 4 page.toNat) C
      rw [beL_len, List.length_append, List.length_append, bytesOf_len] at this
      rw [henc]
      simpa [List.append_assoc] using this
    have hv1 : valL [key.size] = key.size := by simp [valL]
    have hv4 : valL (beL 4 page.toNat) = page.toNat := by rw [valL_beL]; omega
    have hlen : (encPt false ⟨key, 0, ⟨#[]⟩, page⟩).length = 1 + key.size + 4 := by
      rw [henc]; simp only [List.length_append, beL_len, bytesOf_len, List.length_singleton]; omega
    have htot : (A ++ (encPt false ⟨key, 0, ⟨#[]⟩, page⟩ ++ C)).length = A.length + (1 + key.size + 4) + C.length := by
      rw [List.length_append, List.length_append, hlen]; omega
    unfold decP
    simp only [Bool.false_eq_true, if_false, Bool.false_and, c1, hv1]
    rw [c3, c4, hv4, if_neg (by omega), if_neg (by omega), hlen, strN_bytesOf]
    simp; omega

theorem decs_of (leaf : Bool) (A C : List Nat) (l : List Pt) (hk : ∀ x ∈ l, x.key.size < 256 ∧ (if leaf then x.okL = true else x.okI = true)) : ∀ i, i ≤ l.length → decs leaf (A ++ (encPs leaf l ++ C)) A.length i = some (l.take i, A.length + (encPs leaf (l.take i)).length)
  | 0, _ => by simp [decs, encPs]
  | i + 1, h => by
    have ih := decs_of leaf A C l hk i (by omega)
    have hi := List.getElem?_eq_getElem (show i < l.length by omega)
    have hm := hk l[i] (List.getElem_mem (by omega))
    have e : A ++ (encPs leaf l ++ C) = (A ++ encPs leaf (l.take i)) ++ (encPt leaf l[i] ++ (encPs leaf (l.drop (i + 1)) ++ C)) := by
      have e1 : encPs leaf l = encPs leaf (l.take i) ++ (encPt leaf l[i] ++ encPs leaf (l.drop (i + 1))) := by
        conv => lhs; rw [← List.take_append_drop i l, List.drop_eq_getElem_cons (show i < l.length by omega)]
        simp only [encPs, List.flatMap_append, List.flatMap_cons]
      rw [e1]
      simp only [List.append_assoc]
    have h2 := decP_of leaf (A ++ encPs leaf (l.take i)) (encPs leaf (l.drop (i + 1)) ++ C) l[i] hm.1 hm.2
    rw [← e, List.length_append] at h2
    unfold decs
    rw [ih]
    simp only [h2]
    rw [List.take_add_one, hi, Option.toList_some, encPs_snoc, List.length_append]
    simp; omega
end Go.Proofs.Ytlcphgomhhejbaa
