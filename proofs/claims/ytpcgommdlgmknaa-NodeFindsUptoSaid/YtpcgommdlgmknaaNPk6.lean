/- Several texts of one proof, one behind the other. -/
import Derived.Test.YtpcgommdlgmknaaNPk5
import Derived.Deep.MidRow
import Derived.Lib.Hide

/- The walks of slices.IndexFunc and slices.ContainsFunc over cells and over pages. -/
namespace Go.Proofs.Ytpcgommdlgmknaa
open Go.RowKit

/-- Where the first wrong one is: -1 if there is none. -/
def RetFi (w : World) (all : Bool) (e : Ending) (w' : World) : Prop := ∃ r : Int, e = .returned (.int .i64 r) ∧ (decide (0 ≤ r) = !all) ∧ -1 ≤ r ∧ Below w.heap.size w w'

theorem all_takeG {α : Type} (p : α → Bool) (l : List α) (k : Nat) (h : k < l.length) : (l.take (k + 1)).all p = ((l.take k).all p && p l[k]) := by
  rw [List.take_succ_eq_append_getElem h, List.all_append]; simp only [List.all_cons, List.all_nil, Bool.and_true]

theorem all_falseG {α : Type} (p : α → Bool) (l : List α) (k : Nat) (h : k < l.length) (hk : p l[k] = false) : l.all p = false := by
  rw [List.all_eq_false]
  exact ⟨l[k], List.getElem_mem h, by simp [hk]⟩

set_option maxHeartbeats 1000000 in
theorem indexC_any (l : List Cl) (a : Option Addr) (len cap : Nat) (w : World) (hV : Arr w.heap.size w a (cellsC l)) (hlen : len = l.length) (hmax : len ≤ 140737488355328) (hd : ∀ c ∈ l, c.data.size ≤ 140737488355328) :
    Calls Try.prog 57 #[.slice a len cap, .func (.func 35) #[] #[]] w (RetFi w (l.all Cl.ok)) := by
  have HV := Lib.hid hV
  have HL := Lib.hid hlen
  have HD := Lib.hid hd
  clear hV hlen hd
  go_enter Try.func57, Try.ntmps57
  go_wp2
  go_loopw [8] (fun i wr => ∃ k : Nat, k ≤ len ∧ i = .int .i64 k ∧ Hid ((l.take k).all Cl.ok = true) ∧ Below w.heap.size w wr) (fun i _ => len - (intOf i).toNat)
  case atStart => exact ⟨0, by omega, rfl, by simp [Hid], Below.refl _ _⟩
  case round =>
    obtain ⟨k, hk, rfl, HI, hb⟩ := hrel
    have hsz := hb.size
    by_cases hlt : k < len
    · have hkl : k < l.length := by have := HL.out; omega
      obtain ⟨b, o, rfl, hbN, hc⟩ := cellAt (HV.out.below hb) hkl
      obtain ⟨c0, c1, c2⟩ := hc
      obtain ⟨y, hy⟩ : ∃ y, y = l[k] := ⟨_, rfl⟩
      have HA := Lib.hid (all_takeG Cl.ok l k hkl)
      have HF := Lib.hid (all_falseG Cl.ok l k hkl)
      have hyd := HD.out _ (List.getElem_mem hkl)
      rw [← hy] at c0 c1 c2 HA HF hyd
      clear hy
      have HN := Lib.hid (fun W => isWrong_any y W hyd)
      obtain ⟨r, hr⟩ : ∃ r, y.ok = r := ⟨_, rfl⟩
      rw [hr] at HN HA HF
      clear hr
      go_wp2_with fail
      refine (HN.out _).mono ?_
      rintro e w1 ⟨rfl, hb1⟩
      clear HN
      cases r with
      | true =>
        go_wp2
        go_roundw
        case rel => exact ⟨k + 1, by omega, by go_num, by rw [HA.out, HI.out]; rfl, hb.trans (Below.mono hb1 hsz)⟩
        case measure => simp [intOf]; omega
      | false =>
        go_wp2
        go_ret
        exact ⟨k, rfl, by rw [HF.out (by trivial)]; simp, by omega, hb.trans (Below.mono hb1 hsz)⟩
    · go_wp2
      go_ret
      have hk2 : l.take k = l := List.take_of_length_le (by have := HL.out; omega)
      have := HI.out
      rw [hk2] at this
      exact ⟨-1, rfl, by rw [this]; rfl, by omega, hb⟩

set_option maxHeartbeats 1000000 in
theorem indexI_any (l : List Int) (a : Option Addr) (len cap : Nat) (w : World) (hV : Arr w.heap.size w a (cellsI l)) (hlen : len = l.length) (hmax : len ≤ 140737488355328) :
    Calls Try.prog 58 #[.slice a len cap, .func (.func 37) #[] #[]] w (RetFi w (l.all okPage)) := by
  have HV := Lib.hid hV
  have HL := Lib.hid hlen
  clear hV hlen
  go_enter Try.func58, Try.ntmps58
  go_wp2
  go_loopw [8] (fun i wr => ∃ k : Nat, k ≤ len ∧ i = .int .i64 k ∧ Hid ((l.take k).all okPage = true) ∧ Below w.heap.size w wr) (fun i _ => len - (intOf i).toNat)
  case atStart => exact ⟨0, by omega, rfl, by simp [Hid], Below.refl _ _⟩
  case round =>
    obtain ⟨k, hk, rfl, HI, hb⟩ := hrel
    have hsz := hb.size
    by_cases hlt : k < len
    · have hkl : k < l.length := by have := HL.out; omega
      obtain ⟨b, o, rfl, hbN, c0⟩ := intAt (HV.out.below hb) hkl
      obtain ⟨y, hy⟩ : ∃ y, y = l[k] := ⟨_, rfl⟩
      have HA := Lib.hid (all_takeG okPage l k hkl)
      have HF := Lib.hid (all_falseG okPage l k hkl)
      rw [← hy] at c0 HA HF
      clear hy
      have HN := Lib.hid (fun W => noPage_any y W)
      obtain ⟨r, hr⟩ : ∃ r, okPage y = r := ⟨_, rfl⟩
      rw [hr] at HN HA HF
      clear hr
      go_wp2_with fail
      refine (HN.out _).mono ?_
      rintro e w1 ⟨rfl, rfl⟩
      clear HN
      cases r with
      | true =>
        go_wp2
        go_roundw
        case rel => exact ⟨k + 1, by omega, by go_num, by rw [HA.out, HI.out]; rfl, hb⟩
        case measure => simp [intOf]; omega
      | false =>
        go_wp2
        go_ret
        exact ⟨k, rfl, by rw [HF.out (by trivial)]; simp, by omega, hb⟩
    · go_wp2
      go_ret
      have hk2 : l.take k = l := List.take_of_length_le (by have := HL.out; omega)
      have := HI.out
      rw [hk2] at this
      exact ⟨-1, rfl, by rw [this]; rfl, by omega, hb⟩

theorem containsC_any (l : List Cl) (a : Option Addr) (len cap : Nat) (w : World) (hV : Arr w.heap.size w a (cellsC l)) (hlen : len = l.length) (hmax : len ≤ 140737488355328) (hd : ∀ c ∈ l, c.data.size ≤ 140737488355328) :
    Calls Try.prog 34 #[.slice a len cap, .func (.func 35) #[] #[]] w fun e w' => e = .returned (.bool (!(l.all Cl.ok))) ∧ Below w.heap.size w w' := by
  have HC := Lib.hid (indexC_any l a len cap w hV hlen hmax hd)
  clear hV hlen hd
  go_enter Try.func34, Try.ntmps34
  go_wp2_with fail
  refine HC.out.mono ?_
  rintro e w1 ⟨r, rfl, hr, hr1, hb⟩
  clear HC
  have HR := Lib.hid hr
  clear hr
  go_wp2
  go_ret
  refine ⟨?_, hb⟩
  rw [← HR.out]
  try rfl
  try simp

theorem containsI_any (l : List Int) (a : Option Addr) (len cap : Nat) (w : World) (hV : Arr w.heap.size w a (cellsI l)) (hlen : len = l.length) (hmax : len ≤ 140737488355328) :
    Calls Try.prog 36 #[.slice a len cap, .func (.func 37) #[] #[]] w fun e w' => e = .returned (.bool (!(l.all okPage))) ∧ Below w.heap.size w w' := by
  have HC := Lib.hid (indexI_any l a len cap w hV hlen hmax)
  clear hV hlen
  go_enter Try.func36, Try.ntmps36
  go_wp2_with fail
  refine HC.out.mono ?_
  rintro e w1 ⟨r, rfl, hr, hr1, hb⟩
  clear HC
  have HR := Lib.hid hr
  clear hr
  go_wp2
  go_ret
  refine ⟨?_, hb⟩
  rw [← HR.out]
  try rfl
  try simp

open Classical in
theorem keysOk_yes {l : List ByteArray} (h : KeysOk l) : keysOk l = true := decide_eq_true h
open Classical in
theorem keysOk_no {l : List ByteArray} (h : ¬ KeysOk l) : keysOk l = false := decide_eq_false h

theorem less_yes {p y : ByteArray} (h : lessK p y = true) : Op.bytesLess y.toList p.toList = false ∧ (y.toList == p.toList) = false := by
  unfold lessK at h
  rw [less_lt] at h ⊢
  have h1 : p.toList < y.toList := of_decide_eq_true h
  refine ⟨decide_eq_false (List.lt_asymm h1), ?_⟩
  rw [beq_eq_false_iff_ne]
  intro h2
  rw [h2] at h1
  exact List.lt_irrefl _ h1
theorem less_no {p y : ByteArray} (h : lessK p y = false) : Op.bytesLess y.toList p.toList = true ∨ (Op.bytesLess y.toList p.toList = false ∧ (y.toList == p.toList) = true) := by
  unfold lessK at h
  rw [less_lt] at h ⊢
  have h1 : ¬ p.toList < y.toList := of_decide_eq_false h
  by_cases h2 : y.toList = p.toList
  · exact .inr ⟨decide_eq_false (by rw [h2]; exact List.lt_irrefl _), by simpa using h2⟩
  · exact .inl (decide_eq_true ((list_tri _ _ h2).resolve_right h1))

set_option maxHeartbeats 2000000 in
theorem areKeys_any (l : List ByteArray) (a : Option Addr) (len cap : Nat) (w : World) (hV : Arr w.heap.size w a (cellsS l)) (hlen : len = l.length) (hmax : len ≤ 140737488355328) (hs : ∀ k ∈ l, k.size ≤ 140737488355328) :
    Calls Try.prog 33 #[.slice a len cap] w fun e w' => e = .returned (.bool (keysOk l)) ∧ w = w' := by
  have HV := Lib.hid hV
  have HL := Lib.hid hlen
  have HS := Lib.hid hs
  clear hV hlen hs
  go_enter Try.func33, Try.ntmps33
  go_wp2
  go_loop [7] (fun i => ∃ k : Nat, k ≤ len ∧ i = .int .i64 k ∧ Hid (KeysOk (l.take k))) (fun i => len - (intOf i).toNat)
  case atStart => exact ⟨0, by omega, rfl, by intro i k h; simp at h⟩
  case round =>
    obtain ⟨k, hk, rfl, HI⟩ := hrel
    by_cases hlt : k < len
    · have hkl : k < l.length := by have := HL.out; omega
      obtain ⟨b, o, rfl, hbN, c0⟩ := strAt HV.out hkl
      have hys := HS.out _ (List.getElem_mem hkl)
      have HN1 := Lib.hid (fun h => keysOk_no (KeysOk.len_no hkl h))
      have HN2 := Lib.hid (fun p (hp : l[k - 1]? = some p) h0 h => keysOk_no (KeysOk.less_no hkl hp h0 h))
      have HY := Lib.hid (KeysOk.succ HI.out hkl)
      have HP : Hid (0 < k → ∃ p, l[k - 1]? = some p ∧ w.cell? ⟨b, o + (k - 1), none⟩ = some (.string p)) := by
        intro h0
        obtain ⟨b', o', h, _, c1⟩ := strAt HV.out (show k - 1 < l.length by omega)
        simp only [Option.some.injEq, Addr.mk.injEq] at h
        obtain ⟨rfl, rfl, _⟩ := h
        exact ⟨_, List.getElem?_eq_getElem _, c1⟩
      obtain ⟨y, hy⟩ : ∃ y, y = l[k] := ⟨_, rfl⟩
      rw [← hy] at c0 hys HN1 HN2 HY
      clear hy
      by_cases h100 : y.size ≤ 100
      · have q1 : decide ((100 : Int) < (y.size : Int)) = false := by simp; omega
        by_cases h0 : k = 0
        · subst h0
          have HY2 := HY.out h100 (fun h => absurd h (by omega))
          clear HY HN1 HN2 HP
          rw [Nat.add_zero] at c0
          go_wp2
          go_round
          case rel => exact ⟨1, by omega, by go_num, HY2⟩
          case measure => simp [intOf]; omega
        · obtain ⟨p, hp, c1⟩ := HP.out (by omega)
          have q2 : decide ((0 : Int) < (k : Int)) = true := by simp; omega
          have q3 : 0 < k := by omega
          have hk1 : ((k : Int) - 1) = ((k - 1 : Nat) : Int) := by omega
          cases hl : lessK p y with
          | true =>
            have HY2 := HY.out h100 (fun _ p' hp' => by rw [hp] at hp'; simp at hp'; subst hp'; exact hl)
            have HL2 := Lib.hid hl
            clear HY HN1 HN2 HP hl hp
            obtain ⟨r1, r2⟩ := less_yes HL2.out
            go_wp2
            go_round
            case rel => exact ⟨k + 1, by omega, by go_num, HY2⟩
            case measure => simp [intOf]; omega
          | false =>
            have HN := Lib.hid (HN2.out p hp (by omega) hl)
            have hc := less_no hl
            clear HY HN1 HN2 HP hl hp
            rcases hc with r1 | ⟨r1, r2⟩
            all_goals
              go_wp2
              go_ret
              exact ⟨ret_b HN.out.symm, rfl⟩
      · have q1 : decide ((100 : Int) < (y.size : Int)) = true := by simp; omega
        have HN := Lib.hid (HN1.out h100)
        clear HY HN1 HN2 HP
        go_wp2
        go_ret
        exact ⟨ret_b HN.out.symm, rfl⟩
    · have hk2 : l.take k = l := List.take_of_length_le (by have := HL.out; omega)
      have HR : Hid (keysOk l = true) := keysOk_yes (by have := HI.out; rw [hk2] at this; exact this)
      go_wp2
      go_ret
      exact ⟨ret_b HR.out.symm, rfl⟩
end Go.Proofs.Ytpcgommdlgmknaa

/- A node in memory; the walk of node.Right. -/
namespace Go.Proofs.Ytpcgommdlgmknaa
open Go.RowKit

/-- Where a node's keys, cells and kids lie. -/
structure NB where
  ka : Option Addr
  kl : Nat
  kc : Nat
  ca : Option Addr
  cl : Nat
  cc : Nat
  da : Option Addr
  dl : Nat
  dc : Nat

/-- A node's value. -/
abbrev NB.v (m : NB) (leaf : Bool) : Value := .agg #[.bool leaf, .slice m.ka m.kl m.kc, .slice m.ca m.cl m.cc, .slice m.da m.dl m.dc]

def Cl.fair (c : Cl) : Prop := c.data.size ≤ 140737488355328 ∧ (-9223372036854775808 ≤ c.len ∧ c.len ≤ 9223372036854775807) ∧ (-9223372036854775808 ≤ c.page ∧ c.page ≤ 9223372036854775807)

/-- The node n lies there. -/
structure NAt (w : World) (n : Nd) (m : NB) : Prop where
  hk : m.kl = n.keys.length
  hc : m.cl = n.cells.length
  hd : m.dl = n.kids.length
  kcap : m.kl ≤ m.kc
  ccap : m.cl ≤ m.cc
  dcap : m.dl ≤ m.dc
  kmax : m.kl ≤ 140737488355328
  cmax : m.cl ≤ 140737488355328
  dmax : m.dl ≤ 140737488355328
  karr : Arr w.heap.size w m.ka (cellsS n.keys)
  carr : Arr w.heap.size w m.ca (cellsC n.cells)
  darr : Arr w.heap.size w m.da (cellsI n.kids)
  kfair : ∀ k ∈ n.keys, k.size ≤ 140737488355328
  cfair : ∀ c ∈ n.cells, c.fair
  dfair : ∀ p ∈ n.kids, -9223372036854775808 ≤ p ∧ p ≤ 9223372036854775807

theorem NAt.later {w w' : World} {n : Nd} {m : NB} (h : NAt w n m) (hb : Below w.heap.size w w') : NAt w' n m :=
  ⟨h.hk, h.hc, h.hd, h.kcap, h.ccap, h.dcap, h.kmax, h.cmax, h.dmax, h.karr.later (N := 0) hb, h.carr.later (N := 0) hb, h.darr.later (N := 0) hb, h.kfair, h.cfair, h.dfair⟩

open Classical in
theorem Nd.ok_eq {n : Nd} {b : Bool} (h : n.Ok ↔ b = true) : n.ok = b := by
  unfold Nd.ok
  cases b with
  | true => exact decide_eq_true (h.2 rfl)
  | false => exact decide_eq_false (fun h2 => by simpa using h.1 h2)

theorem keysOk_iff (l : List ByteArray) : keysOk l = true ↔ KeysOk l := by unfold keysOk; simp

set_option maxHeartbeats 4000000 in
theorem NRight_any (n : Nd) (m : NB) (w : World) (h : NAt w n m) :
    Calls Try.prog 15 #[m.v n.leaf] w fun e w' => e = .returned (.bool n.ok) ∧ Below w.heap.size w w' := by
  have HK := Lib.hid (fun W (hb : Below w.heap.size w W) => areKeys_any n.keys m.ka m.kl m.kc W (h.later hb).karr h.hk h.kmax h.kfair)
  have HC := Lib.hid (fun W (hb : Below w.heap.size w W) => containsC_any n.cells m.ca m.cl m.cc W (h.later hb).carr h.hc h.cmax (fun c hc => (h.cfair c hc).1))
  have HD := Lib.hid (fun W (hb : Below w.heap.size w W) => containsI_any n.kids m.da m.dl m.dc W (h.later hb).darr h.hd h.dmax)
  have hE := fun b => Nd.ok_eq (n := n) (b := b)
  have hk := h.hk
  have hc := h.hc
  have hd := h.hd
  have kmax := h.kmax
  have cmax := h.cmax
  have dmax := h.dmax
  clear h
  obtain ⟨leaf, ks, cs, ps⟩ := n
  obtain ⟨ka, kl, kc, ca, cl, cc, da, dl, dc⟩ := m
  simp only [Nd.Ok] at *
  obtain ⟨r1, h1⟩ : ∃ r, keysOk ks = r := ⟨_, rfl⟩
  obtain ⟨r2, h2⟩ : ∃ r, cs.all Cl.ok = r := ⟨_, rfl⟩
  obtain ⟨r3, h3⟩ : ∃ r, ps.all okPage = r := ⟨_, rfl⟩
  rw [h1] at HK
  rw [h2] at HC
  rw [h3] at HD
  have e1 : KeysOk ks ↔ r1 = true := by rw [← h1]; exact (keysOk_iff ks).symm
  have e2 : (∀ c ∈ cs, c.ok = true) ↔ r2 = true := by rw [← h2]; simp
  have e3 : (∀ p ∈ ps, okPage p = true) ↔ r3 = true := by rw [← h3]; simp
  have e4 : ks ≠ [] ↔ 0 < kl := by rw [hk]; cases ks <;> simp
  have e5 : ps = [] ↔ dl = 0 := by rw [hd]; exact List.length_eq_zero_iff.symm
  have e6 : cs = [] ↔ cl = 0 := by rw [hc]; exact List.length_eq_zero_iff.symm
  rw [e1, e2, e3, e4, e5, e6, ← hk, ← hc, ← hd] at hE
  generalize Nd.ok ⟨leaf, ks, cs, ps⟩ = R at *
  clear e1 e2 e3 e4 e5 e6 h1 h2 h3 hk hc hd
  have HR : ∀ b, Hid ((r1 = true ∧ (if leaf = true then cl = kl ∧ dl = 0 ∧ r2 = true else 0 < kl ∧ dl = kl + 1 ∧ cl = 0 ∧ r3 = true)) ↔ b = true) → Hid (R = b) := fun b hb => hE b hb
  clear hE
  cases r1 with
  | false =>
    have HB := HR false (by simp [Hid])
    go_enter Try.func15, Try.ntmps15
    go_wp2_with fail
    refine (HK.out _ (Below.box _ _)).mono ?_
    rintro e w1 ⟨rfl, rfl⟩
    go_wp2
    go_ret
    exact ⟨ret_b HB.out.symm, Below.box _ _⟩
  | true =>
    cases leaf with
    | true =>
      by_cases q1 : cl = kl
      · subst q1
        by_cases q2 : dl = 0
        · subst q2
          have HB := HR r2 (by cases r2 <;> simp [Hid])
          have HB2 := Lib.hid HR
          clear HR
          go_enter Try.func15, Try.ntmps15
          go_wp2_with fail
          refine (HK.out _ (Below.box _ _)).mono ?_
          rintro e w1 ⟨rfl, rfl⟩
          go_wp2_with fail
          refine (HC.out _ (Below.box _ _)).mono ?_
          rintro e w1 ⟨rfl, hb⟩
          go_wp2
          go_ret
          exact ⟨ret_b (by first | (rw [HB.out]; done) | (rw [HB.out]; simp)), (Below.box _ _).trans (hb.mono (by simp))⟩
        · have HB := HR false (by first | (simp [Hid, q2]; done) | (simp [Hid]; omega))
          have q3 : ((dl : Int) == 0) = false := by first | (simp; done) | (simp; omega)
          clear HR
          go_enter Try.func15, Try.ntmps15
          go_wp2_with fail
          refine (HK.out _ (Below.box _ _)).mono ?_
          rintro e w1 ⟨rfl, rfl⟩
          go_wp2
          go_ret
          exact ⟨ret_b (by rw [HB.out]), Below.box _ _⟩
      · have HB := HR false (by first | (simp [Hid, q1]; done) | (simp [Hid]; omega))
        have q3 : ((cl : Int) == (kl : Int)) = false := by first | (simp; done) | (simp; omega)
        clear HR
        go_enter Try.func15, Try.ntmps15
        go_wp2_with fail
        refine (HK.out _ (Below.box _ _)).mono ?_
        rintro e w1 ⟨rfl, rfl⟩
        go_wp2
        go_ret
        exact ⟨ret_b (by rw [HB.out]), Below.box _ _⟩
    | false =>
      by_cases q0 : 0 < kl
      · have q0' : decide ((0 : Int) < (kl : Int)) = true := by first | (simp; done) | (simp; omega)
        by_cases q1 : dl = kl + 1
        · have q1' : ((dl : Int) == (kl : Int) + 1) = true := by first | (simp; done) | (simp; omega)
          by_cases q2 : cl = 0
          · subst q2
            have HB := HR r3 (by simp [Hid, q0, q1])
            clear HR q1
            go_enter Try.func15, Try.ntmps15
            go_wp2_with fail
            refine (HK.out _ (Below.box _ _)).mono ?_
            rintro e w1 ⟨rfl, rfl⟩
            go_wp2_with fail
            refine (HD.out _ (Below.box _ _)).mono ?_
            rintro e w1 ⟨rfl, hb⟩
            go_wp2
            go_ret
            exact ⟨ret_b (by first | (rw [HB.out]; done) | (rw [HB.out]; simp)), (Below.box _ _).trans (hb.mono (by simp))⟩
          · have HB := HR false (by first | (simp [Hid]; done) | (simp [Hid]; omega))
            have q3 : ((cl : Int) == 0) = false := by first | (simp; done) | (simp; omega)
            clear HR q1
            go_enter Try.func15, Try.ntmps15
            go_wp2_with fail
            refine (HK.out _ (Below.box _ _)).mono ?_
            rintro e w1 ⟨rfl, rfl⟩
            go_wp2
            go_ret
            exact ⟨ret_b (by rw [HB.out]), Below.box _ _⟩
        · have HB := HR false (by first | (simp [Hid]; done) | (simp [Hid]; omega))
          have q1' : ((dl : Int) == (kl : Int) + 1) = false := by first | (simp; done) | (simp; omega)
          clear HR
          go_enter Try.func15, Try.ntmps15
          go_wp2_with fail
          refine (HK.out _ (Below.box _ _)).mono ?_
          rintro e w1 ⟨rfl, rfl⟩
          go_wp2
          go_ret
          exact ⟨ret_b (by rw [HB.out]), Below.box _ _⟩
      · have HB := HR false (by first | (simp [Hid]; done) | (simp [Hid]; omega))
        have q0' : decide ((0 : Int) < (kl : Int)) = false := by first | (simp; done) | (simp; omega)
        clear HR
        go_enter Try.func15, Try.ntmps15
        go_wp2_with fail
        refine (HK.out _ (Below.box _ _)).mono ?_
        rintro e w1 ⟨rfl, rfl⟩
        go_wp2
        go_ret
        exact ⟨ret_b (by rw [HB.out]), Below.box _ _⟩
end Go.Proofs.Ytpcgommdlgmknaa

/- The bytes of nodes. -/
namespace Go.Proofs.Ytpcgommdlgmknaa
open Go.RowKit

/-- n in s bytes, the highest first. -/
def beL : Nat → Nat → List Nat
  | 0, _ => []
  | s + 1, n => beL s (n / 256) ++ [n % 256]
/-- The number that bytes make. -/
def valL (l : List Nat) : Nat := l.foldl (fun v c => 256 * v + c) 0

theorem beL_len : ∀ s n, (beL s n).length = s
  | 0, _ => rfl
  | s + 1, n => by simp [beL, beL_len s]
theorem beL_lt : ∀ s n, ∀ c ∈ beL s n, c < 256
  | 0, _, c, h => by simp [beL] at h
  | s + 1, n, c, h => by
    simp [beL] at h
    rcases h with h | h
    · exact beL_lt s _ c h
    · omega
theorem beL_cons : ∀ s n, beL (s + 1) n = (n / 256 ^ s % 256) :: beL s n
  | 0, n => by simp [beL]
  | s + 1, n => by
    rw [beL, beL_cons s (n / 256), beL, List.cons_append, Nat.div_div_eq_div_mul, Nat.pow_succ, Nat.mul_comm 256]
theorem valL_snoc (l : List Nat) (c : Nat) : valL (l ++ [c]) = 256 * valL l + c := by simp [valL]
theorem valL_beL : ∀ s n, valL (beL s n) = n % 256 ^ s
  | 0, n => by simp [beL, valL]; omega
  | s + 1, n => by
    rw [beL, valL_snoc, valL_beL s, Nat.pow_succ, Nat.mul_comm (256 ^ s) 256, Nat.mod_mul]
    omega
theorem rev_ind {P : List Nat → Prop} (h0 : P []) (h1 : ∀ l c, P l → P (l ++ [c])) (l : List Nat) : P l := by
  have : ∀ r : List Nat, P r.reverse := by
    intro r
    induction r with
    | nil => exact h0
    | cons c r ih => rw [List.reverse_cons]; exact h1 _ _ ih
  have h := this l.reverse
  rwa [List.reverse_reverse] at h
theorem beL_valL (l : List Nat) : (∀ c ∈ l, c < 256) → beL l.length (valL l) = l := by
  refine rev_ind (P := fun l => (∀ c ∈ l, c < 256) → beL l.length (valL l) = l) (fun _ => rfl) (fun l c ih h => ?_) l
  have hc := h c (by simp)
  have := ih (fun d hd => h d (by simp [hd]))
  rw [List.length_append, valL_snoc]
  show beL (l.length + 1) _ = _
  rw [beL, show (256 * valL l + c) / 256 = valL l by omega, show (256 * valL l + c) % 256 = c by omega, this]
theorem valL_lt (l : List Nat) : (∀ c ∈ l, c < 256) → valL l < 256 ^ l.length := by
  refine rev_ind (P := fun l => (∀ c ∈ l, c < 256) → valL l < 256 ^ l.length) (fun _ => by simp [valL]) (fun l c ih h => ?_) l
  have hc := h c (by simp)
  have := ih (fun d hd => h d (by simp [hd]))
  rw [List.length_append, valL_snoc]
  show _ < 256 ^ (l.length + 1)
  rw [Nat.pow_succ]; omega

/-- A part's bytes. -/
def encPt (leaf : Bool) (x : Pt) : List Nat :=
  x.key.size :: ((if leaf then beL 2 x.len.toNat else []) ++ (bytesOf x.key ++ (if leaf && decide (x.len ≤ 120) then bytesOf x.data else beL 4 x.page.toNat)))
def headN (n : Rn) : List Nat := (if n.leaf then 1 else 2) :: (beL 2 n.l.length ++ (if n.leaf then [] else beL 4 n.kid.toNat))
def encPs (leaf : Bool) (l : List Pt) : List Nat := l.flatMap (encPt leaf)
/-- A node's bytes. -/
def encN (n : Rn) : List Nat := headN n ++ encPs n.leaf n.l
/-- .. and its page. -/
def pageN (n : Rn) : List Nat := encN n ++ List.replicate (512 - (encN n).length) 0

theorem encPs_snoc (leaf : Bool) (l : List Pt) (x : Pt) : encPs leaf (l ++ [x]) = encPs leaf l ++ encPt leaf x := by simp [encPs]
theorem encPs_take (leaf : Bool) (l : List Pt) (i : Nat) (x : Pt) (h : l[i]? = some x) : encPs leaf (l.take (i + 1)) = encPs leaf (l.take i) ++ encPt leaf x := by
  rw [List.take_add_one, h]; simp [encPs]

/-- The length of a part's bytes. -/
def lenPt (leaf : Bool) (x : Pt) : Nat := 1 + x.key.size + (if leaf then 2 + (if x.len ≤ 120 then x.data.size else 4) else 4)
theorem encPt_len (leaf : Bool) (x : Pt) : (encPt leaf x).length = lenPt leaf x := by
  unfold encPt lenPt
  cases leaf with
  | true =>
    by_cases h : x.len ≤ 120 <;> simp [h, beL_len, bytesOf_len] <;> omega
  | false => simp [beL_len, bytesOf_len]; omega
theorem encPt_pos (leaf : Bool) (x : Pt) : 0 < (encPt leaf x).length := by simp [encPt]
theorem headN_len (n : Rn) : (headN n).length = if n.leaf then 3 else 7 := by
  unfold headN
  cases n.leaf <;> simp [beL_len]

/-- The node's bytes up to some part. -/
theorem encN_len_take (n : Rn) (i : Nat) (x : Pt) (h : n.l[i]? = some x) : (encPs n.leaf (n.l.take (i + 1))).length = (encPs n.leaf (n.l.take i)).length + lenPt n.leaf x := by
  rw [encPs_take _ _ _ _ h, List.length_append, encPt_len]
theorem encPs_le (leaf : Bool) (l : List Pt) (i : Nat) : (encPs leaf (l.take i)).length ≤ (encPs leaf l).length := by
  conv => rhs; rw [← List.take_append_drop i l]
  unfold encPs
  rw [List.flatMap_append, List.length_append]; omega

/-- What is known of a node's parts and what the program has of them. -/
theorem part_leaf {n : Nd} (h : n.shaped = true) (hl : n.leaf = true) : n.asR.leaf = true ∧ n.asR.l.length = n.keys.length ∧ ∀ (i : Nat) x, n.asR.l[i]? = some x → n.keys[i]? = some x.key ∧ n.cells[i]? = some ⟨x.len, x.data, x.page⟩ := by
  have h1 := (asN_asR h).1
  obtain ⟨leaf, ks, cs, ps⟩ := n
  simp only at hl; subst hl
  have hz := zipL_key ks cs (by simp only [Nd.shaped, if_true, decide_eq_true_eq] at h; exact h.1)
  simp only [Nd.asR, if_true]
  refine ⟨trivial, by conv => rhs; rw [← hz.1, List.length_map], fun i x hx => ⟨?_, ?_⟩⟩
  · conv => lhs; rw [← hz.1, List.getElem?_map, hx]
    rfl
  · conv => lhs; rw [← hz.2, List.getElem?_map, hx]
    rfl
theorem part_inner {n : Nd} (h : n.shaped = true) (hl : n.leaf = false) : n.asR.leaf = false ∧ n.asR.l.length = n.keys.length ∧ n.kids[0]? = some n.asR.kid ∧ ∀ (i : Nat) x, n.asR.l[i]? = some x → n.keys[i]? = some x.key ∧ n.kids[i + 1]? = some x.page ∧ x.len = 0 ∧ x.data = ⟨#[]⟩ := by
  obtain ⟨leaf, ks, cs, ps⟩ := n
  simp only at hl; subst hl
  simp only [Nd.shaped, Bool.false_eq_true, if_false, decide_eq_true_eq] at h
  match ps, h with
  | p :: ps, h =>
    have hz := zipI_key ks ps (by simpa using h.1)
    simp only [Nd.asR, Bool.false_eq_true, if_false, List.headD_cons, List.tail_cons]
    refine ⟨trivial, by conv => rhs; rw [← hz.1, List.length_map], by simp, fun i x hx => ⟨?_, ?_, zipI_plain ks ps x (List.mem_of_getElem? hx)⟩⟩
    · conv => lhs; rw [← hz.1, List.getElem?_map, hx]
      rfl
    · rw [List.getElem?_cons_succ]
      conv => lhs; rw [← hz.2, List.getElem?_map, hx]
      rfl

/-- What may be: its bounds. -/
theorem okL_bd {x : Pt} (h : x.okL = true) : 0 ≤ x.len ∧ x.len ≤ 8192 ∧ (x.len ≤ 120 → (x.data.size : Int) = x.len ∧ x.page = 0) ∧ (¬ x.len ≤ 120 → x.data.size = 0 ∧ 1 ≤ x.page ∧ x.page ≤ 4095) := of_decide_eq_true h
theorem okI_bd {x : Pt} (h : x.okI = true) : x.len = 0 ∧ x.data.size = 0 ∧ 1 ≤ x.page ∧ x.page ≤ 4095 := of_decide_eq_true h
theorem Rn.Ok.key {n : Rn} (h : n.Ok) {i : Nat} {x : Pt} (hx : n.l[i]? = some x) : x.key.size ≤ 100 :=
  (h.1 i x.key (by rw [List.getElem?_map, hx]; rfl)).1
theorem Rn.Ok.okL {n : Rn} (h : n.Ok) (hl : n.leaf = true) {x : Pt} (hx : x ∈ n.l) : x.okL = true := by
  have := h.2; rw [hl] at this; exact this.2 x hx
theorem Rn.Ok.okI {n : Rn} (h : n.Ok) (hl : n.leaf = false) {x : Pt} (hx : x ∈ n.l) : x.okI = true := by
  have := h.2; rw [hl] at this; exact this.2.2 x hx
theorem Rn.Ok.lenPt {n : Rn} (h : n.Ok) {i : Nat} {x : Pt} (hx : n.l[i]? = some x) : lenPt n.leaf x ≤ 223 := by
  have hk := h.key hx
  unfold Go.Proofs.Ytpcgommdlgmknaa.lenPt
  cases hl : n.leaf with
  | true =>
    have := okL_bd (h.okL hl (List.mem_of_getElem? hx))
    by_cases h1 : x.len ≤ 120
    · have := (this.2.2.1 h1).1
      simp [h1]; omega
    · simp [h1]; omega
  | false => simp; omega
theorem Rn.Ok.plain {n : Rn} (h : n.Ok) : n.plain := by
  unfold Rn.plain
  have h2 := h.2
  cases hl : n.leaf with
  | true => rw [hl] at h2; exact h2.1
  | false =>
    rw [hl] at h2
    intro p hp
    have := okI_bd (h2.2.2 p hp)
    exact ⟨this.1, ByteArray.ext (Array.size_eq_zero_iff.1 this.2.1)⟩
end Go.Proofs.Ytpcgommdlgmknaa

/- What is read of a node's bytes. -/
namespace Go.Proofs.Ytpcgommdlgmknaa
open Go.RowKit

/-- k bytes from a place on. -/
def cutL (b : List Nat) (at_ k : Nat) : List Nat := (b.drop at_).take k
theorem cutL_len {b : List Nat} {at_ k : Nat} (h : at_ + k ≤ b.length) : (cutL b at_ k).length = k := by
  unfold cutL; rw [List.length_take, List.length_drop]; omega
theorem cutL_lt {b : List Nat} (hb : ∀ c ∈ b, c < 256) (at_ k : Nat) : ∀ c ∈ cutL b at_ k, c < 256 := fun c hc => hb c (List.mem_of_mem_drop (List.mem_of_mem_take hc))
theorem cutL_add (b : List Nat) (at_ k m : Nat) : cutL b at_ (k + m) = cutL b at_ k ++ cutL b (at_ + k) m := by
  unfold cutL
  rw [← List.drop_drop, List.take_add]
theorem cutL_app (A B C : List Nat) : cutL (A ++ (B ++ C)) A.length B.length = B := by
  unfold cutL
  rw [List.drop_left, List.take_left]

/-- A part that begins at a place, and the place behind it. -/
def decP (leaf : Bool) (b : List Nat) (at_ : Nat) : Option (Pt × Nat) :=
  let front := if leaf then 3 else 1
  if b.length < at_ + front then none else
  let k := valL (cutL b at_ 1)
  let len := if leaf then valL (cutL b (at_ + 1) 2) else 0
  let behind := if leaf && decide (len ≤ 120) then len else 4
  if b.length < at_ + front + k + behind then none else
  some (⟨strN (cutL b (at_ + front) k), (len : Int), if leaf && decide (len ≤ 120) then strN (cutL b (at_ + front + k) behind) else ⟨#[]⟩, if leaf && decide (len ≤ 120) then 0 else (valL (cutL b (at_ + front + k) behind) : Int)⟩, at_ + front + k + behind)

/-- The first i parts, and the place behind them. -/
def decs (leaf : Bool) (b : List Nat) (at_ : Nat) : Nat → Option (List Pt × Nat)
  | 0 => some ([], at_)
  | i + 1 => match decs leaf b at_ i with
    | none => none
    | some (l, p) => match decP leaf b p with
      | none => none
      | some (x, q) => some (l ++ [x], q)

theorem bytesOf_strB {l : List Nat} (h : ∀ c ∈ l, c < 256) : bytesOf (strN l) = l := by
  unfold bytesOf strN
  simp only [List.map_map]
  conv => rhs; rw [← List.map_id l]
  apply List.map_congr_left
  intro c hc
  have := h c hc
  simp; omega

theorem decs_len {leaf : Bool} {b : List Nat} {at_ : Nat} : ∀ {i : Nat} {l : List Pt} {p : Nat}, decs leaf b at_ i = some (l, p) → l.length = i
  | 0, l, p, h => by simp [decs] at h; simp [← h.1]
  | i + 1, l, p, h => by
    unfold decs at h
    cases h1 : decs leaf b at_ i with
    | none => rw [h1] at h; simp at h
    | some r =>
      obtain ⟨l', p'⟩ := r
      rw [h1] at h
      cases h2 : decP leaf b p' with
      | none => simp [h2] at h
      | some r2 =>
        obtain ⟨x, q⟩ := r2
        simp [h2] at h
        have := decs_len h1
        simp [← h.1, this]

/-- What was read are its bytes. -/
theorem decP_enc {leaf : Bool} {b : List Nat} (hb : ∀ c ∈ b, c < 256) {at_ q : Nat} {x : Pt} (h : decP leaf b at_ = some (x, q)) : at_ ≤ q ∧ q ≤ b.length ∧ cutL b at_ (q - at_) = encPt leaf x ∧ x.key.size < 256 := by
  have key : ∀ (k front : Nat), k = valL (cutL b at_ 1) → at_ + front ≤ b.length → 1 ≤ front → cutL b at_ 1 = [k] ∧ k < 256 := by
    intro k front hk hf h1
    have hk1 : (cutL b at_ 1).length = 1 := cutL_len (by omega)
    subst hk
    refine ⟨?_, by have := valL_lt _ (cutL_lt hb at_ 1); rw [hk1] at this; simpa using this⟩
    match hc : cutL b at_ 1, hk1 with
    | [c], _ => simp [valL]
  unfold decP at h
  cases leaf with
  | true =>
    simp only [if_true, Bool.true_and] at h
    split at h
    · simp at h
    · rename_i hf
      obtain ⟨hkb, hkl⟩ := key _ 3 rfl (by omega) (by omega)
      have hl2 : (cutL b (at_ + 1) 2).length = 2 := cutL_len (by omega)
      have hlb := beL_valL _ (cutL_lt hb (at_ + 1) 2)
      rw [hl2] at hlb
      generalize hK : valL (cutL b at_ 1) = k at *
      generalize hL : valL (cutL b (at_ + 1) 2) = len at *
      by_cases h120 : len ≤ 120
      · simp only [h120, decide_true, if_true] at h
        split at h
        · simp at h
        · rename_i hs
          simp only [Option.some.injEq, Prod.mk.injEq] at h
          obtain ⟨rfl, rfl⟩ := h
          refine ⟨by omega, by omega, ?_, ?_⟩
          · have e1 : at_ + 3 + k + len - at_ = 1 + (2 + (k + len)) := by omega
            rw [e1, cutL_add, cutL_add, cutL_add, hkb, ← hlb]
            unfold encPt
            have hks : (strN (cutL b (at_ + 3) k)).size = k := by rw [strN_size, cutL_len (by omega)]
            rw [hks, bytesOf_strB (cutL_lt hb _ _)]
            have : decide ((len : Int) ≤ 120) = true := by simp; omega
            simp only [if_true, Bool.true_and, this, Int.toNat_natCast]
            rw [bytesOf_strB (cutL_lt hb _ _)]
            simp [Nat.add_assoc]
          · simp only; rw [strN_size, cutL_len (by omega)]; exact hkl
      · simp only [h120, decide_false, Bool.false_eq_true, if_false] at h
        split at h
        · simp at h
        · rename_i hs
          simp only [Option.some.injEq, Prod.mk.injEq] at h
          obtain ⟨rfl, rfl⟩ := h
          refine ⟨by omega, by omega, ?_, ?_⟩
          · have e1 : at_ + 3 + k + 4 - at_ = 1 + (2 + (k + 4)) := by omega
            have hpb := beL_valL _ (cutL_lt hb (at_ + 3 + k) 4)
            rw [cutL_len (by omega)] at hpb
            rw [e1, cutL_add, cutL_add, cutL_add, hkb, ← hlb]
            unfold encPt
            have hks : (strN (cutL b (at_ + 3) k)).size = k := by rw [strN_size, cutL_len (by omega)]
            rw [hks, bytesOf_strB (cutL_lt hb _ _)]
            have : decide ((len : Int) ≤ 120) = false := by simp; omega
            simp only [if_true, Bool.true_and, this, Int.toNat_natCast, Bool.false_eq_true, if_false]
            rw [hpb]
            simp [Nat.add_assoc]
          · simp only; rw [strN_size, cutL_len (by omega)]; exact hkl
  | false =>
    simp only [Bool.false_eq_true, if_false, Bool.false_and] at h
    split at h
    · simp at h
    · rename_i hf
      obtain ⟨hkb, hkl⟩ := key _ 1 rfl (by omega) (by omega)
      generalize hK : valL (cutL b at_ 1) = k at *
      split at h
      · simp at h
      · rename_i hs
        simp only [Option.some.injEq, Prod.mk.injEq] at h
        obtain ⟨rfl, rfl⟩ := h
        refine ⟨by omega, by omega, ?_, ?_⟩
        · have e1 : at_ + 1 + k + 4 - at_ = 1 + (k + 4) := by omega
          have hpb := beL_valL _ (cutL_lt hb (at_ + 1 + k) 4)
          rw [cutL_len (by omega)] at hpb
          rw [e1, cutL_add, cutL_add, hkb]
          unfold encPt
          have hks : (strN (cutL b (at_ + 1) k)).size = k := by rw [strN_size, cutL_len (by omega)]
          rw [hks, bytesOf_strB (cutL_lt hb _ _)]
          simp only [Bool.false_eq_true, if_false, Bool.false_and, Int.toNat_natCast]
          rw [hpb]
          simp [Nat.add_assoc]
        · simp only; rw [strN_size, cutL_len (by omega)]; exact hkl

theorem decs_enc {leaf : Bool} {b : List Nat} (hb : ∀ c ∈ b, c < 256) {at_ : Nat} (hat : at_ ≤ b.length) : ∀ {i : Nat} {l : List Pt} {q : Nat}, decs leaf b at_ i = some (l, q) → at_ ≤ q ∧ q ≤ b.length ∧ cutL b at_ (q - at_) = encPs leaf l
  | 0, l, q, h => by
    simp [decs] at h
    obtain ⟨rfl, rfl⟩ := h
    exact ⟨by omega, hat, by simp [cutL, encPs]⟩
  | i + 1, l, q, h => by
    unfold decs at h
    cases h1 : decs leaf b at_ i with
    | none => rw [h1] at h; simp at h
    | some r =>
      obtain ⟨l', p'⟩ := r
      rw [h1] at h
      cases h2 : decP leaf b p' with
      | none => simp [h2] at h
      | some r2 =>
        obtain ⟨x, q'⟩ := r2
        simp [h2] at h
        obtain ⟨rfl, rfl⟩ := h
        obtain ⟨i1, i2, i3⟩ := decs_enc hb hat h1
        obtain ⟨j1, j2, j3, _⟩ := decP_enc hb h2
        refine ⟨by omega, j2, ?_⟩
        rw [show q' - at_ = (p' - at_) + (q' - p') by omega, cutL_add, i3, show at_ + (p' - at_) = p' by omega, j3, encPs_snoc]

/-- What was written is read. -/
theorem decP_of (leaf : Bool) (A C : List Nat) (x : Pt) (hk : x.key.size < 256) (hx : if leaf then x.okL = true else x.okI = true) : decP leaf (A ++ (encPt leaf x ++ C)) A.length = some (x, A.length + (encPt leaf x).length) := by
  obtain ⟨key, len, data, page⟩ := x
  cases leaf with
  | true =>
    simp only [if_true] at hx
    obtain ⟨l0, l1, l2, l3⟩ := okL_bd hx
    simp only at l0 l1 l2 l3 hk
    obtain ⟨n, rfl⟩ := Int.eq_ofNat_of_zero_le l0
    have hn : n < 65536 := by omega
    have henc : encPt true ⟨key, n, data, page⟩ = [key.size] ++ (beL 2 n ++ (bytesOf key ++ (if n ≤ 120 then bytesOf data else beL 4 page.toNat))) := by
      unfold encPt
      have : decide ((n : Int) ≤ 120) = decide (n ≤ 120) := decide_eq_decide.2 (by omega)
      simp only [if_true, Bool.true_and, this, decide_eq_true_eq, Int.toNat_natCast, List.singleton_append]
    have c1 : cutL (A ++ (encPt true ⟨key, n, data, page⟩ ++ C)) A.length 1 = [key.size] := by
      rw [henc, List.append_assoc]; exact cutL_app A [key.size] _
    have c2 : cutL (A ++ (encPt true ⟨key, n, data, page⟩ ++ C)) (A.length + 1) 2 = beL 2 n := by
      have := cutL_app (A ++ [key.size]) (beL 2 n) ((bytesOf key ++ (if n ≤ 120 then bytesOf data else beL 4 page.toNat)) ++ C)
      rw [beL_len, List.length_append] at this
      rw [henc]
      simpa [List.append_assoc] using this
    have c3 : cutL (A ++ (encPt true ⟨key, n, data, page⟩ ++ C)) (A.length + 3) key.size = bytesOf key := by
      have := cutL_app (A ++ [key.size] ++ beL 2 n) (bytesOf key) ((if n ≤ 120 then bytesOf data else beL 4 page.toNat) ++ C)
      rw [bytesOf_len, List.length_append, List.length_append, beL_len] at this
      rw [henc]
      simpa [List.append_assoc] using this
    have hv1 : valL [key.size] = key.size := by simp [valL]
    have hv2 : valL (beL 2 n) = n := by rw [valL_beL]; omega
    have hlen : (encPt true ⟨key, n, data, page⟩).length = 3 + key.size + (if n ≤ 120 then data.size else 4) := by
      rw [henc]; simp only [List.length_append, beL_len, bytesOf_len, List.length_singleton]; split <;> simp [bytesOf_len, beL_len] <;> omega
    unfold decP
    simp only [if_true, Bool.true_and, c1, c2, hv1, hv2]
    rw [c3]
    have htot : (A ++ (encPt true ⟨key, n, data, page⟩ ++ C)).length = A.length + (3 + key.size + (if n ≤ 120 then data.size else 4)) + C.length := by
      rw [List.length_append, List.length_append, hlen]; omega
    by_cases h120 : n ≤ 120
    · obtain ⟨d1, d2⟩ := l2 (by omega)
      have d1' : data.size = n := by omega
      subst d2
      have c4 : cutL (A ++ (encPt true ⟨key, n, data, 0⟩ ++ C)) (A.length + 3 + key.size) n = bytesOf data := by
        have := cutL_app (A ++ [key.size] ++ beL 2 n ++ bytesOf key) (bytesOf data) C
        rw [bytesOf_len, List.length_append, List.length_append, List.length_append, beL_len, bytesOf_len, d1'] at this
        rw [henc, if_pos h120]
        simpa [List.append_assoc] using this
      rw [if_pos h120] at htot hlen
      simp only [h120, decide_true, if_true]
      rw [if_neg (by omega), if_neg (by omega), c4, hlen, strN_bytesOf, strN_bytesOf]
      simp; omega
    · obtain ⟨d1, d2, d3⟩ := l3 (by omega)
      have d0 : data = ⟨#[]⟩ := ByteArray.ext (Array.size_eq_zero_iff.1 d1)
      have c4 : cutL (A ++ (encPt true ⟨key, n, data, page⟩ ++ C)) (A.length + 3 + key.size) 4 = beL 4 page.toNat := by
        have := cutL_app (A ++ [key.size] ++ beL 2 n ++ bytesOf key) (beL 4 page.toNat) C
        rw [beL_len, List.length_append, List.length_append, List.length_append, beL_len, bytesOf_len] at this
        rw [henc, if_neg h120]
        simpa [List.append_assoc] using this
      have hv4 : valL (beL 4 page.toNat) = page.toNat := by rw [valL_beL]; omega
      rw [if_neg h120] at htot hlen
      simp only [h120, decide_false, Bool.false_eq_true, if_false]
      rw [if_neg (by omega), if_neg (by omega), c4, hlen, strN_bytesOf, hv4, d0]
      simp; omega
  | false =>
    simp only [Bool.false_eq_true, if_false] at hx
    obtain ⟨l0, l1, l2, l3⟩ := okI_bd hx
    simp only at l0 l1 l2 l3 hk
    have d0 : data = ⟨#[]⟩ := ByteArray.ext (Array.size_eq_zero_iff.1 l1)
    subst l0 d0
    have henc : encPt false ⟨key, 0, ⟨#[]⟩, page⟩ = [key.size] ++ (bytesOf key ++ beL 4 page.toNat) := by
      unfold encPt; simp
    have c1 : cutL (A ++ (encPt false ⟨key, 0, ⟨#[]⟩, page⟩ ++ C)) A.length 1 = [key.size] := by
      rw [henc, List.append_assoc]; exact cutL_app A [key.size] _
    have c3 : cutL (A ++ (encPt false ⟨key, 0, ⟨#[]⟩, page⟩ ++ C)) (A.length + 1) key.size = bytesOf key := by
      have := cutL_app (A ++ [key.size]) (bytesOf key) (beL 4 page.toNat ++ C)
      rw [bytesOf_len, List.length_append] at this
      rw [henc]
      simpa [List.append_assoc] using this
    have c4 : cutL (A ++ (encPt false ⟨key, 0, ⟨#[]⟩, page⟩ ++ C)) (A.length + 1 + key.size) 4 = beL 4 page.toNat := by
      have := cutL_app (A ++ [key.size] ++ bytesOf key) (beL 4 page.toNat) C
      rw [beL_len, List.length_append, List.length_append, bytesOf_len] at this
      rw [henc]
      simpa [List.append_assoc] using this
    have hv1 : valL [key.size] = key.size := by simp [valL]
    have hv4 : valL (beL 4 page.toNat) = page.toNat := by rw [valL_beL]; omega
    have hlen : (encPt false ⟨key, 0, ⟨#[]⟩, page⟩).length = 1 + key.size + 4 := by
      rw [henc]; simp only [List.length_append, beL_len, bytesOf_len, List.length_singleton]; omega
    have htot : (A ++ (encPt false ⟨key, 0, ⟨#[]⟩, page⟩ ++ C)).length = A.length + (1 + key.size + 4) + C.length := by
      rw [List.length_append, List.length_append, hlen]; omega
    unfold decP
    simp only [Bool.false_eq_true, if_false, Bool.false_and, c1, hv1]
    rw [c3, c4, hv4, if_neg (by omega), if_neg (by omega), hlen, strN_bytesOf]
    simp; omega

theorem decs_of (leaf : Bool) (A C : List Nat) (l : List Pt) (hk : ∀ x ∈ l, x.key.size < 256 ∧ (if leaf then x.okL = true else x.okI = true)) : ∀ i, i ≤ l.length → decs leaf (A ++ (encPs leaf l ++ C)) A.length i = some (l.take i, A.length + (encPs leaf (l.take i)).length)
  | 0, _ => by simp [decs, encPs]
  | i + 1, h => by
    have ih := decs_of leaf A C l hk i (by omega)
    have hi := List.getElem?_eq_getElem (show i < l.length by omega)
    have hm := hk l[i] (List.getElem_mem (by omega))
    have e : A ++ (encPs leaf l ++ C) = (A ++ encPs leaf (l.take i)) ++ (encPt leaf l[i] ++ (encPs leaf (l.drop (i + 1)) ++ C)) := by
      have e1 : encPs leaf l = encPs leaf (l.take i) ++ (encPt leaf l[i] ++ encPs leaf (l.drop (i + 1))) := by
        conv => lhs; rw [← List.take_append_drop i l, List.drop_eq_getElem_cons (show i < l.length by omega)]
        simp only [encPs, List.flatMap_append, List.flatMap_cons]
      rw [e1]
      simp only [List.append_assoc]
    have h2 := decP_of leaf (A ++ encPs leaf (l.take i)) (encPs leaf (l.drop (i + 1)) ++ C) l[i] hm.1 hm.2
    rw [← e, List.length_append] at h2
    unfold decs
    rw [ih]
    simp only [h2]
    rw [List.take_add_one, hi, Option.toList_some, encPs_snoc, List.length_append]
    simp; omega
end Go.Proofs.Ytpcgommdlgmknaa

/- What a call may change: footprints; blocks that are known whole; regions that draw their order and write memory of their own. -/
namespace Go.Proofs.Ytpcgommdlgmknaa
open Go.RowKit

/-- But for the blocks S the world w' is as w was. -/
structure Chg (S : List Nat) (w w' : World) : Prop where
  os : w'.os = w.os
  tape : w'.tape = w.tape
  output : w'.output = w.output
  size : w.heap.size ≤ w'.heap.size
  block : ∀ k, k < w.heap.size → k ∉ S → w'.heap[k]? = w.heap[k]?

/-- Of the blocks S' each is of S or new. -/
def Frsh (w : World) (S S' : List Nat) : Prop := ∀ k, k ∈ S' → k ∈ S ∨ w.heap.size ≤ k

theorem Frsh.refl (w : World) (S : List Nat) : Frsh w S S := fun _ h => .inl h
theorem Chg.refl (S : List Nat) (w : World) : Chg S w w := ⟨rfl, rfl, rfl, Nat.le_refl _, fun _ _ _ => rfl⟩
theorem Chg.trans' {S S1 : List Nat} {a b c : World} (h : Chg S a b) (f : Frsh a S S1) (k : Chg S1 b c) : Chg S a c :=
  ⟨k.os.trans h.os, k.tape.trans h.tape, k.output.trans h.output, Nat.le_trans h.size k.size, fun i hi hn => (k.block i (Nat.lt_of_lt_of_le hi h.size) (fun hm => by rcases f i hm with h1 | h1; exact hn h1; omega)).trans (h.block i hi hn)⟩
theorem Chg.trans {S : List Nat} {a b c : World} (h : Chg S a b) (k : Chg S b c) : Chg S a c := h.trans' (Frsh.refl _ _) k
theorem Frsh.trans {S S1 S2 : List Nat} {a b : World} (f : Frsh a S S1) (h : a.heap.size ≤ b.heap.size) (g : Frsh b S1 S2) : Frsh a S S2 := fun k hk => by
  rcases g k hk with h1 | h1
  · exact f k h1
  · exact .inr (by omega)
theorem Frsh.sub {w : World} {S S' : List Nat} (h : ∀ k ∈ S', k ∈ S) : Frsh w S S' := fun k hk => .inl (h k hk)
theorem Chg.sub {S T : List Nat} {a b : World} (h : Chg S a b) (hs : ∀ k ∈ S, k ∈ T) : Chg T a b := ⟨h.os, h.tape, h.output, h.size, fun k hk hn => h.block k hk (fun hm => hn (hs k hm))⟩
theorem Chg.drew {S : List Nat} {a w : World} (h : Chg S a w) : Chg S a w.drew := ⟨h.os, h.tape, h.output, h.size, h.block⟩
theorem Chg.undrew {S : List Nat} {a w : World} (h : Chg S a.drew w) : Chg S a w := ⟨h.os, h.tape, h.output, h.size, h.block⟩
theorem Chg.alloc {S : List Nat} {a w : World} (h : Chg S a w) (o : Obj) : Chg S a (w.alloc o) :=
  h.trans ⟨rfl, rfl, rfl, by simp, fun k hk _ => Below.heap_alloc _ _ _ hk⟩
theorem Chg.setCell {S : List Nat} {a w : World} (h : Chg S a w) {b o : Nat} (hb : b ∈ S ∨ a.heap.size ≤ b) (u : Value) : Chg S a (w.setCell ⟨b, o, none⟩ u) :=
  ⟨h.os, h.tape, h.output, by simpa [World.setCell] using h.size, fun k hk hn => (Below.heap_setCell w ⟨b, o, none⟩ u k (fun e => by
    have e' : k = b := e
    rcases hb with hb | hb
    · exact hn (e' ▸ hb)
    · omega)).trans (h.block k hk hn)⟩
theorem Below.chg {N : Nat} {w w' : World} (h : Below N w w') {S : List Nat} (hN : ∀ k, N ≤ k → k < w.heap.size → k ∈ S) : Chg S w w' :=
  ⟨h.os, h.tape, h.output, h.size, fun k hk hn => h.block k (by
    rcases Nat.lt_or_ge k N with h1 | h1
    · exact h1
    · exact absurd (hN k h1 hk) hn)⟩
theorem Below.chg0 {w w' : World} (h : Below w.heap.size w w') (S : List Nat) : Chg S w w' := Below.chg h fun k h1 h2 => absurd h2 (by omega)
theorem Chg.below {S : List Nat} {w w' : World} (h : Chg S w w') {N : Nat} (hN : N ≤ w.heap.size) (hS : ∀ k ∈ S, N ≤ k) : Below N w w' :=
  ⟨h.os, h.tape, h.output, h.size, fun k hk => h.block k (by omega) (fun hm => by have := hS k hm; omega)⟩
theorem Chg.cell {S : List Nat} {w w' : World} (h : Chg S w w') {b o : Nat} (hb : b < w.heap.size) (hn : b ∉ S) : w'.cell? ⟨b, o, none⟩ = w.cell? ⟨b, o, none⟩ :=
  World.cell?_of_block (w := w) (a := ⟨b, o, none⟩) (h.block b hb hn)
theorem Chg.frozen {S : List Nat} {w w' : World} (h : Chg S w w') {b o : Nat} (hb : b < w.heap.size) (hn : b ∉ S) : w'.frozen? ⟨b, o, none⟩ = w.frozen? ⟨b, o, none⟩ :=
  World.frozen?_of_block (w := w) (a := ⟨b, o, none⟩) (h.block b hb hn)

/-- Block g is just these cells. -/
def Blk (w : World) (g : Nat) (t : TypeId) (cs : Array Value) : Prop := w.heap[g]? = some (.cells cs t (0, 0))
section
variable {w w' : World} {g : Nat} {t : TypeId} {cs : Array Value}
theorem Blk.lt (h : Blk w g t cs) : g < w.heap.size := by
  rcases Nat.lt_or_ge g w.heap.size with hlt | hge
  · exact hlt
  · unfold Blk at h; rw [Array.getElem?_eq_none hge] at h; cases h
theorem Blk.cell (h : Blk w g t cs) (i : Nat) : w.cell? ⟨g, i, none⟩ = cs[i]? := cell_of_row w g i cs t (0, 0) h
theorem Blk.frozen (h : Blk w g t cs) (i : Nat) : w.frozen? ⟨g, i, none⟩ = false := frozen_of_row w g i cs t h
theorem Blk.new (w : World) (t : TypeId) (cs : Array Value) : Blk (w.alloc (.cells cs t)) w.heap.size t cs := heap_alloc_new w _
theorem Blk.drew (h : Blk w g t cs) : Blk w.drew g t cs := h
theorem Blk.alloc (h : Blk w g t cs) (o : Obj) : Blk (w.alloc o) g t cs := (Below.heap_alloc w o g h.lt).trans h
theorem Blk.set_ (h : Blk w g t cs) (i : Nat) (u : Value) : Blk (w.setCell ⟨g, i, none⟩ u) g t (cs.setIfInBounds i u) := by
  unfold Blk at h ⊢
  simp [World.setCell, Array.getElem?_modify, h]
theorem Blk.far (h : Blk w g t cs) {b o : Nat} (hp : g ≠ b) (u : Value) : Blk (w.setCell ⟨b, o, none⟩ u) g t cs := (Below.heap_setCell w ⟨b, o, none⟩ u g hp).trans h
theorem Blk.chg {S : List Nat} (h : Blk w g t cs) (hc : Chg S w w') (hn : g ∉ S) : Blk w' g t cs := (hc.block g h.lt hn).trans h
theorem Blk.ne_ {g' : Nat} {t' : TypeId} {cs' : Array Value} (h : Blk w g t cs) (h' : Blk w g' t' cs') (hne : t ≠ t') : g ≠ g' := by
  rintro rfl
  unfold Blk at h h'
  rw [h] at h'
  injection h' with h'
  injection h' with _ ht
  exact hne ht
end

/-- Block g is a map with these entries. -/
def MapB (w : World) (g : Nat) (es : Array MapEntry) (clk : Nat) : Prop := w.heap[g]? = some (.map es clk)
theorem MapB.lt {w : World} {g clk : Nat} {es : Array MapEntry} (h : MapB w g es clk) : g < w.heap.size := by
  rcases Nat.lt_or_ge g w.heap.size with hlt | hge
  · exact hlt
  · unfold MapB at h; rw [Array.getElem?_eq_none hge] at h; cases h
theorem MapB.ne_blk {w : World} {g clk g' : Nat} {es : Array MapEntry} {t : TypeId} {cs : Array Value} (h : MapB w g es clk) (h' : Blk w g' t cs) : g ≠ g' := by
  rintro rfl
  unfold MapB at h; unfold Blk at h'
  rw [h] at h'
  injection h' with h'
  cases h'
theorem MapB.chg {S : List Nat} {w w' : World} {g clk : Nat} {es : Array MapEntry} (h : MapB w g es clk) (hc : Chg S w w') (hn : g ∉ S) : MapB w' g es clk := (hc.block g h.lt hn).trans h
theorem MapB.setCell {w : World} {g clk b o : Nat} {es : Array MapEntry} (h : MapB w g es clk) (u : Value) : MapB (w.setCell ⟨b, o, none⟩ u) g es clk := by
  unfold MapB at h ⊢
  simp only [World.setCell, Array.getElem?_modify]
  split
  · rw [h]; rfl
  · exact h

/-- The world with another object in block g. -/
def putObj (w : World) (g : Nat) (o : Obj) : World := { w with heap := w.heap.setIfInBounds g o }
theorem putObj_size (w : World) (g : Nat) (o : Obj) : (putObj w g o).heap.size = w.heap.size := by simp [putObj]
theorem putObj_same {w : World} {g : Nat} (o : Obj) (h : g < w.heap.size) : (putObj w g o).heap[g]? = some o := by
  simp [putObj, h]
theorem putObj_other (w : World) (g k : Nat) (o : Obj) (h : k ≠ g) : (putObj w g o).heap[k]? = w.heap[k]? := by
  simp only [putObj]
  rw [Array.getElem?_setIfInBounds_ne (by omega)]
theorem Chg.putObj {S : List Nat} {a w : World} (h : Chg S a w) {g : Nat} (hg : g ∈ S ∨ a.heap.size ≤ g) (o : Obj) : Chg S a (putObj w g o) :=
  ⟨h.os, h.tape, h.output, by rw [putObj_size]; exact h.size, fun k hk hn => (putObj_other w g k o (fun e => by
    subst e
    rcases hg with hb | hb
    · exact hn hb
    · omega)).trans (h.block k hk hn)⟩

/-! A region that draws its order and has a last operation of its own that waits for all others. -/
section
variable {P : Program} {ops : Array Oper} {Q : Exit → Act → World → Prop} {md : Region.Mode}

/-- Whatever order is picked; S holds behind each operation but number x. -/
def wpAnyX (P : Program) (md : Region.Mode) (ops : Array Oper) (Q : Exit → Act → World → Prop) (x : Nat) (S : World → Prop) : Nat → Array Bool → Act → World → Prop
  | 0, l, a, w => Region.ready md ops l = [] ∧ Q .normal a w
  | n + 1, l, a, w => (Region.ready md ops l = [] → Q .normal a w) ∧
      ∀ i, i ∈ Region.ready md ops l → wpOp P ops Q i (fun a' w' => (i ≠ x → S w') ∧ wpAnyX P md ops Q x S n (l.setIfInBounds i true) a' w') a w

theorem wpAny_of_X {x : Nat} {S : World → Prop} : ∀ (n : Nat) (l : Array Bool) (a : Act) (w : World), wpAnyX P md ops Q x S n l a w → wpAny P md ops Q n l a w
  | 0, _, _, _, h => h
  | n + 1, _, _, _, h => ⟨h.1, fun i hi => wpOp_mono (fun a' w' h' => wpAny_of_X n _ a' w' h'.2) (h.2 i hi)⟩

/-- Does operation x wait for operation i, be it through others? -/
def waitsN (md : Region.Mode) (ops : Array Oper) (i : Nat) : Nat → Nat → Bool
  | 0, _ => false
  | n + 1, x => match ops[x]? with
    | some ox => ox.after.any fun e => Region.binds md e && (e.on == i || waitsN md ops i n e.on)
    | none => false

/-- What has come up had all that it waits for come up before it. -/
def Closed (md : Region.Mode) (ops : Array Oper) (l : Array Bool) : Prop :=
  ∀ (k : Nat) (ok : Oper), ops[k]? = some ok → l.getD k false = true → ∀ e, e ∈ ok.after → Region.binds md e = true → l.getD e.on false = true

theorem Closed.waits {l : Array Bool} (hc : Closed md ops l) {i : Nat} : ∀ (n x : Nat) (ox : Oper), ops[x]? = some ox → (∀ e, e ∈ ox.after → Region.binds md e = true → l.getD e.on false = true) → waitsN md ops i n x = true → l.getD i false = true
  | 0, _, _, _, _, h => by simp [waitsN] at h
  | n + 1, x, ox, ho, hd, h => by
    unfold waitsN at h
    rw [ho] at h
    simp only [Array.any_eq_true', Bool.and_eq_true, Bool.or_eq_true, beq_iff_eq] at h
    obtain ⟨e, he, hb, h⟩ := h
    rcases h with h | h
    · rw [← h]; exact hd e he hb
    · have hl := hd e he hb
      cases hy : ops[e.on]? with
      | none =>
        cases n with
        | zero => simp [waitsN] at h
        | succ n => unfold waitsN at h; rw [hy] at h; cases h
      | some oy => exact Closed.waits hc n e.on oy hy (hc e.on oy hy hl) h

theorem Closed.set_ {l : Array Bool} (hc : Closed md ops l) {j : Nat} (hj : j ∈ Region.ready md ops l) : Closed md ops (l.setIfInBounds j true) := by
  intro k ok hk hl e he hb
  obtain ⟨hjun, oj, hoj, hall⟩ := mem_ready.1 hj
  by_cases hkj : j = k
  · subst hkj
    rw [hk] at hoj
    obtain rfl := Option.some.inj hoj
    exact getD_set_true (hall e he hb)
  · rw [getD_set_ne false hkj] at hl
    exact getD_set_true (hc k ok hk hl e he hb)

theorem closed_none (n : Nat) : Closed md ops (Array.replicate n false) := by
  intro k ok _ hl
  exfalso
  rw [Array.getD_eq_getD_getElem?, Array.getElem?_replicate] at hl
  split at hl <;> simp at hl

theorem wpAnyX_first {x i : Nat} {S : World → Prop} {oi : Oper} {v : Value} (hi : ops[i]? = some oi) (hsel : ∀ (j : Nat) (o : Oper) cs b, ops[j]? = some o → o.op ≠ .select cs b)
    (hQ : ∀ c (a : Act) w, Q (.panic c) (a.put oi.dst v) w → Q (.panic c) a w) (hix : i ≠ x) (m : Nat) (hxi : waitsN md ops i m x = true) :
    ∀ (n : Nat) (l : Array Bool) (a : Act) (w : World), Closed md ops l →
      (∀ j oj, ops[j]? = some oj → j ≠ i → l.getD j true = false → (∀ e ∈ oj.after, Region.binds md e = true → e.on ≠ i) → oi.apart ops oj = true) →
      i ∈ Region.ready md ops l → YieldsIf P ops S oi v a → S w →
      wpAnyX P md ops Q x S n (l.setIfInBounds i true) (a.put oi.dst v) w → wpAnyX P md ops Q x S (n + 1) l a w
  | n, l, a, w, hcl, hfree, hr, hy, hS, H => by
    refine ⟨fun h => absurd hr (by rw [h]; simp), fun j hj => ?_⟩
    by_cases hji : j = i
    · subst hji
      exact hy.wpOp hi hS ⟨fun _ => hS, H⟩
    obtain ⟨hjun, oj, hoj, hall⟩ := mem_ready.1 hj
    have hnot : ∀ e ∈ oj.after, Region.binds md e = true → e.on ≠ i := by
      intro e he hb heq
      have h1 := hall e he hb
      have h0 := (mem_ready.1 hr).1
      rw [heq] at h1
      by_cases hlt : i < l.size
      · simp [hlt] at h0 h1
        rw [h0] at h1
        cases h1
      · simp [Array.getElem?_eq_none (Nat.le_of_not_lt hlt)] at h1
    have hjx : j ≠ x := by
      rintro rfl
      have h1 := hcl.waits m j oj hoj hall hxi
      have h0 := (mem_ready.1 hr).1
      by_cases hlt : i < l.size
      · simp [hlt] at h0 h1
        rw [h0] at h1
        cases h1
      · simp [Array.getElem?_eq_none (Nat.le_of_not_lt hlt)] at h1
    match n, H with
    | 0, H =>
      have := ready_mono hj hji
      rw [H.1] at this
      cases this
    | n + 1, H =>
      have h1 := H.2 j (ready_mono hj hji)
      have h2 := wpOp_putIf hoj (hfree j oj hoj hji hjun hnot) (fun cs b => hsel i oi cs b hi) (fun cs b => hsel j oj cs b hoj) hQ hy h1
      refine wpOp_mono (fun a' w' h3 => ⟨fun _ => h3.2.1 hjx, ?_⟩) h2
      refine wpAnyX_first hi hsel hQ hix m hxi n _ a' w' (hcl.set_ hj) ?_ (ready_mono hr (Ne.symm hji)) h3.1 (h3.2.1 hjx) ?_
      · intro k ok hk hki hun hno
        refine hfree k ok hk hki ?_ hno
        by_cases hjk : j = k
        · subst hjk; exact hjun
        · rw [getD_set_ne true hjk] at hun; exact hun
      · rw [Array.setIfInBounds_comm _ _ hji]
        exact h3.2.2

theorem wpAnyX_stronger {x : Nat} {S S' : World → Prop} (hS : ∀ w, S' w → S w) : ∀ (n : Nat) (l : Array Bool) (a : Act) (w : World), wpAnyX P md ops Q x S' n l a w → wpAnyX P md ops Q x S n l a w
  | 0, _, _, _, h => h
  | n + 1, _, _, _, h => ⟨h.1, fun i hi => wpOp_mono (fun _ _ h' => ⟨fun hx => hS _ (h'.1 hx), wpAnyX_stronger hS n _ _ _ h'.2⟩) (h.2 i hi)⟩

/-- An order for such a region: at its end comes operation x. -/
def wpOX (P : Program) (ops : Array Oper) (Q : Exit → Act → World → Prop) (L : World → World → Prop) (x : Nat) : List (Nat × Bool) → Act → World → Prop
  | [], a, w => wpOp P ops Q x (fun a' w' => Q .normal a' w') a w
  | (i, true) :: r, a, w => ∃ o v, ops[i]? = some o ∧ YieldsIf P ops (L w) o v a ∧ wpOX P ops Q L x r (a.put o.dst v) w
  | (i, false) :: r, a, w => wpOp P ops Q i (fun a' w' => L w w' ∧ wpOX P ops Q L x r a' w') a w

def waitsB (md : Region.Mode) (ops : Array Oper) (x i : Nat) : Bool := i != x && waitsN md ops i ops.size x

def checkX (md : Region.Mode) (ops : Array Oper) (x : Nat) : List (Nat × Bool) → Array Bool → Bool
  | [], l => Region.ready md ops l == [x] && Region.ready md ops (l.setIfInBounds x true) == []
  | (i, true) :: r, l => waitsB md ops x i && (Region.free md ops l i && (Region.ready md ops l).contains i && checkX md ops x r (l.setIfInBounds i true))
  | (i, false) :: r, l => i != x && Region.ready md ops l == [i] && checkX md ops x r (l.setIfInBounds i true)

theorem wpOX_sound {L : World → World → Prop} {x : Nat} (Lr : ∀ w, L w w) (Lt : ∀ {a b c}, L a b → L b c → L a c) (hs : Region.noSelect ops = true) (hQ : ∀ c (a : Act) d v w, Q (.panic c) (a.put d v) w → Q (.panic c) a w) :
    ∀ (ord : List (Nat × Bool)) (n : Nat) (l : Array Bool) (a : Act) (w : World), ord.length + 1 ≤ n → Closed md ops l → checkX md ops x ord l = true → wpOX P ops Q L x ord a w → wpAnyX P md ops Q x (L w) n l a w
  | [], n, l, a, w, hn, hcl, hc, h => by
    simp only [checkX, Bool.and_eq_true, beq_iff_eq] at hc
    match n, hn with
    | n + 1, _ =>
      refine ⟨fun h0 => absurd hc.1 (by rw [h0]; simp), fun j hj => ?_⟩
      rw [hc.1] at hj
      obtain rfl := List.mem_singleton.1 hj
      refine wpOp_mono (fun a' w' h' => ⟨fun hx => absurd rfl hx, ?_⟩) h
      cases n with
      | zero => exact ⟨hc.2, h'⟩
      | succ n => exact ⟨fun _ => h', fun k hk => absurd hk (by rw [hc.2]; simp)⟩
  | (i, true) :: r, n, l, a, w, hn, hcl, hc, h => by
    obtain ⟨o, v, ho, hy, h⟩ := h
    simp only [checkX, Bool.and_eq_true] at hc
    have hri : i ∈ Region.ready md ops l := by simpa using hc.2.1.2
    match n, hn with
    | n + 1, hn =>
      have hw := hc.1
      unfold waitsB at hw
      simp only [Bool.and_eq_true, bne_iff_ne, ne_eq] at hw
      exact wpAnyX_first ho (Region.noSelect_spec hs) (fun c a w => hQ c a o.dst v w) hw.1 ops.size hw.2 n l a w hcl (Region.free_spec ho hc.2.1.1) hri hy (Lr w) (wpOX_sound Lr Lt hs hQ r n _ _ w (by simpa using hn) (hcl.set_ hri) hc.2.2 h)
  | (i, false) :: r, n, l, a, w, hn, hcl, hc, h => by
    simp only [checkX, Bool.and_eq_true, beq_iff_eq, bne_iff_ne, ne_eq] at hc
    match n, hn with
    | n + 1, hn =>
      refine ⟨fun h0 => absurd hc.1.2 (by rw [h0]; simp), fun j hj => ?_⟩
      rw [hc.1.2] at hj
      obtain rfl := List.mem_singleton.1 hj
      exact wpOp_mono (fun a' w' h' => ⟨fun _ => h'.1, wpAnyX_stronger (fun y hy => Lt h'.1 hy) n _ _ _ (wpOX_sound Lr Lt hs hQ r n _ a' w' (by simpa using hn) (hcl.set_ (by rw [hc.1.2]; simp)) hc.2 h'.2)⟩) h

/-- The beginning, where blocks S may be written, the last operation apart. -/
theorem wp_region_ordX {id : Nat} {a : Act} {w : World} (S : List Nat) (x : Nat) (ord : List (Nat × Bool)) (hm : P.follows .mixedOrders = true) (hs : Region.noSelect ops = true)
    (hl : decide (ord.length + 1 ≤ ops.size) = true) (hc : checkX .any ops x ord (Array.replicate ops.size false) = true) (h : wpOX P ops (NoPanic Q) (Chg S) x ord a w.drew) : (Code.region id ops true).wp P Q a w :=
  wp_region_noPanic (wp_region_any hm (wpAny_of_X _ _ _ _ (wpOX_sound (Chg.refl S) Chg.trans hs (NoPanic.put Q) ord ops.size _ a w.drew (of_decide_eq_true hl) (closed_none _) hc h)))

/-- The beginning, where blocks S may be written. -/
theorem wp_region_ordS {id : Nat} {a : Act} {w : World} (S : List Nat) (ord : List (Nat × Bool)) (hm : P.follows .mixedOrders = true) (hs : Region.noSelect ops = true)
    (hl : decide (ord.length ≤ ops.size) = true) (hc : checkO .any ops ord (Array.replicate ops.size false) = true) (h : wpO P ops (NoPanic Q) (Chg S) ord a w.drew) : (Code.region id ops true).wp P Q a w :=
  wp_region_noPanic (wp_region_held hm (wpO_sound (Chg.refl S) Chg.trans hs (NoPanic.put Q) ord ops.size _ a w.drew (of_decide_eq_true hl) hc h))

variable {L : World → World → Prop}
theorem wpOX_F {x i : Nat} {r : List (Nat × Bool)} {a : Act} {w : World} {o : Oper} {v : Value} (ho : nth ops.toList i = some o) (hw : Region.wanted o (yielded ops a.tmps) = true)
    (hv : ∀ w', L w w' → (execOp a.eval o).run P w' = .ok (.value v) w') (h : wpOX P ops Q L x r (a.put o.dst v) w) : wpOX P ops Q L x ((i, true) :: r) a w :=
  ⟨o, v, nth_ops ho, .inl ⟨hw, hv⟩, h⟩
theorem wpOX_G (Lr : ∀ w, L w w) {x i : Nat} {b : Bool} {r : List (Nat × Bool)} {a : Act} {w : World} {o : Oper} (ho : nth ops.toList i = some o) (hw : Region.wanted o (yielded ops a.tmps) = false)
    (h : wpOX P ops Q L x r (a.put o.dst undef) w) : wpOX P ops Q L x ((i, b) :: r) a w := by
  cases b with
  | true => exact ⟨o, undef, nth_ops ho, .inr ⟨hw, rfl⟩, h⟩
  | false =>
    show wpOp P ops Q i _ a w
    unfold wpOp
    simp only [nth_ops ho, hw]
    exact ⟨Lr w, h⟩
theorem wpOX_C {x i : Nat} {r : List (Nat × Bool)} {a : Act} {w : World} {o : Oper} (ho : nth ops.toList i = some o) (hw : Region.wanted o (yielded ops a.tmps) = true)
    (h : o.wp P a w (fun a' w' => L w w' ∧ wpOX P ops Q L x r a' w') Q) : wpOX P ops Q L x ((i, false) :: r) a w := by
  show wpOp P ops Q i _ a w
  unfold wpOp
  simp only [nth_ops ho, hw]
  exact .inl h
theorem wpOX_end {x : Nat} {a : Act} {w : World} {o : Oper} (ho : nth ops.toList x = some o) (hw : Region.wanted o (yielded ops a.tmps) = true)
    (h : o.wp P a w (fun a' w' => Q .normal a' w') Q) : wpOX P ops Q L x [] a w := by
  show wpOp P ops Q x _ a w
  unfold wpOp
  simp only [nth_ops ho, hw]
  exact .inl h
end
attribute [irreducible] wpOX
end Go.Proofs.Ytpcgommdlgmknaa
