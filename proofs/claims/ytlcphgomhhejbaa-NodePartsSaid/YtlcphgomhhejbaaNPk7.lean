/- Several texts of one proof, one behind the other. -/
import Derived.Test.YtlcphgomhhejbaaNPk6

/- A node in memory; the walk of node.Right. -/
namespace Go.Proofs.Ytlcphgomhhejbaa
open Go.RowKit

/-- Where a node's keys, cells and kids lie. -/
structure NB where
  ka : Option Addr
  kl : Nat
  kc : Nat
  ca : Option Addr
  cl : Nat
  cc : Nat
  da : Option Addr
  dl : Nat
  dc : Nat

/-- A node's value. -/
abbrev NB.v (m : NB) (leaf : Bool) : Value := .agg #[.bool leaf, .slice m.ka m.kl m.kc, .slice m.ca m.cl m.cc, .slice m.da m.dl m.dc]

def Cl.fair (c : Cl) : Prop := c.data.size ≤ 140737488355328 ∧ (-9223372036854775808 ≤ c.len ∧ c.len ≤ 9223372036854775807) ∧ (-9223372036854775808 ≤ c.page ∧ c.page ≤ 9223372036854775807)

/-- The node n lies there. -/
structure NAt (w : World) (n : Nd) (m : NB) : Prop where
  hk : m.kl = n.keys.length
  hc : m.cl = n.cells.length
  hd : m.dl = n.kids.length
  kcap : m.kl ≤ m.kc
  ccap : m.cl ≤ m.cc
  dcap : m.dl ≤ m.dc
  kmax : m.kl ≤ 140737488355328
  cmax : m.cl ≤ 140737488355328
  dmax : m.dl ≤ 140737488355328
  karr : Arr w.heap.size w m.ka (cellsS n.keys)
  carr : Arr w.heap.size w m.ca (cellsC n.cells)
  darr : Arr w.heap.size w m.da (cellsI n.kids)
  kfair : ∀ k ∈ n.keys, k.size ≤ 140737488355328
  cfair : ∀ c ∈ n.cells, c.fair
  dfair : ∀ p ∈ n.kids, -9223372036854775808 ≤ p ∧ p ≤ 9223372036854775807

theorem NAt.later {w w' : World} {n : Nd} {m : NB} (h : NAt w n m) (hb : Below w.heap.size w w') : NAt w' n m :=
  ⟨h.hk, h.hc, h.hd, h.kcap, h.ccap, h.dcap, h.kmax, h.cmax, h.dmax, h.karr.later (N := 0) hb, h.carr.later (N := 0) hb, h.darr.later (N := 0) hb, h.kfair, h.cfair, h.dfair⟩

open Classical in
theorem Nd.ok_eq {n : Nd} {b : Bool} (h : n.Ok ↔ b = true) : n.ok = b := by
  unfold Nd.ok
  cases b with
  | true => exact decide_eq_true (h.2 rfl)
  | false => exact decide_eq_false (fun h2 => by simpa using h.1 h2)

theorem keysOk_iff (l : List ByteArray) : keysOk l = true ↔ KeysOk l := by unfold keysOk; simp

set_option maxHeartbeats 4000000 in
theorem NRight_any (n : Nd) (m : NB) (w : World) (h : NAt w n m) :
    Calls Try.prog 15 #[m.v n.leaf] w fun e w' => e = .returned (.bool n.ok) ∧ Below w.heap.size w w' := by
  have HK := Lib.hid (fun W (hb : Below w.heap.size w W) => areKeys_any n.keys m.ka m.kl m.kc W (h.later hb).karr h.hk h.kmax h.kfair)
  have HC := Lib.hid (fun W (hb : Below w.heap.size w W) => containsC_any n.cells m.ca m.cl m.cc W (h.later hb).carr h.hc h.cmax (fun c hc => (h.cfair c hc).1))
  have HD := Lib.hid (fun W (hb : Below w.heap.size w W) => containsI_any n.kids m.da m.dl m.dc W (h.later hb).darr h.hd h.dmax)
  have hE := fun b => Nd.ok_eq (n := n) (b := b)
  have hk := h.hk
  have hc := h.hc
  have hd := h.hd
  have kmax := h.kmax
  have cmax := h.cmax
  have dmax := h.dmax
  clear h
  obtain ⟨leaf, ks, cs, ps⟩ := n
  obtain ⟨ka, kl, kc, ca, cl, cc, da, dl, dc⟩ := m
  simp only [Nd.Ok] at *
  obtain ⟨r1, h1⟩ : ∃ r, keysOk ks = r := ⟨_, rfl⟩
  obtain ⟨r2, h2⟩ : ∃ r, cs.all Cl.ok = r := ⟨_, rfl⟩
  obtain ⟨r3, h3⟩ : ∃ r, ps.all okPage = r := ⟨_, rfl⟩
  rw [h1] at HK
  rw [h2] at HC
  rw [h3] at HD
  have e1 : KeysOk ks ↔ r1 = true := by rw [← h1]; exact (keysOk_iff ks).symm
  have e2 : (∀ c ∈ cs, c.ok = true) ↔ r2 = true := by rw [← h2]; simp
  have e3 : (∀ p ∈ ps, okPage p = true) ↔ r3 = true := by rw [← h3]; simp
  have e4 : ks ≠ [] ↔ 0 < kl := by rw [hk]; cases ks <;> simp
  have e5 : ps = [] ↔ dl = 0 := by rw [hd]; exact List.length_eq_zero_iff.symm
  have e6 : cs = [] ↔ cl = 0 := by rw [hc]; exact List.length_eq_zero_iff.symm
  rw [e1, e2, e3, e4, e5, e6, ← hk, ← hc, ← hd] at hE
  generalize Nd.ok ⟨leaf, ks, cs, ps⟩ = R at *
  clear e1 e2 e3 e4 e5 e6 h1 h2 h3 hk hc hd
  have HR : ∀ b, Hid ((r1 = true ∧ (if leaf = true then cl = kl ∧ dl = 0 ∧ r2 = true else 0 < kl ∧ dl = kl + 1 ∧ cl = 0 ∧ r3 = true)) ↔ b = true) → Hid (R = b) := fun b hb => hE b hb
  clear hE
  cases r1 with
  | false =>
    have HB := HR false (by simp [Hid])
    go_enter Try.func15, Try.ntmps15
    go_wp2_with fail
    refine (HK.out _ (Below.box _ _)).mono ?_
    rintro e w1 ⟨rfl, rfl⟩
    go_wp2
    go_ret
    exact ⟨ret_b HB.out.symm, Below.box _ _⟩
  | true =>
    cases leaf with
    | true =>
      by_cases q1 : cl = kl
      · subst q1
        by_cases q2 : dl = 0
        · subst q2
          have HB := HR r2 (by cases r2 <;> simp [Hid])
          have HB2 := Lib.hid HR
          clear HR
          go_enter Try.func15, Try.ntmps15
          go_wp2_with fail
          refine (HK.out _ (Below.box _ _)).mono ?_
          rintro e w1 ⟨rfl, rfl⟩
          go_wp2_with fail
          refine (HC.out _ (Below.box _ _)).mono ?_
          rintro e w1 ⟨rfl, hb⟩
          go_wp2
          go_ret
          exact ⟨ret_b (by first | (rw [HB.out]; done) | (rw [HB.out]; simp)), (Below.box _ _).trans (hb.mono (by simp))⟩
        · have HB := HR false (by first | (simp [Hid, q2]; done) | (simp [Hid]; omega))
          have q3 : ((dl : Int) == 0) = false := by first | (simp; done) | (simp; omega)
          clear HR
          go_enter Try.func15, Try.ntmps15
          go_wp2_with fail
          refine (HK.out _ (Below.box _ _)).mono ?_
          rintro e w1 ⟨rfl, rfl⟩
          go_wp2
          go_ret
          exact ⟨ret_b (by rw [HB.out]), Below.box _ _⟩
      · have HB := HR false (by first | (simp [Hid, q1]; done) | (simp [Hid]; omega))
        have q3 : ((cl : Int) == (kl : Int)) = false := by first | (simp; done) | (simp; omega)
        clear HR
        go_enter Try.func15, Try.ntmps15
        go_wp2_with fail
        refine (HK.out _ (Below.box _ _)).mono ?_
        rintro e w1 ⟨rfl, rfl⟩
        go_wp2
        go_ret
        exact ⟨ret_b (by rw [HB.out]), Below.box _ _⟩
    | false =>
      by_cases q0 : 0 < kl
      · have q0' : decide ((0 : Int) < (kl : Int)) = true := by first | (simp; done) | (simp; omega)
        by_cases q1 : dl = kl + 1
        · have q1' : ((dl : Int) == (kl : Int) + 1) = true := by first | (simp; done) | (simp; omega)
          by_cases q2 : cl = 0
          · subst q2
            have HB := HR r3 (by simp [Hid, q0, q1])
            clear HR q1
            go_enter Try.func15, Try.ntmps15
            go_wp2_with fail
            refine (HK.out _ (Below.box _ _)).mono ?_
            rintro e w1 ⟨rfl, rfl⟩
            go_wp2_with fail
            refine (HD.out _ (Below.box _ _)).mono ?_
            rintro e w1 ⟨rfl, hb⟩
            go_wp2
            go_ret
            exact ⟨ret_b (by first | (rw [HB.out]; done) | (rw [HB.out]; simp)), (Below.box _ _).trans (hb.mono (by simp))⟩
          · have HB := HR false (by first | (simp [Hid]; done) | (simp [Hid]; omega))
            have q3 : ((cl : Int) == 0) = false := by first | (simp; done) | (simp; omega)
            clear HR q1
            go_enter Try.func15, Try.ntmps15
            go_wp2_with fail
            refine (HK.out _ (Below.box _ _)).mono ?_
            rintro e w1 ⟨rfl, rfl⟩
            go_wp2
            go_ret
            exact ⟨ret_b (by rw [HB.out]), Below.box _ _⟩
        · have HB := HR false (by first | (simp [Hid]; done) | (simp [Hid]; omega))
          have q1' : ((dl : Int) == (kl : Int) + 1) = false := by first | (simp; done) | (simp; omega)
          clear HR
          go_enter Try.func15, Try.ntmps15
          go_wp2_with fail
          refine (HK.out _ (Below.box _ _)).mono ?_
          rintro e w1 ⟨rfl, rfl⟩
          go_wp2
          go_ret
          exact ⟨ret_b (by rw [HB.out]), Below.box _ _⟩
      · have HB := HR false (by first | (simp [Hid]; done) | (simp [Hid]; omega))
        have q0' : decide ((0 : Int) < (kl : Int)) = false := by first | (simp; done) | (simp; omega)
        clear HR
        go_enter Try.func15, Try.ntmps15
        go_wp2_with fail
        refine (HK.out _ (Below.box _ _)).mono ?_
        rintro e w1 ⟨rfl, rfl⟩
        go_wp2
        go_ret
        exact ⟨ret_b (by rw [HB.out]), Below.box _ _⟩
end Go.Proofs.Ytlcphgomhhejbaa

/- What is read of a node's bytes. -/
namespace Go.Proofs.Ytlcphgomhhejbaa
open Go.RowKit

/-- k bytes from a place on. -/
def cutL (b : List Nat) (at_ k : Nat) : List Nat := (b.drop at_).take k
theorem cutL_len {b : List Nat} {at_ k : Nat} (h : at_ + k ≤ b.length) : (cutL b at_ k).length = k := by
  unfold cutL; rw [List.length_take, List.length_drop]; omega
theorem cutL_lt {b : List Nat} (hb : ∀ c ∈ b, c < 256) (at_ k : Nat) : ∀ c ∈ cutL b at_ k, c < 256 := fun c hc => hb c (List.mem_of_mem_drop (List.mem_of_mem_take hc))
theorem cutL_add (b : List Nat) (at_ k m : Nat) : cutL b at_ (k + m) = cutL b at_ k ++ cutL b (at_ + k) m := by
  unfold cutL
  rw [← List.drop_drop, List.take_add]
theorem cutL_app (A B C : List Nat) : cutL (A ++ (B ++ C)) A.length B.length = B := by
  unfold cutL
  rw [List.drop_left, List.take_left]

/-- A part that begins at a place, and the place behind it. -/
def decP (leaf : Bool) (b : List Nat) (at_ : Nat) : Option (Pt × Nat) :=
  let front := if leaf then 3 else 1
  if b.length < at_ + front then none else
  let k := valL (cutL b at_ 1)
  let len := if leaf then valL (cutL b (at_ + 1) 2) else 0
  let behind := if leaf && decide (len ≤ 120) then len else 4
  if b.length < at_ + front + k + behind then none else
  some (⟨strN (cutL b (at_ + front) k), (len : Int), if leaf && decide (len ≤ 120) then strN (cutL b (at_ + front + k) behind) else ⟨#[]⟩, if leaf && decide (len ≤ 120) then 0 else (valL (cutL b (at_ + front + k) behind) : Int)⟩, at_ + front + k + behind)

/-- The first i parts, and the place behind them. -/
def decs (leaf : Bool) (b : List Nat) (at_ : Nat) : Nat → Option (List Pt × Nat)
  | 0 => some ([], at_)
  | i + 1 => match decs leaf b at_ i with
    | none => none
    | some (l, p) => match decP leaf b p with
      | none => none
      | some (x, q) => some (l ++ [x], q)

theorem bytesOf_strB {l : List Nat} (h : ∀ c ∈ l, c < 256) : bytesOf (strN l) = l := by
  unfold bytesOf strN
  simp only [List.map_map]
  conv => rhs; rw [← List.map_id l]
  apply List.map_congr_left
  intro c hc
  have := h c hc
  simp; omega

theorem decs_len {leaf : Bool} {b : List Nat} {at_ : Nat} : ∀ {i : Nat} {l : List Pt} {p : Nat}, decs leaf b at_ i = some (l, p) → l.length = i
  | 0, l, p, h => by simp [decs] at h; simp [← h.1]
  | i + 1, l, p, h => by
    unfold decs at h
    cases h1 : decs leaf b at_ i with
    | none => rw [h1] at h; simp at h
    | some r =>
      obtain ⟨l', p'⟩ := r
      rw [h1] at h
      cases h2 : decP leaf b p' with
      | none => simp [h2] at h
      | some r2 =>
        obtain ⟨x, q⟩ := r2
        simp [h2] at h
        have := decs_len h1
        simp [← h.1, this]

/-- What was read are its bytes. -/
theorem decP_enc {leaf : Bool} {b : List Nat} (hb : ∀ c ∈ b, c < 256) {at_ q : Nat} {x : Pt} (h : decP leaf b at_ = some (x, q)) : at_ ≤ q ∧ q ≤ b.length ∧ cutL b at_ (q - at_) = encPt leaf x ∧ x.key.size < 256 := by
  have key : ∀ (k front : Nat), k = valL (cutL b at_ 1) → at_ + front ≤ b.length → 1 ≤ front → cutL b at_ 1 = [k] ∧ k < 256 := by
    intro k front hk hf h1
    have hk1 : (cutL b at_ 1).length = 1 := cutL_len (by omega)
    subst hk
    refine ⟨?_, by have := valL_lt _ (cutL_lt hb at_ 1); rw [hk1] at this; simpa using this⟩
    match hc : cutL b at_ 1, hk1 with
    | [c], _ => simp [valL]
  unfold decP at h
  cases leaf with
  | true =>
    simp only [if_true, Bool.true_and] at h
    split at h
    · simp at h
    · rename_i hf
      obtain ⟨hkb, hkl⟩ := key _ 3 rfl (by omega) (by omega)
      have hl2 : (cutL b (at_ + 1) 2).length = 2 := cutL_len (by omega)
      have hlb := beL_valL _ (cutL_lt hb (at_ + 1) 2)
      rw [hl2] at hlb
      generalize hK : valL (cutL b at_ 1) = k at *
      generalize hL : valL (cutL b (at_ + 1) 2) = len at *
      by_cases h120 : len ≤ 120
      · simp only [h120, decide_true, if_true] at h
        split at h
        · simp at h
        · rename_i hs
          simp only [Option.some.injEq, Prod.mk.injEq] at h
          obtain ⟨rfl, rfl⟩ := h
          refine ⟨by omega, by omega, ?_, ?_⟩
          · have e1 : at_ + 3 + k + len - at_ = 1 + (2 + (k + len)) := by omega
            rw [e1, cutL_add, cutL_add, cutL_add, hkb, ← hlb]
            unfold encPt
            have hks : (strN (cutL b (at_ + 3) k)).size = k := by rw [strN_size, cutL_len (by omega)]
            rw [hks, bytesOf_strB (cutL_lt hb _ _)]
            have : decide ((len : Int) ≤ 120) = true := by simp; omega
            simp only [if_true, Bool.true_and, this, Int.toNat_natCast]
            rw [bytesOf_strB (cutL_lt hb _ _)]
            simp [Nat.add_assoc]
          · simp only; rw [strN_size, cutL_len (by omega)]; exact hkl
      · simp only [h120, decide_false, Bool.false_eq_true, if_false] at h
        split at h
        · simp at h
        · rename_i hs
          simp only [Option.some.injEq, Prod.mk.injEq] at h
          obtain ⟨rfl, rfl⟩ := h
          refine ⟨by omega, by omega, ?_, ?_⟩
          · have e1 : at_ + 3 + k + 4 - at_ = 1 + (2 + (k + 4)) := by omega
            have hpb := beL_valL _ (cutL_lt hb (at_ + 3 + k) 4)
            rw [cutL_len (by omega)] at hpb
            rw [e1, cutL_add, cutL_add, cutL_add, hkb, ← hlb]
            unfold encPt
            have hks : (strN (cutL b (at_ + 3) k)).size = k := by rw [strN_size, cutL_len (by omega)]
            rw [hks, bytesOf_strB (cutL_lt hb _ _)]
            have : decide ((len : Int) ≤ 120) = false := by simp; omega
            simp only [if_true, Bool.true_and, this, Int.toNat_natCast, Bool.false_eq_true, if_false]
            rw [hpb]
            simp [Nat.add_assoc]
          · simp only; rw [strN_size, cutL_len (by omega)]; exact hkl
  | false =>
    simp only [Bool.false_eq_true, if_false, Bool.false_and] at h
    split at h
    · simp at h
    · rename_i hf
      obtain ⟨hkb, hkl⟩ := key _ 1 rfl (by omega) (by omega)
      generalize hK : valL (cutL b at_ 1) = k at *
      split at h
      · simp at h
      · rename_i hs
        simp only [Option.some.injEq, Prod.mk.injEq] at h
        obtain ⟨rfl, rfl⟩ := h
        refine ⟨by omega, by omega, ?_, ?_⟩
        · have e1 : at_ + 1 + k + 4 - at_ = 1 + (k + 4) := by omega
          have hpb := beL_valL _ (cutL_lt hb (at_ + 1 + k) 4)
          rw [cutL_len (by omega)] at hpb
          rw [e1, cutL_add, cutL_add, hkb]
          unfold encPt
          have hks : (strN (cutL b (at_ + 1) k)).size = k := by rw [strN_size, cutL_len (by omega)]
          rw [hks, bytesOf_strB (cutL_lt hb _ _)]
          simp only [Bool.false_eq_true, if_false, Bool.false_and, Int.toNat_natCast]
          rw [hpb]
          simp [Nat.add_assoc]
        · simp only; rw [strN_size, cutL_len (by omega)]; exact hkl

theorem decs_enc {leaf : Bool} {b : List Nat} (hb : ∀ c ∈ b, c < 256) {at_ : Nat} (hat : at_ ≤ b.length) : ∀ {i : Nat} {l : List Pt} {q : Nat}, decs leaf b at_ i = some (l, q) → at_ ≤ q ∧ q ≤ b.length ∧ cutL b at_ (q - at_) = encPs leaf l
  | 0, l, q, h => by
    simp [decs] at h
    obtain ⟨rfl, rfl⟩ := h
    exact ⟨by omega, hat, by simp [cutL, encPs]⟩
  | i + 1, l, q, h => by
    unfold decs at h
    cases h1 : decs leaf b at_ i with
    | none => rw [h1] at h; simp at h
    | some r =>
      obtain ⟨l', p'⟩ := r
      rw [h1] at h
      cases h2 : decP leaf b p' with
      | none => simp [h2] at h
      | some r2 =>
        obtain ⟨x, q'⟩ := r2
        simp [h2] at h
        obtain ⟨rfl, rfl⟩ := h
        obtain ⟨i1, i2, i3⟩ := decs_enc hb hat h1
        obtain ⟨j1, j2, j3, _⟩ := decP_enc hb h2
        refine ⟨by omega, j2, ?_⟩
        rw [show q' - at_ = (p' - at_) + (q' - p') by omega, cutL_add, i3, show at_ + (p' - at_) = p' by omega, j3, encPs_snoc]

/-- What was written is read. -/
theorem decP_of (leaf : Bool) (A C : List Nat) (x : Pt) (hk : x.key.size < 256) (hx : if leaf then x.okL = true else x.okI = true) : decP leaf (A ++ (encPt leaf x ++ C)) A.length = some (x, A.length + (encPt leaf x).length) := by
  obtain ⟨key, len, data, page⟩ := x
  cases leaf with
  | true =>
    simp only [if_true] at hx
    obtain ⟨l0, l1, l2, l3⟩ := okL_bd hx
    simp only at l0 l1 l2 l3 hk
    obtain ⟨n, rfl⟩ := Int.eq_ofNat_of_zero_le l0
    have hn : n < 65536 := by omega
    have henc : encPt true ⟨key, n, data, page⟩ = [key.size] ++ (beL 2 n ++ (bytesOf key ++ (if n ≤ 120 then bytesOf data else beL 4 page.toNat))) := by
      unfold encPt
      have : decide ((n : Int) ≤ 120) = decide (n ≤ 120) := decide_eq_decide.2 (by omega)
      simp only [if_true, Bool.true_and, this, decide_eq_true_eq, Int.toNat_natCast, List.singleton_append]
    have c1 : cutL (A ++ (encPt true ⟨key, n, data, page⟩ ++ C)) A.length 1 = [key.size] := by
      rw [henc, List.append_assoc]; exact cutL_app A [key.size] _
    have c2 : cutL (A ++ (encPt true ⟨key, n, data, page⟩ ++ C)) (A.length + 1) 2 = beL 2 n := by
      have := cutL_app (A ++ [key.size]) (beL 2 n) ((bytesOf key ++ (if n ≤ 120 then bytesOf data else beL 4 page.toNat)) ++ C)
      rw [beL_len, List.length_append] at this
      rw [henc]
      simpa [List.append_assoc] using this
    have c3 : cutL (A ++ (encPt true ⟨key, n, data, page⟩ ++ C)) (A.length + 3) key.size = bytesOf key := by
      have := cutL_app (A ++ [key.size] ++ beL 2 n) (bytesOf key) ((if n ≤ 120 then bytesOf data else beL 4 page.toNat) ++ C)
      rw [bytesOf_len, List.length_append, List.length_append, beL_len] at this
      rw [henc]
      simpa [List.append_assoc] using this
    have hv1 : valL [key.size] = key.size := by simp [valL]
    have hv2 : valL (beL 2 n) = n := by rw [valL_beL]; omega
    have hlen : (encPt true ⟨key, n, data, page⟩).length = 3 + key.size + (if n ≤ 120 then data.size else 4) := by
      rw [henc]; simp only [List.length_append, beL_len, bytesOf_len, List.length_singleton]; split <;> simp [bytesOf_len, beL_len] <;> omega
    unfold decP
    simp only [if_true, Bool.true_and, c1, c2, hv1, hv2]
    rw [c3]
    have htot : (A ++ (encPt true ⟨key, n, data, page⟩ ++ C)).length = A.length + (3 + key.size + (if n ≤ 120 then data.size else 4)) + C.length := by
      rw [List.length_append, List.length_append, hlen]; omega
    by_cases h120 : n ≤ 120
    · obtain ⟨d1, d2⟩ := l2 (by omega)
      have d1' : data.size = n := by omega
      subst d2
      have c4 : cutL (A ++ (encPt true ⟨key, n, data, 0⟩ ++ C)) (A.length + 3 + key.size) n = bytesOf data := by
        have := cutL_app (A ++ [key.size] ++ beL 2 n ++ bytesOf key) (bytesOf data) C
        rw [bytesOf_len, List.length_append, List.length_append, List.length_append, beL_len, bytesOf_len, d1'] at this
        rw [henc, if_pos h120]
        simpa [List.append_assoc] using this
      rw [if_pos h120] at htot hlen
      simp only [h120, decide_true, if_true]
      rw [if_neg (by omega), if_neg (by omega), c4, hlen, strN_bytesOf, strN_bytesOf]
      simp; omega
    · obtain ⟨d1, d2, d3⟩ := l3 (by omega)
      have d0 : data = ⟨#[]⟩ := ByteArray.ext (Array.size_eq_zero_iff.1 d1)
      have c4 : cutL (A ++ (encPt true ⟨key, n, data, page⟩ ++ C)) (A.length + 3 + key.size) 4 = beL 4 page.toNat := by
        have := cutL_app (A ++ [key.size] ++ beL 2 n ++ bytesOf key) (beL 4 page.toNat) C
        rw [beL_len, List.length_append, List.length_append, List.length_append, beL_len, bytesOf_len] at this
        rw [henc, if_neg h120]
        simpa [List.append_assoc] using this
      have hv4 : valL (beL 4 page.toNat) = page.toNat := by rw [valL_beL]; omega
      rw [if_neg h120] at htot hlen
      simp only [h120, decide_false, Bool.false_eq_true, if_false]
      rw [if_neg (by omega), if_neg (by omega), c4, hlen, strN_bytesOf, hv4, d0]
      simp; omega
  | false =>
    simp only [Bool.false_eq_true, if_false] at hx
    obtain ⟨l0, l1, l2, l3⟩ := okI_bd hx
    simp only at l0 l1 l2 l3 hk
    have d0 : data = ⟨#[]⟩ := ByteArray.ext (Array.size_eq_zero_iff.1 l1)
    subst l0 d0
    have henc : encPt false ⟨key, 0, ⟨#[]⟩, page⟩ = [key.size] ++ (bytesOf key ++ beL 4 page.toNat) := by
      unfold encPt; simp
    have c1 : cutL (A ++ (encPt false ⟨key, 0, ⟨#[]⟩, page⟩ ++ C)) A.length 1 = [key.size] := by
      rw [henc, List.append_assoc]; exact cutL_app A [key.size] _
    have c3 : cutL (A ++ (encPt false ⟨key, 0, ⟨#[]⟩, page⟩ ++ C)) (A.length + 1) key.size = bytesOf key := by
      have := cutL_app (A ++ [key.size]) (bytesOf key) (beL 4 page.toNat ++ C)
      rw [bytesOf_len, List.length_append] at this
      rw [henc]
      simpa [List.append_assoc] using this
    have c4 : cutL (A ++ (encPt false ⟨key, 0, ⟨#[]⟩, page⟩ ++ C)) (A.length + 1 + key.size) 4 = beL 4 page.toNat := by
      have := cutL_app (A ++ [key.size] ++ bytesOf key) (beL 4 page.toNat) C
      rw [beL_len, List.length_append, List.length_append, bytesOf_len] at this
      rw [henc]
      simpa [List.append_assoc] using this
    have hv1 : valL [key.size] = key.size := by simp [valL]
    have hv4 : valL (beL 4 page.toNat) = page.toNat := by rw [valL_beL]; omega
    have hlen : (encPt false ⟨key, 0, ⟨#[]⟩, page⟩).length = 1 + key.size + 4 := by
      rw [henc]; simp only [List.length_append, beL_len, bytesOf_len, List.length_singleton]; omega
    have htot : (A ++ (encPt false ⟨key, 0, ⟨#[]⟩, page⟩ ++ C)).length = A.length + (1 + key.size + 4) + C.length := by
      rw [List.length_append, List.length_append, hlen]; omega
    unfold decP
    simp only [Bool.false_eq_true, if_false, Bool.false_and, c1, hv1]
    rw [c3, c4, hv4, if_neg (by omega), if_neg (by omega), hlen, strN_bytesOf]
    simp; omega

theorem decs_of (leaf : Bool) (A C : List Nat) (l : List Pt) (hk : ∀ x ∈ l, x.key.size < 256 ∧ (if leaf then x.okL = true else x.okI = true)) : ∀ i, i ≤ l.length → decs leaf (A ++ (encPs leaf l ++ C)) A.length i = some (l.take i, A.length + (encPs leaf (l.take i)).length)
  | 0, _ => by simp [decs, encPs]
  | i + 1, h => by
    have ih := decs_of leaf A C l hk i (by omega)
    have hi := List.getElem?_eq_getElem (show i < l.length by omega)
    have hm := hk l[i] (List.getElem_mem (by omega))
    have e : A ++ (encPs leaf l ++ C) = (A ++ encPs leaf (l.take i)) ++ (encPt leaf l[i] ++ (encPs leaf (l.drop (i + 1)) ++ C)) := by
      have e1 : encPs leaf l = encPs leaf (l.take i) ++ (encPt leaf l[i] ++ encPs leaf (l.drop (i + 1))) := by
        conv => lhs; rw [← List.take_append_drop i l, List.drop_eq_getElem_cons (show i < l.length by omega)]
        simp only [encPs, List.flatMap_append, List.flatMap_cons]
      rw [e1]
      simp only [List.append_assoc]
    have h2 := decP_of leaf (A ++ encPs leaf (l.take i)) (encPs leaf (l.drop (i + 1)) ++ C) l[i] hm.1 hm.2
    rw [← e, List.length_append] at h2
    unfold decs
    rw [ih]
    simp only [h2]
    rw [List.take_add_one, hi, Option.toList_some, encPs_snoc, List.length_append]
    simp; omega
end Go.Proofs.Ytlcphgomhhejbaa

/- The walk of the law VarintTexts. -/
namespace Go.Proofs.Ytlcphgomhhejbaa
open Go.RowKit

end Go.Proofs.Ytlcphgomhhejbaa

/- Plain mathematics of VarintBack: integers and texts go there and back. -/
namespace Go.Proofs.Ytlcphgomhhejbaa
open Go.RowKit

theorem getS_put (B : List Nat) : ∀ (x i v : Nat), i ≤ 9 → (i = 0 ∨ 0 < x) → x * 128 ^ i < 18446744073709551616 → getS (putL x ++ B) i v = (v + x * 128 ^ i, i + (putL x).length, 0) := by
  intro x
  induction x using putL.induct with
  | case1 x h =>
    intro i v hi hx hs
    rw [putL_small h]
    have h9 : i = 9 → x ≤ 1 := by
      rintro rfl
      have : (128 : Nat) ^ 9 = 9223372036854775808 := by decide
      omega
    simp only [List.cons_append, List.nil_append, getS]
    rw [if_neg (by omega), if_neg (by omega), if_pos h]
    simp
  | case2 x h ih =>
    intro i v hi hx hs
    rw [putL_step h]
    have h9 : i ≠ 9 := by
      rintro rfl
      have : (128 : Nat) ^ 9 = 9223372036854775808 := by decide
      omega
    simp only [List.cons_append, getS]
    rw [if_neg (by omega), if_neg (by omega), if_neg (by omega)]
    have e1 : x / 128 * 128 ^ (i + 1) + x % 128 * 128 ^ i = x * 128 ^ i := by
      have := Nat.div_add_mod x 128
      rw [Nat.pow_succ, Nat.mul_comm (128 ^ i) 128, ← Nat.mul_assoc, ← Nat.add_mul, Nat.mul_comm (x / 128) 128, this]
    rw [ih (i + 1) (v + (x % 128 + 128 - 128) * 128 ^ i) (by omega) (.inr (by omega)) (by omega)]
    simp only [Nat.add_sub_cancel, List.length_cons, Prod.mk.injEq, and_true]
    omega

/-- The bytes of an integer, wherever they stand. -/
theorem getR_put (A B : List Nat) (x : Nat) (hx : x < 18446744073709551616) : getR (A ++ (putL x ++ B)) (A.length : Nat) = (x, (A.length : Int) + (putL x).length, 0) := by
  unfold getR
  rw [if_neg (by simp; omega)]
  have := getS_put B x 0 0 (by omega) (.inl rfl) (by simpa using hx)
  simp [this]

theorem textR_put (A : List Nat) (s : ByteArray) (hs : s.size < 18446744073709551616) : textR (A ++ textL s) (A.length : Nat) = (s, (((A ++ textL s).length : Nat) : Int), 0) := by
  unfold textR textL
  rw [getR_put A (bytesOf s) s.size hs]
  simp only [ne_eq, not_true_eq_false, if_false]
  rw [if_neg (by simp [bytesOf_len]; omega)]
  have e : ((A.length : Int) + (putL s.size).length).toNat = A.length + (putL s.size).length := by omega
  have e2 : List.drop (A.length + (putL s.size).length) (A ++ (putL s.size ++ bytesOf s)) = bytesOf s := by
    rw [← List.append_assoc, ← List.length_append, List.drop_left]
  rw [e, e2]
  rw [List.take_of_length_le (by rw [bytesOf_len]; omega), strN_bytesOf]
  simp [bytesOf_len]
  omega

/-- In one way alone. -/
theorem getS_only : ∀ (D : List Nat) (i v0 v n : Nat), (∀ c ∈ D, c < 256) → i ≤ 9 → getS D i v0 = (v, n, 0) →
    ∃ x, v = v0 + x * 128 ^ i ∧ n = i + (putL x).length ∧ (putL x).length ≤ D.length ∧ D.take (putL x).length = putL x ∧ (0 < i → x ≠ 0)
  | [], i, v0, v, n, _, _, h => by simp [getS] at h
  | c :: r, i, v0, v, n, hD, hi, h => by
    unfold getS at h
    split at h
    · simp at h
    · split at h
      · simp at h
      · split at h
        · rename_i h1 h2 h3
          simp only [Prod.mk.injEq, and_true] at h
          refine ⟨c, h.1.symm, ?_, ?_, ?_, ?_⟩
          · rw [putL_small h3]; simp; omega
          · rw [putL_small h3]; simp
          · rw [putL_small h3]; simp
          · omega
        · rename_i h1 h2 h3
          have hc := hD c (by simp)
          obtain ⟨x, e1, e2, e3, e4, e5⟩ := getS_only r (i + 1) (v0 + (c - 128) * 128 ^ i) v n (fun d hd => hD d (by simp [hd])) (by omega) h
          have hx := e5 (by omega)
          have hp : putL (c - 128 + 128 * x) = c :: putL x := by
            rw [putL_step (by omega)]
            congr 1
            · omega
            · congr 1; omega
          refine ⟨c - 128 + 128 * x, ?_, ?_, ?_, ?_, ?_⟩
          · rw [e1, Nat.add_mul, Nat.pow_succ, Nat.mul_comm (128 ^ i) 128, ← Nat.mul_assoc, Nat.mul_comm x 128]; omega
          · rw [hp, e2]; simp; omega
          · rw [hp]; simp; omega
          · rw [hp]; simp [e4]
          · omega

theorem getR_only (l : List Nat) (h256 : ∀ c ∈ l, c < 256) (at_ : Int) (v : Nat) (n : Int) (h : getR l at_ = (v, n, 0)) :
    0 ≤ at_ ∧ ∃ m : Nat, n = m ∧ at_ < n ∧ m ≤ l.length ∧ putL v = (l.drop at_.toNat).take (m - at_.toNat) := by
  unfold getR at h
  split at h
  · simp at h
  · rename_i h1
    obtain ⟨G, hG⟩ : ∃ G, getS (l.drop at_.toNat) 0 0 = G := ⟨_, rfl⟩
    obtain ⟨gv, gn, ge⟩ := G
    rw [hG] at h
    simp only [] at h
    split at h
    · rename_i h2
      subst h2
      obtain ⟨x, e1, e2, e3, e4, _⟩ := getS_only (l.drop at_.toNat) 0 0 gv gn (fun c hc => h256 c (List.mem_of_mem_drop hc)) (by omega) hG
      simp only [Prod.mk.injEq, and_true] at h
      have hx : x = v := by rw [← h.1, e1]; simp
      subst hx
      rw [List.length_drop] at e3
      have hp := putL_pos x
      refine ⟨by omega, (at_ + (gn : Int)).toNat, by omega, by omega, by omega, ?_⟩
      rw [show (at_ + (gn : Int)).toNat - at_.toNat = (putL x).length by omega]
      exact e4.symm
    · rename_i h2
      simp only [Prod.mk.injEq] at h
      exact absurd h.2.2 h2

/-- The bytes of all the integers of a list. -/
def allL (l : List Nat) : List Nat := l.flatMap putL
theorem allL_snoc (l : List Nat) (k : Nat) (h : k < l.length) : allL (l.take (k + 1)) = allL (l.take k) ++ putL l[k] := by
  unfold allL; rw [take_succ_n l k h, List.flatMap_append]; simp [List.flatMap_cons]
theorem allL_split (l : List Nat) (k : Nat) (h : k < l.length) : allL l = allL (l.take k) ++ (putL l[k] ++ allL (l.drop (k + 1))) := by
  unfold allL
  conv => lhs; rw [← List.take_append_drop k l, List.drop_eq_getElem_cons h]
  rw [List.flatMap_append, List.flatMap_cons]
theorem allL_len (l : List Nat) (hl : ∀ c ∈ l, c < 18446744073709551616) : (allL l).length ≤ 10 * l.length := by
  induction l with
  | nil => simp [allL]
  | cons c r ih =>
    have := ih (fun d hd => hl d (by simp [hd]))
    have := putL_len10 (hl c (by simp))
    simp [allL] at *
    omega
theorem allL_lt (l : List Nat) : ∀ c ∈ allL l, c < 256 := by
  intro c hc
  obtain ⟨d, _, hd⟩ := List.mem_flatMap.1 hc
  exact putL_byte d c hd
end Go.Proofs.Ytlcphgomhhejbaa

/- Plain mathematics of layer 3: the bytes of a row, and the row of bytes. -/
namespace Go.Proofs.Ytlcphgomhhejbaa
open Go.RowKit

theorem getS_bound : ∀ (D : List Nat) (i v0 v n : Nat), (∀ c ∈ D, c < 256) → i ≤ 9 → v0 < 128 ^ i → getS D i v0 = (v, n, 0) → v < 18446744073709551616
  | [], i, v0, v, n, _, _, _, h => by simp [getS] at h
  | c :: r, i, v0, v, n, hD, hi, hv, h => by
    have hc := hD c (by simp)
    unfold getS at h
    split at h
    · simp at h
    · split at h
      · simp at h
      · split at h
        · rename_i h1 h2 h3
          simp only [Prod.mk.injEq, and_true] at h
          have := fits7 c i v0 hv (by omega)
          rw [Nat.mod_eq_of_lt h3] at this
          omega
        · rename_i h1 h2 h3
          have h9 : i ≠ 9 := by omega
          have hg := grow7 c i v0 hv
          rw [show c % 128 = c - 128 by omega] at hg
          exact getS_bound r (i + 1) _ v n (fun d hd => hD d (by simp [hd])) (by omega) (by omega) h
/-- The bytes of a value. -/
def encV (x : Vl) : List Nat := if x.k = 0 then [0] else if x.k = 1 then 1 :: putL (zigN x.n) else x.k :: textL x.s

/-- The bytes of values. -/
def encL (l : List Vl) : List Nat := l.flatMap encV

/-- The value that begins at an index, and the index behind it. -/
def decV (l : List Nat) (p : Nat) : Option (Vl × Nat) :=
  match l[p]? with
  | none => none
  | some k =>
    if k = 0 then some (⟨0, 0, ⟨#[]⟩⟩, p + 1)
    else if k = 1 then (if (getR l ((p + 1 : Nat) : Int)).2.2 = 0 then some (⟨1, zagZ (getR l ((p + 1 : Nat) : Int)).1, ⟨#[]⟩⟩, (getR l ((p + 1 : Nat) : Int)).2.1.toNat) else none)
    else if k = 2 ∨ k = 3 then (if (textR l ((p + 1 : Nat) : Int)).2.2 = 0 then some (⟨k, 0, (textR l ((p + 1 : Nat) : Int)).1⟩, (textR l ((p + 1 : Nat) : Int)).2.1.toNat) else none)
    else none

/-- The value's text is short enough for a machine, its integer an int64. -/
def Vl.fair (x : Vl) : Prop := x.k < 256 ∧ (-9223372036854775808 ≤ x.n ∧ x.n ≤ 9223372036854775807) ∧ x.s.size < 18446744073709551616

theorem textR_at (A B : List Nat) (s : ByteArray) (hs : s.size < 18446744073709551616) : textR (A ++ (textL s ++ B)) (A.length : Nat) = (s, (A.length : Int) + (textL s).length, 0) := by
  unfold textR textL
  rw [List.append_assoc, getR_put A (bytesOf s ++ B) s.size hs]
  simp only [ne_eq, not_true_eq_false, if_false]
  rw [if_neg (by simp [bytesOf_len]; omega)]
  have e : ((A.length : Int) + (putL s.size).length).toNat = A.length + (putL s.size).length := by omega
  have e2 : List.drop (A.length + (putL s.size).length) (A ++ (putL s.size ++ (bytesOf s ++ B))) = bytesOf s ++ B := by
    rw [← List.append_assoc, ← List.length_append, List.drop_left]
  rw [e, e2, List.take_left' (bytesOf_len s), strN_bytesOf]
  simp [bytesOf_len]; omega

theorem right_kind {x : Vl} (h : x.right = true) : (x = ⟨0, 0, ⟨#[]⟩⟩) ∨ (x = ⟨1, x.n, ⟨#[]⟩⟩) ∨ ((x.k = 2 ∨ x.k = 3) ∧ x = ⟨x.k, 0, x.s⟩) := by
  obtain ⟨k, n, s⟩ := x
  unfold Vl.right at h
  by_cases h0 : k = 0
  · subst h0
    have := right_null (n := n) (s := s) (by unfold Vl.right; exact h)
    rw [this.1, this.2]; exact .inl rfl
  · by_cases h1 : k = 1
    · subst h1
      have := right_num (n := n) (s := s) (by unfold Vl.right; exact h)
      rw [this]; exact .inr (.inl rfl)
    · simp only [if_neg h0, if_neg h1] at h
      by_cases h2 : k = 2 ∨ k = 3
      · simp only [if_pos h2, decide_eq_true_eq] at h
        subst h
        exact .inr (.inr ⟨h2, rfl⟩)
      · simp only [if_neg h2] at h; cases h

theorem decV_enc (A B : List Nat) (x : Vl) (hr : x.right = true) (hf : x.fair) : decV (A ++ (encV x ++ B)) A.length = some (x, A.length + (encV x).length) := by
  rcases right_kind hr with h | h | ⟨hk, h⟩
  · rw [h]; unfold decV encV; simp
  · obtain ⟨k, n, s⟩ := x
    simp only [Vl.mk.injEq] at h
    obtain ⟨rfl, -, rfl⟩ := h
    have hg := getR_put (A ++ [1]) B (zigN n) (zigN_lt n hf.2.1.1 hf.2.1.2)
    unfold decV encV
    simp only [List.append_assoc, List.cons_append, List.nil_append, List.length_append, List.length_cons, List.length_nil] at hg
    simp only [List.getElem?_append_right (Nat.le_refl _), Nat.sub_self, List.cons_append, List.getElem?_cons_zero, if_neg (show ¬ 1 = 0 by omega), if_true]
    rw [Nat.zero_add] at hg
    rw [hg]
    simp only [if_true, zag_zig, Option.some.injEq, Prod.mk.injEq, true_and, List.length_cons]
    omega
  · obtain ⟨k, n, s⟩ := x
    simp only [Vl.mk.injEq] at h
    obtain ⟨-, rfl, -⟩ := h
    simp only at hk
    have hg := textR_at (A ++ [k]) B s hf.2.2
    unfold decV encV
    simp only [List.append_assoc, List.cons_append, List.nil_append, List.length_append, List.length_cons, List.length_nil] at hg
    rw [Nat.zero_add] at hg
    simp only [List.getElem?_append_right (Nat.le_refl _), Nat.sub_self, if_neg (show ¬ k = 0 by omega), if_neg (show ¬ k = 1 by omega), List.cons_append, List.getElem?_cons_zero, if_pos hk]
    rw [hg]
    simp only [if_true, Option.some.injEq, Prod.mk.injEq, true_and, List.length_cons]
    omega

theorem textR_only (l : List Nat) (h256 : ∀ c ∈ l, c < 256) (p : Nat) (s : ByteArray) (n : Int) (h : textR l (p : Nat) = (s, n, 0)) :
    ∃ m : Nat, n = m ∧ p < m ∧ m ≤ l.length ∧ s.size ≤ l.length ∧ textL s = (l.drop p).take (m - p) := by
  unfold textR at h
  obtain ⟨G, hG⟩ : ∃ G, getR l (p : Nat) = G := ⟨_, rfl⟩
  obtain ⟨v, gn, ge⟩ := G
  simp only [hG] at h
  by_cases h0 : ge ≠ 0
  · rw [if_pos h0] at h
    simp only [Prod.mk.injEq] at h
    exact absurd h.2.2 h0
  · rw [if_neg h0] at h
    by_cases h1 : (l.length : Int) - gn < (v : Int)
    · rw [if_pos h1] at h
      simp at h
    · rw [if_neg h1] at h
      simp only [Prod.mk.injEq, and_true] at h
      have h0' : ge = 0 := by omega
      subst h0'
      obtain ⟨_, m, rfl, h3, h4, h5⟩ := getR_only l h256 p v gn hG
      have hs : s.size = v := by
        rw [← h.1, strN_size, List.length_take, List.length_drop]; omega
      have hb : bytesOf s = (l.drop m).take v := by
        rw [← h.1]
        unfold bytesOf strN
        simp only [List.map_map, Int.toNat_natCast]
        conv => rhs; rw [← List.map_id ((l.drop m).take v)]
        apply List.map_congr_left
        intro c hc
        have := h256 c (List.mem_of_mem_drop (List.mem_of_mem_take hc))
        simp [Nat.mod_eq_of_lt this]
      refine ⟨m + v, by omega, by omega, by omega, by omega, ?_⟩
      unfold textL
      rw [hs, hb, h5]
      rw [Int.toNat_natCast]
      have e : l.drop m = (l.drop p).drop (m - p) := by rw [List.drop_drop]; congr 1; omega
      rw [e, ← List.take_add]
      congr 1; omega

theorem enc_decV (l : List Nat) (h256 : ∀ c ∈ l, c < 256) (hl : l.length < 18446744073709551616) (p : Nat) (x : Vl) (n : Nat) (h : decV l p = some (x, n)) :
    x.right = true ∧ x.fair ∧ x.s.size ≤ l.length ∧ p < n ∧ n ≤ l.length ∧ encV x = (l.drop p).take (n - p) := by
  unfold decV at h
  cases hk : l[p]? with
  | none => rw [hk] at h; cases h
  | some k =>
    rw [hk] at h
    simp only [] at h
    have hp : p < l.length := by
      by_cases hp : p < l.length
      · exact hp
      · rw [List.getElem?_eq_none (by omega)] at hk; cases hk
    have hd : l.drop p = k :: l.drop (p + 1) := by
      rw [List.drop_eq_getElem_cons hp]
      rw [List.getElem?_eq_getElem hp] at hk
      simp only [Option.some.injEq] at hk
      rw [hk]
    by_cases h0 : k = 0
    · rw [if_pos h0] at h
      simp only [Option.some.injEq, Prod.mk.injEq] at h
      obtain ⟨rfl, rfl⟩ := h
      refine ⟨rfl, ⟨by simp, by simp, by decide⟩, by simp [ByteArray.size], by omega, by omega, ?_⟩
      rw [hd, h0, show p + 1 - p = 1 by omega]; rfl
    · rw [if_neg h0] at h
      by_cases h1 : k = 1
      · rw [if_pos h1] at h
        by_cases he : (getR l ((p + 1 : Nat) : Int)).2.2 = 0
        · rw [if_pos he] at h
          obtain ⟨G, hG⟩ : ∃ G, getR l ((p + 1 : Nat) : Int) = G := ⟨_, rfl⟩
          obtain ⟨v, gn, ge⟩ := G
          rw [hG] at h he
          simp only at he
          subst he
          simp only [Option.some.injEq, Prod.mk.injEq] at h
          obtain ⟨rfl, rfl⟩ := h
          obtain ⟨_, m, rfl, h3, h4, h5⟩ := getR_only l h256 _ v gn hG
          have hv : v < 18446744073709551616 := by
            unfold getR at hG
            rw [if_neg (by omega)] at hG
            simp only [Int.toNat_natCast] at hG
            obtain ⟨S, hS⟩ : ∃ S, getS (l.drop (p + 1)) 0 0 = S := ⟨_, rfl⟩
            obtain ⟨sv, sn, se⟩ := S
            rw [hS] at hG
            simp only [] at hG
            by_cases hse : se = 0
            · rw [if_pos hse] at hG
              subst hse
              have hb := getS_bound (l.drop (p + 1)) 0 0 sv sn (fun c hc => h256 c (List.mem_of_mem_drop hc)) (by omega) (by simp) hS
              simp only [Prod.mk.injEq, and_true] at hG
              omega
            · rw [if_neg hse] at hG
              simp only [Prod.mk.injEq] at hG
              omega
          have hb := zagZ_bd v hv
          refine ⟨rfl, ⟨by simp, hb, by simp [ByteArray.size]⟩, by simp [ByteArray.size], by simp only [Int.toNat_natCast]; omega, by simp only [Int.toNat_natCast]; omega, ?_⟩
          unfold encV
          simp only [if_neg (show ¬ 1 = 0 by omega), if_true, zig_zag]
          rw [hd, h5, h1]
          simp only [Int.toNat_natCast]
          rw [show m - p = (m - (p + 1)) + 1 by omega, List.take_succ_cons]
        · rw [if_neg he] at h; cases h
      · rw [if_neg h1] at h
        by_cases h2 : k = 2 ∨ k = 3
        · rw [if_pos h2] at h
          by_cases he : (textR l ((p + 1 : Nat) : Int)).2.2 = 0
          · rw [if_pos he] at h
            obtain ⟨G, hG⟩ : ∃ G, textR l ((p + 1 : Nat) : Int) = G := ⟨_, rfl⟩
            obtain ⟨v, gn, ge⟩ := G
            rw [hG] at h he
            simp only at he
            subst he
            simp only [Option.some.injEq, Prod.mk.injEq] at h
            obtain ⟨rfl, rfl⟩ := h
            obtain ⟨m, rfl, h3, h4, h5, h6⟩ := textR_only l h256 _ v gn hG
            refine ⟨?_, ⟨by simp only; omega, by simp, by simp only; omega⟩, h5, by simp only [Int.toNat_natCast]; omega, by simp only [Int.toNat_natCast]; omega, ?_⟩
            · unfold Vl.right
              simp only [if_neg h0, if_neg h1, if_pos h2]; rfl
            · unfold encV
              simp only [if_neg h0, if_neg h1]
              rw [hd, h6]
              simp only [Int.toNat_natCast]
              rw [show m - p = (m - (p + 1)) + 1 by omega, List.take_succ_cons]
          · rw [if_neg he] at h; cases h
        · rw [if_neg h2] at h; cases h

/-- The first i values from index p on. -/
def readN (l : List Nat) (p : Nat) : Nat → Option (List Vl × Nat)
  | 0 => some ([], p)
  | i + 1 => match readN l p i with
    | none => none
    | some (acc, q) => match decV l q with
      | none => none
      | some (x, n) => some (acc ++ [x], n)

theorem readN_none {l : List Nat} {p i : Nat} (h : readN l p i = none) : ∀ j, i ≤ j → readN l p j = none := by
  intro j hj
  induction j with
  | zero => rw [show i = 0 by omega] at h; exact h
  | succ j ih =>
    by_cases e : i = j + 1
    · rw [← e]; exact h
    · rw [readN, ih (by omega)]

theorem encL_snoc (l : List Vl) (x : Vl) : encL (l ++ [x]) = encL l ++ encV x := by simp [encL]

theorem encL_take (l : List Vl) (i : Nat) (h : i < l.length) : encL (l.take (i + 1)) = encL (l.take i) ++ encV l[i] := by
  rw [List.take_succ_eq_append_getElem h, encL_snoc]

theorem encL_split (l : List Vl) (i : Nat) (h : i < l.length) : encL l = encL (l.take i) ++ (encV l[i] ++ encL (l.drop (i + 1))) := by
  unfold encL
  conv => lhs; rw [← List.take_append_drop i l, List.drop_eq_getElem_cons h]
  rw [List.flatMap_append, List.flatMap_cons]

theorem readN_enc (A B : List Nat) (l : List Vl) (hr : ∀ x ∈ l, x.right = true) (hf : ∀ x ∈ l, x.fair) : ∀ i, i ≤ l.length → readN (A ++ (encL l ++ B)) A.length i = some (l.take i, A.length + (encL (l.take i)).length) := by
  intro i
  induction i with
  | zero => intro _; simp [readN, encL]
  | succ i ih =>
    intro hi
    have hi' : i < l.length := by omega
    rw [readN, ih (by omega)]
    simp only []
    have h := decV_enc (A ++ encL (l.take i)) (encL (l.drop (i + 1)) ++ B) l[i] (hr _ (List.getElem_mem hi')) (hf _ (List.getElem_mem hi'))
    have e : (A ++ encL (l.take i)) ++ (encV l[i] ++ (encL (l.drop (i + 1)) ++ B)) = A ++ (encL l ++ B) := by
      rw [encL_split l i hi']; simp
    rw [e, List.length_append] at h
    rw [h]
    simp only [Option.some.injEq, Prod.mk.injEq]
    rw [encL_take l i hi', List.length_append, List.take_succ_eq_append_getElem hi']
    exact ⟨rfl, by omega⟩

theorem take_more (l : List Nat) (p q n : Nat) (h1 : p ≤ q) (h2 : q ≤ n) : (l.drop p).take (q - p) ++ (l.drop q).take (n - q) = (l.drop p).take (n - p) := by
  have e : l.drop q = (l.drop p).drop (q - p) := by rw [List.drop_drop]; congr 1; omega
  rw [e, ← List.take_add]
  congr 1; omega

theorem enc_readN (l : List Nat) (h256 : ∀ c ∈ l, c < 256) (hl : l.length < 18446744073709551616) (p : Nat) (hp : p ≤ l.length) : ∀ (i : Nat) (acc : List Vl) (q : Nat), readN l p i = some (acc, q) →
    acc.length = i ∧ (∀ x ∈ acc, x.right = true) ∧ (∀ x ∈ acc, x.fair) ∧ (∀ x ∈ acc, x.s.size ≤ l.length) ∧ p + i ≤ q ∧ q ≤ l.length ∧ encL acc = (l.drop p).take (q - p) := by
  intro i
  induction i with
  | zero =>
    intro acc q h
    simp only [readN, Option.some.injEq, Prod.mk.injEq] at h
    obtain ⟨rfl, rfl⟩ := h
    exact ⟨rfl, by simp, by simp, by simp, by omega, hp, by simp [encL]⟩
  | succ i ih =>
    intro acc q h
    rw [readN] at h
    cases hR : readN l p i with
    | none => rw [hR] at h; cases h
    | some R =>
      obtain ⟨acc0, q0⟩ := R
      rw [hR] at h
      simp only [] at h
      obtain ⟨a1, a2, a3, a4, a5, a6, a7⟩ := ih acc0 q0 hR
      cases hD : decV l q0 with
      | none => rw [hD] at h; cases h
      | some D =>
        obtain ⟨x, n⟩ := D
        rw [hD] at h
        simp only [Option.some.injEq, Prod.mk.injEq] at h
        obtain ⟨rfl, rfl⟩ := h
        obtain ⟨b1, b2, b3, b4, b5, b6⟩ := enc_decV l h256 hl q0 x n hD
        refine ⟨by simp [a1], ?_, ?_, ?_, by omega, b5, ?_⟩
        · intro y hy; rcases List.mem_append.1 hy with hy | hy
          · exact a2 y hy
          · rw [List.mem_singleton.1 hy]; exact b1
        · intro y hy; rcases List.mem_append.1 hy with hy | hy
          · exact a3 y hy
          · rw [List.mem_singleton.1 hy]; exact b2
        · intro y hy; rcases List.mem_append.1 hy with hy | hy
          · exact a4 y hy
          · rw [List.mem_singleton.1 hy]; exact b3
        · rw [encL_snoc, a7, b6]
          exact take_more l p q0 n (by omega) (by omega)

/-- May be a row? -/
def rowOk (l : List Vl) : Bool := decide (l.length ≤ 16) && l.all Vl.right

/-- What is written of a row: its bytes, the error. -/
def writeV (l : List Vl) : List Nat × Int :=
  if rowOk l = false then ([], 3) else if 8192 < 1 + (encL l).length then ([], 2) else (l.length :: encL l, 0)

/-- What is read of bytes: the row, the error. -/
def readV (l : List Nat) : List Vl × Int :=
  if 8192 < l.length then ([], 2)
  else if (getR l 0).2.2 ≠ 0 ∨ 16 < (getR l 0).1 then ([], 3)
  else match readN l (getR l 0).2.1.toNat (getR l 0).1 with
    | none => ([], 3)
    | some (acc, q) => if q ≠ l.length then ([], 3) else (acc, 0)

theorem rowOk_iff (l : List Vl) : rowOk l = true ↔ l.length ≤ 16 ∧ ∀ x ∈ l, x.right = true := by
  simp [rowOk]

theorem encV_lt (x : Vl) (hk : x.k < 256) : ∀ c ∈ encV x, c < 256 := by
  intro c hc
  unfold encV at hc
  split at hc
  · simp at hc; omega
  · split at hc
    · rcases List.mem_cons.1 hc with rfl | hc
      · omega
      · exact putL_byte _ c hc
    · rcases List.mem_cons.1 hc with rfl | hc
      · exact hk
      · rcases List.mem_append.1 hc with hc | hc
        · exact putL_byte _ c hc
        · exact bytesOf_lt _ c hc

theorem encL_lt (l : List Vl) (hk : ∀ x ∈ l, x.k < 256) : ∀ c ∈ encL l, c < 256 := by
  intro c hc
  obtain ⟨x, hx, hc⟩ := List.mem_flatMap.1 hc
  exact encV_lt x (hk x hx) c hc

/-- The first byte says how many values there are. -/
theorem first_byte (l : List Nat) (h256 : ∀ c ∈ l, c < 256) : (l = [] ∧ (getR l 0).2.2 ≠ 0) ∨
    (∃ c r, l = c :: r ∧ c ≤ 16 ∧ getR l 0 = (c, 1, 0)) ∨ (∃ c r, l = c :: r ∧ 16 < c ∧ ((getR l 0).2.2 ≠ 0 ∨ 16 < (getR l 0).1)) := by
  cases l with
  | nil => left; exact ⟨rfl, by decide⟩
  | cons c r =>
    right
    have hc := h256 c (by simp)
    by_cases h : c < 128
    · have hg : getR (c :: r) 0 = (c, 1, 0) := by
        unfold getR
        rw [if_neg (by simp; omega)]
        simp [getS, h]
      by_cases h16 : c ≤ 16
      · exact .inl ⟨c, r, rfl, h16, hg⟩
      · exact .inr ⟨c, r, rfl, by omega, .inr (by rw [hg]; simp only; omega)⟩
    · refine .inr ⟨c, r, rfl, by omega, ?_⟩
      obtain ⟨G, hG⟩ : ∃ G, getR (c :: r) 0 = G := ⟨_, rfl⟩
      obtain ⟨v, n, e⟩ := G
      by_cases he : e = 0
      · subst he
        obtain ⟨_, m, rfl, h3, h4, h5⟩ := getR_only (c :: r) h256 0 v n hG
        rw [hG]
        right
        by_cases hv : v < 128
        · rw [putL_small hv] at h5
          simp only [Int.toNat_zero, List.drop_zero, Nat.sub_zero] at h5
          obtain ⟨m', rfl⟩ : ∃ m', m = m' + 1 := ⟨m - 1, by omega⟩
          rw [List.take_succ_cons] at h5
          simp only [List.cons.injEq] at h5
          omega
        · simp only; omega
      · left; rw [hG]; exact he
end Go.Proofs.Ytlcphgomhhejbaa
