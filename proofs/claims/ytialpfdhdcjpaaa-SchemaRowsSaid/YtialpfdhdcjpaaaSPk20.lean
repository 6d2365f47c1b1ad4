/- Several texts of one proof, one behind the other. -/
import Derived.Test.YtialpfdhdcjpaaaSPk19
import Derived.Laws.AppendOwnNone
set_option linter.unusedSimpArgs false
set_option linter.unusedVariables false

/- The walks of the laws RecordOrders and RecordTotal. -/
set_option linter.unusedSimpArgs false
set_option linter.unusedVariables false
set_option maxRecDepth 100000
namespace Go.Proofs.Ytialpfdhdcjpaaa
open Go.RowKit

/-- What the walk is told of a row that came in. -/
def RowIn (w : World) (a : Option Addr) (len cap : Nat) (l : List Vl) : Prop := len = l.length ∧ len ≤ cap ∧ cap ≤ 9223372036854775807 ∧ Vs w.heap.size w a l ∧ ∀ x ∈ l, Came x

theorem RowIn.great {w : World} {a : Option Addr} {len cap : Nat} {l : List Vl} (h : RowIn w a len cap l) : Calls Try.prog 18 #[.slice a len cap] w (RetG w l) :=
  Great_any w.heap.size l a len cap w h.2.2.2.1 h.1 (fun x hx => (h.2.2.2.2 x hx).2.2) (by have := h.2.1; have := h.2.2.1; omega)

theorem RowIn.later {w w' : World} {a : Option Addr} {len cap : Nat} {l : List Vl} (h : RowIn w a len cap l) (hb : Below w.heap.size w w') : RowIn w' a len cap l :=
  ⟨h.1, h.2.1, h.2.2.1, (h.2.2.2.1.below hb).mono hb.size, h.2.2.2.2⟩

/-! The order is total. -/
open Classical in
theorem lexO_neg : ∀ (l m : List Vl), (∀ x ∈ l, x.right = true) → (∀ x ∈ m, x.right = true) → lexO l m = -lexO m l
  | [], [], _, _ => rfl
  | [], _ :: _, _, _ => rfl
  | _ :: _, [], _, _ => rfl
  | x :: l, y :: m, h1, h2 => by
    have ho := (order_total x y y (h1 x (by simp)) (h2 y (by simp)) (h2 y (by simp))).1
    have ih := lexO_neg l m (fun z hz => h1 z (by simp [hz])) (fun z hz => h2 z (by simp [hz]))
    rw [lexO, lexO, ho]
    by_cases h0 : orderV y x = 0
    · rw [if_pos (by omega), if_pos h0]; exact ih
    · rw [if_neg (by omega), if_neg h0]

theorem lexO_bd : ∀ (l m : List Vl), -1 ≤ lexO l m ∧ lexO l m ≤ 1
  | [], [] => by simp [lexO]
  | [], _ :: _ => by simp [lexO]
  | _ :: _, [] => by simp [lexO]
  | x :: l, y :: m => by
    have h1 := orderV_bd x y
    have h2 := lexO_bd l m
    rw [lexO]
    by_cases h : orderV x y = 0
    · rw [if_pos h]; exact h2
    · rw [if_neg h]; exact h1

theorem lexO_zero : ∀ (l m : List Vl), (∀ x ∈ l, x.right = true) → (∀ x ∈ m, x.right = true) → (lexO l m = 0 ↔ l = m)
  | [], [], _, _ => by simp [lexO]
  | [], _ :: _, _, _ => by simp [lexO]
  | _ :: _, [], _, _ => by simp [lexO]
  | x :: l, y :: m, h1, h2 => by
    have ho := (order_total x y y (h1 x (by simp)) (h2 y (by simp)) (h2 y (by simp))).2.1
    have ih := lexO_zero l m (fun z hz => h1 z (by simp [hz])) (fun z hz => h2 z (by simp [hz]))
    rw [lexO]
    by_cases h0 : orderV x y = 0
    · rw [if_pos h0, ih]
      have := ho.1 h0
      subst this
      simp
    · rw [if_neg h0]
      constructor
      · intro h; exact absurd h h0
      · intro h
        simp only [List.cons.injEq] at h
        exact absurd (ho.2 h.1) h0

theorem lexO_trans : ∀ (l m n : List Vl), (∀ x ∈ l, x.right = true) → (∀ x ∈ m, x.right = true) → (∀ x ∈ n, x.right = true) → lexO l m ≤ 0 → lexO m n ≤ 0 → lexO l n ≤ 0 ∧ (lexO l m < 0 ∨ lexO m n < 0 → lexO l n < 0)
  | [], [], [], _, _, _, _, _ => by simp [lexO]
  | [], [], _ :: _, _, _, _, _, _ => by simp [lexO]
  | [], _ :: _, [], _, _, _, _, h => by simp [lexO] at h
  | [], _ :: _, _ :: _, _, _, _, _, _ => by simp [lexO]
  | _ :: _, [], _, _, _, _, h, _ => by simp [lexO] at h
  | _ :: _, _ :: _, [], _, _, _, _, h => by simp [lexO] at h
  | x :: l, y :: m, z :: n, h1, h2, h3, ha, hb => by
    have e1 := h1 x (by simp)
    have e2 := h2 y (by simp)
    have e3 := h3 z (by simp)
    obtain ⟨_, o1, o2, o3⟩ := order_total x y z e1 e2 e3
    obtain ⟨_, p1, _, _⟩ := order_total y z z e2 e3 e3
    obtain ⟨_, q1, _, _⟩ := order_total x z z e1 e3 e3
    simp only [lexO] at ha hb ⊢
    by_cases hxy : orderV x y = 0
    · simp only [if_pos hxy] at ha ⊢
      have := o1.1 hxy
      subst this
      by_cases hyz : orderV x z = 0
      · simp only [if_pos hyz] at hb ⊢
        exact lexO_trans l m n (fun z hz => h1 z (by simp [hz])) (fun z hz => h2 z (by simp [hz])) (fun z hz => h3 z (by simp [hz])) ha hb
      · simp only [if_neg hyz] at hb ⊢
        exact ⟨hb, fun _ => by omega⟩
    · simp only [if_neg hxy] at ha ⊢
      by_cases hyz : orderV y z = 0
      · have := p1.1 hyz
        subst this
        simp only [if_pos hyz, if_neg hxy] at hb ⊢
        exact ⟨ha, fun _ => by omega⟩
      · simp only [if_neg hyz] at hb ⊢
        have hlt : orderV x z < 0 := by omega
        rw [if_neg (by omega)]
        exact ⟨by omega, fun _ => hlt⟩

end Go.Proofs.Ytialpfdhdcjpaaa

/- The walk of the law RecordBack. -/
set_option linter.unusedSimpArgs false
set_option linter.unusedVariables false
set_option maxRecDepth 100000
namespace Go.Proofs.Ytialpfdhdcjpaaa
open Go.RowKit

theorem read_write {l : List Vl} {x : List Nat} (h : writeV l = (x, 0)) (hf : ∀ y ∈ l, y.fair) : readV x = (l, 0) := by
  cases hro : rowOk l with
  | false => rw [writeV_bad hro] at h; simp at h
  | true =>
    by_cases hl : 8192 < 1 + (encL l).length
    · rw [writeV_long hro hl] at h; simp at h
    · rw [writeV_good hro hl] at h
      simp only [Prod.mk.injEq, and_true] at h
      subst h
      obtain ⟨h16, hr⟩ := (rowOk_iff l).1 hro
      have hg : getR (l.length :: encL l) 0 = (l.length, ((1 : Nat) : Int), 0) := by
        unfold getR
        rw [if_neg (by simp; omega)]
        simp [getS, show l.length < 128 by omega]
      have hn := readN_enc [l.length] [] l hr hf l.length (Nat.le_refl _)
      rw [List.append_nil, List.take_length] at hn
      have e : [l.length] ++ encL l = l.length :: encL l := rfl
      rw [e] at hn
      rw [readV_go (by simp; omega) hg (by omega)]
      have e2 : [l.length].length = 1 := rfl
      rw [e2] at hn
      rw [hn]
      simp only []
      rw [if_neg (by simp; omega)]

theorem write_read (b : List Nat) (h256 : ∀ c ∈ b, c < 256) : ((readV b).2 ≠ 0 ∧ (readV b).1 = []) ∨
    ((readV b).2 = 0 ∧ writeV (readV b).1 = (b, 0) ∧ (∀ y ∈ (readV b).1, y.fair) ∧ (readV b).1.length ≤ 16) := by
  by_cases hlong : 8192 < b.length
  · left; rw [readV_long hlong]; exact ⟨by simp, rfl⟩
  · rcases first_byte b h256 with ⟨hnil, he⟩ | ⟨c, r, hcr, h16, hg⟩ | ⟨c, r, hcr, h16, he⟩
    · left; rw [readV_head hlong (.inl he)]; exact ⟨by simp, rfl⟩
    · rw [readV_go (p := 1) hlong hg (by omega)]
      cases hR : readN b 1 c with
      | none => left; exact ⟨by simp, rfl⟩
      | some R =>
        obtain ⟨acc, q⟩ := R
        simp only []
        by_cases hq : q = b.length
        · right
          rw [if_neg (by simp [hq])]
          obtain ⟨e1, e2, e3, e4, e5, e6, e7⟩ := enc_readN b h256 (by omega) 1 (by rw [hcr]; simp) c acc q hR
          refine ⟨rfl, ?_, e3, by simp only; omega⟩
          have hr : rowOk acc = true := (rowOk_iff acc).2 ⟨by omega, e2⟩
          have hl : (encL acc).length ≤ q - 1 := by rw [e7, List.length_take]; omega
          have hp : 0 < b.length := by rw [hcr]; simp
          simp only []
          rw [writeV_good hr (by omega), e7, e1, hq]
          rw [hcr]
          simp
        · left
          rw [if_pos hq]; exact ⟨by simp, rfl⟩
    · left; rw [readV_head hlong he]; exact ⟨by simp, rfl⟩

theorem writeV_len (l : List Vl) : (writeV l).1.length ≤ 8192 := by
  unfold writeV
  split
  · simp
  · split
    · simp
    · simp; omega

theorem writeV_lt (l : List Vl) (hf : ∀ x ∈ l, x.fair) : ∀ c ∈ (writeV l).1, c < 256 := by
  intro c hc
  cases hro : rowOk l with
  | false => rw [writeV_bad hro] at hc; simp at hc
  | true =>
    by_cases h : 8192 < 1 + (encL l).length
    · rw [writeV_long hro h] at hc; simp at hc
    · rw [writeV_good hro h] at hc
      rcases List.mem_cons.1 hc with rfl | hc
      · have := ((rowOk_iff l).1 hro).1; omega
      · exact encL_lt l (fun x hx => (hf x hx).1) c hc

end Go.Proofs.Ytialpfdhdcjpaaa

/- The walk of the reference's one. -/
set_option linter.unusedSimpArgs false
set_option linter.unusedVariables false
set_option maxRecDepth 100000
namespace Go.Proofs.Ytialpfdhdcjpaaa
open Go.RowKit

theorem textR_of {l : List Nat} {at_ : Int} {v : Nat} {m q : Nat} (h : getR l at_ = (v, (m : Int), q)) : textR l at_ =
    if q ≠ 0 then (ByteArray.empty, 0, q) else if (l.length : Int) - m < (v : Int) then (ByteArray.empty, 0, 10) else (strN ((l.drop m).take v), (m : Int) + v, 0) := by
  unfold textR; rw [h]; simp only [Int.toNat_natCast]

end Go.Proofs.Ytialpfdhdcjpaaa

/- The walk of the reference's Read of rows. -/
set_option linter.unusedSimpArgs false
set_option linter.unusedVariables false
set_option maxRecDepth 100000
namespace Go.Proofs.Ytialpfdhdcjpaaa
open Go.RowKit

theorem strN_ne {a b : List Nat} (h : a.length ≠ b.length) : ((strN a).toList == (strN b).toList) = false := by
  rw [Bool.eq_false_iff]
  intro hh
  have := congrArg ByteArray.size (toList_inj (eq_of_beq hh))
  rw [strN_size, strN_size] at this
  exact h this

end Go.Proofs.Ytialpfdhdcjpaaa

/- The walk of the law RecordBytes. -/
set_option linter.unusedSimpArgs false
set_option linter.unusedVariables false
set_option maxRecDepth 100000
namespace Go.Proofs.Ytialpfdhdcjpaaa
open Go.RowKit

/-- A row of no byte that has just been made. -/
theorem OwnB.none_ (w : World) (base : Nat) (T : TypeId) (g : Nat) (hb : base ≤ w.heap.size) (hg : g = w.heap.size) : OwnB (w.alloc (.cells #[] T)) base T (.slice (some ⟨g, 0, none⟩) 0 0) [] := by
  subst hg
  exact ⟨by simp, by simp, .inr ⟨w.heap.size, 0, #[], by simp, hb, heap_alloc_new _ _, by simp, by unfold maxLen; omega, by simp, by simp⟩⟩

/-- 'append(b, c...)' of bytes that came in: nil, none, some. -/
theorem wpList_appIn {P : Program} {ops : Array Oper} {rest : List Oper} {o : Oper} {a : Act} {Q : Exit → Act → World → Prop} (hgd : o.guard = none) (sl x : Operand) (t : TypeId)
    (ho : o.op = .call { callee := .builtin .append, args := #[sl, x], argTypes := #[t, t] })
    (base : Nat) (e : TypeId) (i : TypeInfo) (ht : P.underlying t = some (.slice e)) (hi : P.info? e = some i) (hz : i.zero = some (.int .u8 0))
    (hsize : i.size = 1) (hby : i.bytes = 1)
    (v : Value) (l : List Nat) (w : World) (hown : OwnB w base e v l) (hs : a.eval sl = v) (N : Nat) (ad : Option Addr) (m : List Nat) (n c : Nat) (hB : Bs N w ad m) (hnil : ad = none → n = 0 ∧ c = 0) (hn : n = m.length) (hx : a.eval x = .slice ad n c)
    (hlen : l.length + m.length < 100000000000000) (hbase : base ≤ w.heap.size)
    (h : ∀ v' w', OwnB w' base e v' (l ++ m) → Below base w w' → w.heap.size ≤ w'.heap.size → wpList P ops Q rest (a.put o.dst v') w') : wpList P ops Q (o :: rest) a w := by
  by_cases hm : m = []
  · subst hm
    subst hn
    cases ad with
    | none =>
      obtain ⟨_, rfl⟩ := hnil rfl
      refine wpList_append_own_none hgd sl x t ho base e i 1 ht hi v l.length _ hs hown.2 hx ?_
      exact h v w (by simpa using hown) (Below.refl _ _) (Nat.le_refl _)
    | some p =>
      refine wpList_append_own w hgd sl x t ho base e i (.int .u8 0) 1 1 ht hi hz hsize hby rfl (by decide) v l.length _ hs hown.2 p 0 c [] hx rfl (by simp) (by simp) ?_ ?_ hbase ?_
      · unfold maxLen; simp at hlen; omega
      · simp at hlen; omega
      · intro v' w' hown' hgrow _
        exact h v' w' ⟨by simpa using hown.1, by simpa using hown'⟩ ((Below.refl base w).grown hgrow hbase (fun j hj => (hown.2.lt j hj).1)) hgrow.size
  · exact wpList_appB hgd sl x t ho base e i ht hi hz hsize hby v l w hown hs N ad m n c hB hm hn hx hlen hbase h

/-- Bytes of the call's own that may be written, in one block. -/
def RWr (w : World) (g n : Nat) : Prop := ∀ i, i < n → (∃ c : Nat, c < 256 ∧ w.cell? ⟨g, i, none⟩ = some (.int .u8 (c : Int))) ∧ w.frozen? ⟨g, i, none⟩ = false

theorem RWr.of {w : World} {base g n cap : Nat} {T : TypeId} {l : List Nat} (h : OwnB w base T (.slice (some ⟨g, 0, none⟩) n cap) l) (hn : n = l.length) : RWr w g n := by
  subst hn
  obtain ⟨h0, h1, h2⟩ := h
  intro i hi
  rcases h2 with ⟨hv, hn⟩ | ⟨g', cap', cur, hv, hg, hh, hnc, hcm, hcs, hcur⟩
  · omega
  · injection hv with e1 e2 e3
    simp only [Option.some.injEq, Addr.mk.injEq, and_true] at e1
    subst e1
    refine ⟨⟨l[i], h0 _ (List.getElem_mem hi), ?_⟩, ?_⟩
    · have e1 : (cur.toList.take (l.length * 1))[i]? = some (Value.int .u8 (l[i] : Int)) := by rw [hcur]; simp [hi]
      rw [List.getElem?_take_of_lt (by omega)] at e1
      simp only [World.cell?, hh]
      simpa using e1
    · simp [World.frozen?, hh]

theorem RWr.set {w : World} {g n : Nat} (h : RWr w g n) (k d : Nat) (hd : d < 256) : RWr (w.setCell ⟨g, k, none⟩ (.int .u8 (d : Int))) g n := by
  intro i hi
  obtain ⟨⟨c, hc, hcell⟩, hf⟩ := h i hi
  refine ⟨?_, by rw [World.frozen?_setCell]; exact hf⟩
  by_cases hik : i = k
  · subst hik
    exact ⟨d, hd, World.cell?_setCell_same _ _ _ hcell⟩
  · exact ⟨c, hc, (World.cell?_setCell_other _ _ _ _ (by simp [Ne.symm hik])).trans hcell⟩

theorem LaterB.below {B N : Nat} {w w' : World} (h : LaterB B w w') (hB : N ≤ B) (hN : N ≤ w.heap.size) : Below N w w' :=
  ⟨h.os, h.tape, h.output, h.size, fun k hk => h.block k (by omega) (by omega)⟩

theorem Vs.laterB {B : Nat} {w w' : World} {a : Option Addr} {l : List Vl} (h : Vs w.heap.size w a l) (hl : LaterB B w w') (hf : l ≠ [] → ∃ g, a = some ⟨g, 0, none⟩ ∧ B < g) : Vs w'.heap.size w' a l := by
  by_cases h0 : l = []
  · exact .inl h0
  · obtain ⟨g, rfl, hg⟩ := hf h0
    rcases h with h | ⟨b, o, ha, hN, hc⟩
    · exact .inl h
    · simp only [Option.some.injEq, Addr.mk.injEq, and_true] at ha
      obtain ⟨rfl, rfl⟩ := ha
      have hne : g ≠ B := by omega
      refine .inr ⟨g, 0, rfl, Nat.lt_of_lt_of_le hN hl.size, fun i x hi => ?_⟩
      obtain ⟨c0, c1, c2⟩ := hc i x hi
      exact ⟨(hl.cell hN hne).trans c0, (hl.cell hN hne).trans c1, (hl.cell hN hne).trans c2⟩

theorem xor255 (c : Nat) (h : c < 256) : ∃ d : Nat, d < 256 ∧ bits .xor .u8 (c : Int) 255 = (d : Int) := by
  refine ⟨c ^^^ 255, Nat.xor_lt_two_pow (n := 8) h (by omega), ?_⟩
  exact u8_xor_nat c 255 h (by omega)

end Go.Proofs.Ytialpfdhdcjpaaa

/- The walk of the reference's Next. -/
set_option linter.unusedSimpArgs false
set_option linter.unusedVariables false
set_option maxRecDepth 100000
namespace Go.Proofs.Ytialpfdhdcjpaaa
open Go.RowKit

/-- The next front, and whether there is one. -/
def RetN (w : World) (o : List Nat × Bool) (e : Ending) (w' : World) : Prop :=
  Below w.heap.size w w' ∧ ∃ a cap, e = .returned (.tuple #[.slice a o.1.length cap, .bool o.2]) ∧ o.1.length ≤ cap ∧ Bs w'.heap.size w' a o.1

theorem retN_no (w w' : World) (o : List Nat × Bool) (ho : o = ([], false)) (hb : Below w.heap.size w w') : RetN w o (.returned (.tuple #[.slice none 0 0, .bool false])) w' := by
  subst ho
  exact ⟨hb, Option.none, 0, rfl, by simp, by simp, .inl rfl⟩

theorem Bs.setLast {N : Nat} {w : World} {g : Nat} {p : List Nat} {c d : Nat} (h : Bs N w (some ⟨g, 0, none⟩) (p ++ [c])) (hd : d < 256) (k : Nat) (hk : k = p.length) :
    Bs N (w.setCell ⟨g, k, none⟩ (.int .u8 (d : Int))) (some ⟨g, 0, none⟩) (p ++ [d]) := by
  subst hk
  obtain ⟨h1, h2⟩ := h
  refine ⟨?_, .inr ?_⟩
  · intro x hx
    rcases List.mem_append.1 hx with hx | hx
    · exact h1 x (by simp [hx])
    · rw [List.mem_singleton.1 hx]; exact hd
  · rcases h2 with h2 | ⟨b, o, ha, hN, hc⟩
    · simp at h2
    · simp only [Option.some.injEq, Addr.mk.injEq, and_true] at ha
      obtain ⟨rfl, rfl⟩ := ha
      refine ⟨g, 0, rfl, hN, fun i x hi => ?_⟩
      rw [Nat.zero_add]
      by_cases hip : i = p.length
      · subst hip
        have := hc p.length c (by simp)
        rw [Nat.zero_add] at this
        rw [List.getElem?_append_right (by omega), Nat.sub_self] at hi
        simp at hi
        rw [World.cell?_setCell_same _ _ _ this, hi]
      · have hlt : i < p.length := by
          by_cases hlt : i < (p ++ [d]).length
          · simp at hlt; omega
          · rw [List.getElem?_eq_none (by omega)] at hi; simp at hi
        rw [List.getElem?_append_left hlt] at hi
        have := hc i x (by rw [List.getElem?_append_left hlt]; exact hi)
        rw [Nat.zero_add] at this
        exact (World.cell?_setCell_other _ _ _ _ (by simp [Ne.symm hip])).trans this

theorem OwnB.last {w : World} {base : Nat} {T : TypeId} {v : Value} {p : List Nat} {x j : Nat} (h : OwnB w base T v ([] ++ (p ++ [x]))) (hj : j = p.length) :
    ∃ g cap, v = .slice (some ⟨g, 0, none⟩) (j + 1) cap ∧ j + 1 ≤ cap ∧ base ≤ g ∧ Bs w.heap.size w (some ⟨g, 0, none⟩) (p ++ [x]) ∧ w.cell? ⟨g, j, none⟩ = some (.int .u8 (x : Int)) ∧ w.frozen? ⟨g, j, none⟩ = false := by
  rw [List.nil_append] at h
  subst hj
  obtain ⟨a, cap, rfl, hcap, hB, hg⟩ := h.slice
  obtain ⟨g, rfl, hgb⟩ := hg (by simp)
  obtain ⟨⟨c, hc, hcell⟩, hf⟩ := (RWr.of h (n := (p ++ [x]).length) rfl) p.length (by simp)
  have hl : (p ++ [x]).length = p.length + 1 := by simp
  rw [hl] at hcap ⊢
  refine ⟨g, cap, rfl, hcap, hgb, hB, ?_, hf⟩
  rcases hB.2 with h2 | ⟨b, o, ha, hN, hc⟩
  · simp at h2
  · simp only [Option.some.injEq, Addr.mk.injEq, and_true] at ha
    obtain ⟨rfl, rfl⟩ := ha
    have := hc p.length x (by simp)
    rwa [Nat.zero_add] at this

theorem retN_yes {w w1 : World} {o : List Nat × Bool} {p : List Nat} {x j g c : Nat} (ho : o = (p ++ [x + 1], true)) (hj : j = p.length) (hc : j + 1 ≤ c) (hb : Below w.heap.size w w1) (hg : w.heap.size ≤ g) (hx : x + 1 < 256)
    (hB : Bs w1.heap.size w1 (some ⟨g, 0, none⟩) (p ++ [x])) (n : Int) (hn : n = ((x + 1 : Nat) : Int)) :
    RetN w o (.returned (.tuple #[.slice (some ⟨g, 0, none⟩) (j + 1) c, .bool true])) (w1.setCell ⟨g, j, none⟩ (.int .u8 n)) := by
  subst ho hn
  have hl : (p ++ [x + 1]).length = j + 1 := by simp [hj]
  have h2 := (hB.setLast hx j hj)
  have hL := (LaterB.setCell (w := w1) (b := g) (o := j) (.int .u8 ((x + 1 : Nat) : Int)))
  refine ⟨hb.trans (hL.belowK hg hb.size), Option.some ⟨g, 0, Option.none⟩, c, ?_, ?_, h2.mono hL.size⟩
  · dsimp only; rw [hl]
  · dsimp only; omega

end Go.Proofs.Ytialpfdhdcjpaaa
