/- Several texts of one proof, one behind the other. -/
import Derived.Test.YtialpfdhdcjpaaaSPk18
import Derived.OpenShut
import Derived.Lib.SmallJoins
set_option linter.unusedSimpArgs false
set_option linter.unusedVariables false

/- A region walked along a tree of orders, where all that was made since its beginning may be written; the rest behind it is walked once, from what R tells. -/
set_option linter.unusedSimpArgs false
set_option linter.unusedVariables false
set_option maxRecDepth 100000
namespace Go.Proofs.Ytialpfdhdcjpaaa
open Go.RowKit

/-- What the region's end must tell. -/
def cutQ (R : Act → World → Prop) (Q : Exit → Act → World → Prop) : Exit → Act → World → Prop
  | .normal, a, w => R a w
  | e, a, w => Q e a w
theorem wp_region_treeK {P : Program} {ops : Array Oper} {Q : Exit → Act → World → Prop} {id : Nat} {a : Act} {w : World} (N : Nat) (t : OT) (R : Act → Act → World → Prop) (hm : P.follows .mixedOrders = true) (hs : Region.noSelect ops = true)
    (hl : decide (t.high ≤ ops.size) = true) (hc : checkT .any ops t (Array.replicate ops.size false) = true) (h : wpT P ops (NoPanic (cutQ (R a) Q)) (Kp N (fun _ => True)) t a w.drew) (hq : ∀ a' w', R a a' w' → Q .normal a' w') : (Code.region id ops true).wp P Q a w :=
  Code.wp_mono (Q := cutQ (R a) Q) (fun e a' w' h => by cases e <;> first | exact hq _ _ h | exact h)
    (wp_region_noPanic (wp_region_held hm (wpT_sound (Kp.refl N _) Kp.trans hs (NoPanic.put _) t ops.size _ a w.drew (of_decide_eq_true hl) hc h)))
end Go.Proofs.Ytialpfdhdcjpaaa

/- The law SchemaTables: its walk. -/
set_option linter.unusedSimpArgs false
set_option linter.unusedVariables false
set_option maxRecDepth 100000
namespace Go.Proofs.Ytialpfdhdcjpaaa
open Go.RowKit

/-- What stays: both tables' boxes, the tables. -/
structure TaW (w W : World) (t u : Tb) (m n : TM) : Prop where
  tb : TBox W w.heap.size m t
  ub : TBox W (w.heap.size + 1) n u
  ta : TAt W t m
  ua : TAt W u n
  bel : Below w.heap.size w W
  lt : w.heap.size + 1 < W.heap.size
theorem TaW.later {w W W' : World} {t u : Tb} {m n : TM} (h : TaW w W t u m n) (hb : Below W.heap.size W W') : TaW w W' t u m n :=
  ⟨h.tb.later (Nat.lt_trans (Nat.lt_succ_self _) h.lt) hb, h.ub.later h.lt hb, h.ta.later hb, h.ua.later hb, h.bel.trans (hb.mono h.bel.size), Nat.lt_of_lt_of_le h.lt hb.size⟩
/-- A table of the reference, made by 'As' from the row of columns on. -/
structure AsOf (W : World) (N : Nat) (t : Tb) (m x : TM) : Prop where
  ka : x.ka = m.ka
  kl : x.kl = m.kl
  kc : x.kc = m.kc
  cl : x.cl = t.cols.length
  row : W.ownsRow N 69 3 (.slice x.ca x.cl x.cc) x.cl (cellsO t.cols)
theorem AsOf.later {W W' : World} {N : Nat} {t : Tb} {m x : TM} (h : AsOf W N t m x) (hb : Below W.heap.size W W') : AsOf W' N t m x := ⟨h.ka, h.kl, h.kc, h.cl, own_below h.row (Nat.le_refl _) hb⟩
theorem AsOf.set {W : World} {N g : Nat} {t : Tb} {m x : TM} {cs new : Array Value} (h : AsOf W N t m x) (hB : Blk W g 30 cs) : AsOf (W.setRow g new) N t m x :=
  ⟨h.ka, h.kl, h.kc, h.cl, own_chg h.row ((Chg.refl _ _).setRow (.inl (List.mem_singleton.2 rfl)) new) (fun k hk hm => by
    rw [List.mem_singleton.1 hm] at hk
    exact own_ne h.row hB (by decide) hk)⟩
theorem AsOf.at_ {W : World} {N : Nat} {t : Tb} {m x : TM} (h : AsOf W N t m x) (hT : TAt W t m) : TAt W t x := by
  obtain ⟨a, c, e, h1, h2, h3⟩ := own_slice h.row
  injection e with e1 e2 e3
  subst e1 e3
  exact ⟨h.cl, by rw [h.kl]; exact hT.hk, h1, by rw [h.kl, h.kc]; exact hT.kcap, h3, by rw [h.ka]; exact hT.karr, hT.fair⟩
/-- How far the region that draws has come. -/
structure RS (w w2 W : World) (t u : Tb) (m n : TM) (o7 o8 : Option Nat) (c1 c2 : Option TM) : Prop where
  bel : Below w2.heap.size w2 W
  b7 : ∀ g, o7 = some g → Blk W g 30 zeroTc ∧ w2.heap.size ≤ g
  b8 : ∀ g, o8 = some g → Blk W g 30 zeroTc ∧ w2.heap.size ≤ g
  ne : ∀ g h, o7 = some g → o8 = some h → g ≠ h
  r1 : ∀ x, c1 = some x → AsOf W w2.heap.size t m x
  r2 : ∀ x, c2 = some x → AsOf W w2.heap.size u n x
theorem RS.later {w w2 W W' : World} {t u : Tb} {m n : TM} {o7 o8 : Option Nat} {c1 c2 : Option TM} (h : RS w w2 W t u m n o7 o8 c1 c2) (hb : Below W.heap.size W W') : RS w w2 W' t u m n o7 o8 c1 c2 :=
  ⟨h.bel.trans (hb.mono h.bel.size), fun g e => ⟨(h.b7 g e).1.belS hb (h.b7 g e).1.lt, (h.b7 g e).2⟩, fun g e => ⟨(h.b8 g e).1.belS hb (h.b8 g e).1.lt, (h.b8 g e).2⟩, h.ne, fun x e => (h.r1 x e).later hb, fun x e => (h.r2 x e).later hb⟩
theorem RS.new {w w2 : World} {t u : Tb} {m n : TM} : RS w w2 w2.drew t u m n none none none none :=
  ⟨(Below.refl _ _).drew, fun _ h => (by cases h), fun _ h => (by cases h), fun _ _ h => (by cases h), fun _ h => (by cases h), fun _ h => (by cases h)⟩
theorem RS.alloc7 {w w2 W : World} {t u : Tb} {m n : TM} {o8 : Option Nat} {c1 c2 : Option TM} (h : RS w w2 W t u m n none o8 c1 c2) : RS w w2 (W.alloc (.cells zeroTc 30)) t u m n (some W.heap.size) o8 c1 c2 := by
  have k := h.later ((Below.refl _ W).alloc (Nat.le_refl _) (.cells zeroTc 30))
  refine ⟨k.bel, fun g e => ?_, k.b8, fun g g' e e' => ?_, k.r1, k.r2⟩
  · injection e with e; subst e; exact ⟨Blk.new _ _ _, h.bel.size⟩
  · injection e with e; subst e; have := (h.b8 g' e').1.lt; omega
theorem RS.alloc8 {w w2 W : World} {t u : Tb} {m n : TM} {o7 : Option Nat} {c1 c2 : Option TM} (h : RS w w2 W t u m n o7 none c1 c2) : RS w w2 (W.alloc (.cells zeroTc 30)) t u m n o7 (some W.heap.size) c1 c2 := by
  have k := h.later ((Below.refl _ W).alloc (Nat.le_refl _) (.cells zeroTc 30))
  refine ⟨k.bel, k.b7, fun g e => ?_, fun g g' e e' => ?_, k.r1, k.r2⟩
  · injection e with e; subst e; exact ⟨Blk.new _ _ _, h.bel.size⟩
  · injection e' with e'; subst e'; have := (h.b7 g e).1.lt; omega
theorem RS.as1 {w w2 W W' : World} {t u : Tb} {m n x : TM} {o7 o8 : Option Nat} {c2 : Option TM} (h : RS w w2 W t u m n o7 o8 none c2) (hb : Below W.heap.size W W') (hx : x.ka = m.ka ∧ x.kl = m.kl ∧ x.kc = m.kc ∧ x.cl = t.cols.length ∧ W'.ownsRow W.heap.size 69 3 (.slice x.ca x.cl x.cc) x.cl (cellsO t.cols)) : RS w w2 W' t u m n o7 o8 (some x) c2 := by
  have k := h.later hb
  refine ⟨k.bel, k.b7, k.b8, k.ne, fun y e => ?_, k.r2⟩
  injection e with e; subst e
  exact ⟨hx.1, hx.2.1, hx.2.2.1, hx.2.2.2.1, own_base hx.2.2.2.2 h.bel.size⟩
theorem RS.as2 {w w2 W W' : World} {t u : Tb} {m n x : TM} {o7 o8 : Option Nat} {c1 : Option TM} (h : RS w w2 W t u m n o7 o8 c1 none) (hb : Below W.heap.size W W') (hx : x.ka = n.ka ∧ x.kl = n.kl ∧ x.kc = n.kc ∧ x.cl = u.cols.length ∧ W'.ownsRow W.heap.size 69 3 (.slice x.ca x.cl x.cc) x.cl (cellsO u.cols)) : RS w w2 W' t u m n o7 o8 c1 (some x) := by
  have k := h.later hb
  refine ⟨k.bel, k.b7, k.b8, k.ne, k.r1, fun y e => ?_⟩
  injection e with e; subst e
  exact ⟨hx.1, hx.2.1, hx.2.2.1, hx.2.2.2.1, own_base hx.2.2.2.2 h.bel.size⟩
/-- The reference's two tables in their variables. -/
structure RF (w W : World) (t u : Tb) (m n x y : TM) (g h : Nat) : Prop where
  base : TaW w W t u m n
  t7 : TBox W g x t
  t8 : TBox W h y u
  a7 : TAt W t x
  a8 : TAt W u y
  g7 : g < W.heap.size
  g8 : h < W.heap.size
theorem RF.later {w W W' : World} {t u : Tb} {m n x y : TM} {g h : Nat} (k : RF w W t u m n x y g h) (hb : Below W.heap.size W W') : RF w W' t u m n x y g h :=
  ⟨k.base.later hb, k.t7.later k.g7 hb, k.t8.later k.g8 hb, k.a7.later hb, k.a8.later hb, Nat.lt_of_lt_of_le k.g7 hb.size, Nat.lt_of_lt_of_le k.g8 hb.size⟩
theorem TBox.of_blk {W : World} {g : Nat} {x : TM} {t : Tb} {T : TypeId} (h : Blk W g T (x.cs t)) : TBox W g x t :=
  ⟨(h.cell 0).trans rfl, (h.cell 1).trans rfl, (h.cell 2).trans rfl, (h.cell 3).trans rfl, (h.cell 4).trans rfl, (h.cell 5).trans rfl, (h.cell 6).trans rfl, (h.cell 7).trans rfl⟩
theorem RS.final {w w2 W : World} {t u : Tb} {m n x y : TM} {g h : Nat} (k : RS w w2 W t u m n (some g) (some h) (some x) (some y)) (hT : TaW w w2 t u m n) : RF w ((W.setRow g (x.cs t)).setRow h (y.cs u)) t u m n x y g h := by
  obtain ⟨b7, n7⟩ := k.b7 g rfl
  obtain ⟨b8, n8⟩ := k.b8 h rfl
  have hne := k.ne g h rfl rfl
  have c1 : Chg [g] W (W.setRow g (x.cs t)) := (Chg.refl _ _).setRow (.inl (List.mem_singleton.2 rfl)) _
  have b7' : Blk (W.setRow g (x.cs t)) g 30 (x.cs t) := Blk.setRow b7
  have b8' : Blk (W.setRow g (x.cs t)) h 30 zeroTc := b8.chg c1 (fun hm => hne (List.mem_singleton.1 hm).symm)
  have c2 : Chg [h] (W.setRow g (x.cs t)) ((W.setRow g (x.cs t)).setRow h (y.cs u)) := (Chg.refl _ _).setRow (.inl (List.mem_singleton.2 rfl)) _
  have b7'' := b7'.chg c2 (fun hm => hne (List.mem_singleton.1 hm))
  have b8'' : Blk ((W.setRow g (x.cs t)).setRow h (y.cs u)) h 30 (y.cs u) := Blk.setRow b8'
  have hb : Below w2.heap.size w2 ((W.setRow g (x.cs t)).setRow h (y.cs u)) := (k.bel.trans (c1.below k.bel.size (by simpa using n7))).trans (c2.below (Nat.le_trans k.bel.size c1.size) (by simpa using n8))
  have hB := hT.later hb
  exact ⟨hB, TBox.of_blk b7'', TBox.of_blk b8'', (((k.r1 x rfl).set b7).set b8').at_ hB.ta, (((k.r2 y rfl).set b7).set b8').at_ hB.ua, b7''.lt, b8''.lt⟩
theorem TbIn.later {w W : World} {t : Tb} {m : TM} (h : TbIn w t m) (hb : Below w.heap.size w W) : TbIn W t m :=
  ⟨h.hc, h.hk, h.ccap, h.kcap, h.cmax, h.kmax, h.carr.later (N := 0) hb, h.karr.later (N := 0) hb, h.nm, h.per, h.fr, h.tt, h.cfair, h.kfair⟩
end Go.Proofs.Ytialpfdhdcjpaaa

/- The walk of record.Read. -/
set_option linter.unusedSimpArgs false
set_option linter.unusedVariables false
set_option maxRecDepth 100000
namespace Go.Proofs.Ytialpfdhdcjpaaa
open Go.RowKit

theorem Try.info52 : (Try.prog.info? 52).map (fun i => (i.zero, i.size, i.bytes)) = some (some (.agg #[.int .u8 0, .int .i64 0, .string ⟨#[]⟩]), 3, 32) := by kernel_rfl

theorem readN_step {l : List Nat} {p i : Nat} {acc : List Vl} {q : Nat} (h : readN l p i = some (acc, q)) {x : Vl} {n : Nat} (hd : decV l q = some (x, n)) : readN l p (i + 1) = some (acc ++ [x], n) := by
  rw [readN, h]; simp only []; rw [hd]
theorem readN_fail {l : List Nat} {p i : Nat} {acc : List Vl} {q : Nat} (h : readN l p i = some (acc, q)) (hd : decV l q = none) : readN l p (i + 1) = none := by
  rw [readN, h]; simp only []; rw [hd]

theorem readV_long {l : List Nat} (h : 8192 < l.length) : readV l = ([], 2) := by unfold readV; rw [if_pos h]
theorem readV_head {l : List Nat} (h : ¬ 8192 < l.length) (h2 : (getR l 0).2.2 ≠ 0 ∨ 16 < (getR l 0).1) : readV l = ([], 3) := by unfold readV; rw [if_neg h, if_pos h2]
theorem readV_go {l : List Nat} (h : ¬ 8192 < l.length) {c : Nat} {p : Nat} (hg : getR l 0 = (c, (p : Int), 0)) (hc : ¬ 16 < c) : readV l = match readN l p c with
    | none => ([], 3)
    | some (acc, q) => if q ≠ l.length then ([], 3) else (acc, 0) := by
  unfold readV; rw [if_neg h, hg]
  simp only [ne_eq, not_true_eq_false, false_or, if_neg hc, Int.toNat_natCast]
  rfl

theorem OwnV.fresh {w : World} {base : Nat} {T : TypeId} {a : Option Addr} {n cap : Nat} {l : List Vl} (h : OwnV w base T (.slice a n cap) l) : l ≠ [] → ∃ g, a = some ⟨g, 0, none⟩ ∧ base ≤ g := by
  intro hne
  obtain ⟨h1, h2⟩ := h
  rcases h2 with ⟨_, hn⟩ | ⟨g, cap', cur, hv, hg, _⟩
  · exact absurd (List.length_eq_zero_iff.1 hn) hne
  · injection hv with e1 e2 e3
    exact ⟨g, e1, hg⟩

/-- A call hands back values, in memory of its own, and an error. -/
def RetVF (w : World) (r : List Vl × Int) (e : Ending) (w' : World) : Prop :=
  ∃ a cap, e = .returned (.tuple #[.slice a r.1.length cap, .int .i64 r.2]) ∧ r.1.length ≤ cap ∧ Vs w'.heap.size w' a r.1 ∧ Below w.heap.size w w' ∧ (r.1 ≠ [] → ∃ g, a = some ⟨g, 0, none⟩ ∧ w.heap.size ≤ g)

end Go.Proofs.Ytialpfdhdcjpaaa

/- The walks of key.tuple and key.Read. -/
set_option linter.unusedSimpArgs false
set_option linter.unusedVariables false
set_option maxRecDepth 100000
namespace Go.Proofs.Ytialpfdhdcjpaaa
open Go.RowKit

theorem LaterB.belowK {B N : Nat} {w w' : World} (h : LaterB B w w') (hB : N ≤ B) (hN : N ≤ w.heap.size) : Below N w w' :=
  ⟨h.os, h.tape, h.output, h.size, fun k hk => h.block k (by omega) (by omega)⟩

/-- The block of a row of the call's own: another one than V, and the only one that an append to the row may write. -/
theorem OwnV.blk {w : World} {base : Nat} {T : TypeId} {v : Value} {l : List Vl} (h : OwnV w base T v l) (V : Nat) (hV : w.heap.size ≤ V) (hb : base ≤ w.heap.size) :
    ∃ B, V ≠ B ∧ base ≤ B ∧ ∀ w1 w2 : World, w1.grownBy w2 v.ownBlock → LaterB B w1 w2 := by
  obtain ⟨h1, h2⟩ := h
  rcases h2 with ⟨rfl, hn⟩ | ⟨g, cap, cur, rfl, hg, hh, _⟩
  · refine ⟨V + 1, by omega, by omega, fun w1 w2 hgr => ⟨hgr.os, hgr.tape, hgr.output, hgr.size, fun k hk _ => hgr.block k hk (by simp [Value.ownBlock])⟩⟩
  · have hlt : g < w.heap.size := by
      by_cases hlt : g < w.heap.size
      · exact hlt
      · rw [Array.getElem?_eq_none (by omega)] at hh; simp at hh
    refine ⟨g, by omega, hg, fun w1 w2 hgr => ⟨hgr.os, hgr.tape, hgr.output, hgr.size, fun k hk hne => hgr.block k hk (by simp [Value.ownBlock, hne])⟩⟩

/-- 'append(l, x)' as one operation of a region. -/
theorem wp_appV1 {P : Program} {o : Oper} {a : Act} {K : Act → World → Prop} {Q : Exit → Act → World → Prop} (s x : Operand) (t : TypeId)
    (ho : o.op = .call { callee := .builtin .append, args := #[s, x], argTypes := #[t, t] })
    (base : Nat) (e : TypeId) (i : TypeInfo) (z : Value) (bytes : Nat) (ht : P.underlying t = some (.slice e)) (hi : P.info? e = some i) (hz : i.zero = some z) (hzs : z.cells.size = 3)
    (hsize : i.size = 3) (hby : i.bytes = bytes) (hb100 : bytes ≤ 100)
    (v : Value) (l : List Vl) (w : World) (hown : OwnV w base e v l) (hs : a.eval s = v) (y : Vl)
    (hx : a.eval x = .slice (some ⟨w.heap.size, 0, none⟩) 1 1) (hlen : l.length < 1000000000000) (hbase : base ≤ w.heap.size)
    (h : ∀ v' w', OwnV w' base e v' (l ++ [y]) → (w.alloc (.cells #[.int .u8 y.k, .int .i64 y.n, .string y.s] e)).grownBy w' v.ownBlock → K (a.put o.dst v') w') :
    o.wp P a (w.alloc (.cells #[.int .u8 y.k, .int .i64 y.n, .string y.s] e)) K Q := by
  refine wp_append_own (w.alloc (.cells #[.int .u8 (y.k : Int), .int .i64 y.n, .string y.s] e)) s x t ho base e i z 3 bytes ht hi hz hsize hby hzs (by omega) v l.length _ hs (World.ownsRow.alloc hown _) ⟨w.heap.size, 0, none⟩ 1 1 [.int .u8 (y.k : Int), .int .i64 y.n, .string y.s] hx rfl ?_ ?_ ?_ ?_ ?_ ?_
  · intro j u hj
    match j, hj with
    | 0, hj => simp at hj; subst hj; simp [Addr.add]
    | 1, hj => simp at hj; subst hj; simp [Addr.add]
    | 2, hj => simp at hj; subst hj; simp [Addr.add]
  · intro u hu; simp at hu; rcases hu with rfl | rfl | rfl <;> rfl
  · unfold maxLen; omega
  · have : (l.length + 1) * bytes ≤ 1000000000000 * 100 := Nat.mul_le_mul (by omega) hb100
    omega
  · simp; omega
  · intro v' w' hown' hgrow _
    refine h v' w' ?_ hgrow
    unfold OwnV
    have e2 : cellsV (l ++ [y]) = cellsV l ++ [.int .u8 (y.k : Int), .int .i64 y.n, .string y.s] := by simp [cellsV]
    rw [e2]
    simpa using hown'

def lenV : Value → Nat
  | .slice _ n _ => n
  | _ => 0

theorem tupF_nil (f : Nat) (acc : List Vl) : tupF f acc [] = some acc := by cases f <;> simp [tupF]
theorem tupF_none {f : Nat} {acc : List Vl} {r : List Nat} (hr : 0 < r.length) (hf : r.length ≤ f) (hd : decK r = none) : tupF f acc r = none := by
  cases f with
  | zero => omega
  | succ f => rw [tupF, if_neg (by intro h; rw [h] at hr; simp at hr), hd]
theorem tupF_some {f : Nat} {acc : List Vl} {r : List Nat} {x : Vl} {n : Nat} (hr : 0 < r.length) (hf : r.length ≤ f + 1) (hd : decK r = some (x, n)) : tupF (f + 1) acc r = if acc.length = 16 then none else tupF f (acc ++ [x]) (r.drop n) := by
  rw [tupF, if_neg (by intro h; rw [h] at hr; simp at hr), hd]

/-- A tuple, and whether there is one. -/
def RetTu (w : World) (o : Option (List Vl)) (e : Ending) (w' : World) : Prop :=
  Below w.heap.size w w' ∧ ((o = none ∧ e = .returned (.tuple #[.slice none 0 0, .bool false])) ∨
    ∃ l a cap, o = some l ∧ e = .returned (.tuple #[.slice a l.length cap, .bool true]) ∧ l.length ≤ cap ∧ Vs w'.heap.size w' a l)

end Go.Proofs.Ytialpfdhdcjpaaa

/- A slice of values that comes in as an argument: its elements. -/
set_option linter.unusedSimpArgs false
set_option linter.unusedVariables false
set_option maxRecDepth 100000
namespace Go.Proofs.Ytialpfdhdcjpaaa
open Go.RowKit Go.ChangeShapes Go.WideShapes Go.Deep Go.Joins

/-- What is known of a value that came in. -/
def Came (x : Vl) : Prop := x.k < 256 ∧ (-9223372036854775808 ≤ x.n ∧ x.n ≤ 9223372036854775807) ∧ x.s.size ≤ 9223372036854775807

theorem Came.fair {x : Vl} (h : Came x) : x.fair := ⟨h.1, h.2.1, by have := h.2.2; omega⟩

set_option maxRecDepth 100000 in
theorem open_vals {H : Type} {enc : TypeId × Value → H} {w : World} {r : Reach} {b0 : Nat} {v : Value} {d : DataW H} {p : List MemPlace} (hv : Value.okWide Try.prog w r b0 42 v) (h : DataW.Trod enc Try.prog w 0 (fun _ => true) true 42 v d p) :
    ∃ (a : Option Addr) (len cap : Nat) (L : List Vl), v = .slice a len cap ∧ len = L.length ∧ len ≤ cap ∧ cap ≤ 9223372036854775807 ∧ Vs w.heap.size w a L ∧ ∀ x ∈ L, Came x := by
  obtain ⟨a, len, cap, rfl⟩ := okWide_slice Try.underlying42 hv
  obtain ⟨fuel, hf⟩ := h
  rcases open_slice Try.underlying42 hf with ⟨hcs, _⟩ | ⟨x, l, c, m, n, D, Pl, hcs, _, hl, hm, hmm, _, hi⟩
  · simp [Value.cells] at hcs
    obtain ⟨rfl, rfl, rfl⟩ := hcs
    exact ⟨none, 0, 0, [], rfl, rfl, by omega, by omega, .inl rfl, by simp⟩
  · simp [Value.cells] at hcs
    obtain ⟨rfl, rfl, rfl⟩ := hcs
    have hmc : m = cap := by simpa using hmm
    have hC : Try.prog.cellsOf 52 = 3 := by kernel_rfl
    have hex : ∀ i : Fin len, ∃ y : Vl, Came y ∧ w.cell? ((x.add (i.1 * 3)).add 0) = some (.int .u8 y.k) ∧ w.cell? ((x.add (i.1 * 3)).add 1) = some (.int .i64 y.n) ∧ w.cell? ((x.add (i.1 * 3)).add 2) = some (.string y.s) := by
      intro i
      obtain ⟨cs', hc', ht'⟩ := hi i.1 (by have := i.2; omega)
      rw [hC] at hc'
      obtain ⟨_, hlen, hat⟩ := World.cells?_some hc'
      obtain ⟨y0, y1, y2, n', _, _, h0, h1, h2⟩ := trod_struct3 Try.underlying52 ht'
      match cs', hlen with
      | [v0, v1, v2], _ =>
        have g0 : DataW.trod enc Try.prog w 0 (fun _ => true) true n' 5 [v0] = some y0 := h0
        have g1 : DataW.trod enc Try.prog w 0 (fun _ => true) true n' 2 [v1] = some y1 := h1
        have g2 : DataW.trod enc Try.prog w 0 (fun _ => true) true n' 9 [v2] = some y2 := h2
        obtain ⟨k, e0, -, w0⟩ := DataW.trod_int Try.underlying5 g0
        obtain ⟨z, e1, -, w1⟩ := DataW.trod_int Try.underlying2 g1
        obtain ⟨s, e2, -, w2⟩ := DataW.trod_string Try.underlying9 g2
        simp only [List.cons.injEq, and_true] at e0 e1 e2
        subst e0 e1 e2
        obtain ⟨k', rfl, hk⟩ := nat_u8 w0
        have hz := bd_i64 w1
        unfold maxLen at w2
        exact ⟨⟨k', z, s⟩, ⟨hk, hz, w2⟩, by rw [hat 0 (by omega)]; rfl, by rw [hat 1 (by omega)]; rfl, by rw [hat 2 (by omega)]; rfl⟩
    obtain ⟨f, hfx⟩ := Classical.axiomOfChoice hex
    unfold maxLen at hm
    refine ⟨some x, len, cap, List.ofFn f, rfl, by simp, hl, by omega, ?_, ?_⟩
    · by_cases h0 : len = 0
      · left; subst h0; simp
      · right
        obtain ⟨b, o, spot⟩ := x
        have hc0 := (hfx ⟨0, by omega⟩).2.1
        have hspot : spot = none := by
          have := World.cell?_spot hc0
          simpa [Addr.add] using this
        subst hspot
        have hblk := World.block_lt_of_cell? _ _ hc0
        refine ⟨b, o, rfl, by simpa [Addr.add] using hblk, fun i y hy => ?_⟩
        rw [List.getElem?_ofFn] at hy
        split at hy
        · rename_i hlt
          simp only [Option.some.injEq] at hy
          subst hy
          have e1 : ∀ j, ((⟨b, o, none⟩ : Addr).add (i * 3)).add j = ⟨b, o + i * 3 + j, none⟩ := by
            intro j
            simp only [Addr.add]
            split <;> split <;> simp_all
          have hh := hfx ⟨i, hlt⟩
          simp only [e1, Nat.add_zero] at hh
          exact hh.2
        · cases hy
    · intro y hy
      rw [List.mem_ofFn] at hy
      obtain ⟨i, rfl⟩ := hy
      exact (hfx i).1
end Go.Proofs.Ytialpfdhdcjpaaa

/- The walk of hindsightlaw03.alive. -/
set_option linter.unusedSimpArgs false
set_option linter.unusedVariables false
set_option maxRecDepth 100000
namespace Go.Proofs.Ytialpfdhdcjpaaa
open Go.RowKit

theorem write_one : writeV [⟨1, 1, ⟨#[]⟩⟩] = ([1, 1, 2], 0) := by
  have e : zigN 1 = 2 := by decide
  have h : encL [⟨1, 1, ⟨#[]⟩⟩] = [1, 2] := by
    unfold encL encV
    simp [e, putL_small (show 2 < 128 by omega)]
  have hr : rowOk [⟨1, 1, ⟨#[]⟩⟩] = true := by decide
  rw [writeV_good hr (by rw [h]; simp), h]; rfl

theorem read_two : readV [2, 0, 2, 1, 97] = ([⟨0, 0, ⟨#[]⟩⟩, ⟨2, 0, ⟨#[97]⟩⟩], 0) := by
  have h1 : decV [2, 0, 2, 1, 97] 1 = some (⟨0, 0, ⟨#[]⟩⟩, 2) := by rfl
  have h2 : decV [2, 0, 2, 1, 97] 2 = some (⟨2, 0, ⟨#[97]⟩⟩, 5) := by decide
  have h3 : readN [2, 0, 2, 1, 97] 1 2 = some ([⟨0, 0, ⟨#[]⟩⟩, ⟨2, 0, ⟨#[97]⟩⟩], 5) :=
    readN_step (readN_step (acc := []) (show readN [2, 0, 2, 1, 97] 1 0 = some ([], 1) from rfl) h1) h2
  rw [readV_go (c := 2) (p := 1) (by simp) (by decide) (by omega), h3]; rfl

theorem read_bad : readV [1, 4] = ([], 3) := by
  have h1 : decV [1, 4] 1 = none := by rfl
  rw [readV_go (c := 1) (p := 1) (by simp) (by decide) (by omega), readN_fail (acc := []) (q := 1) (i := 0) rfl h1]

theorem Vs.one (w : World) (x : Vl) (T : TypeId) : Vs (w.heap.size + 1) (w.alloc (.cells #[.int .u8 x.k, .int .i64 x.n, .string x.s] T)) (some ⟨w.heap.size, 0, none⟩) [x] := by
  refine .inr ⟨w.heap.size, 0, rfl, by omega, fun i y hi => ?_⟩
  match i, hi with
  | 0, hi =>
    simp at hi; subst hi
    refine ⟨?_, ?_, ?_⟩ <;> (rw [World.cell?_alloc_new]; rfl)

end Go.Proofs.Ytialpfdhdcjpaaa
