/- Several texts of one proof, one behind the other. -/
import Derived.Test.YtpdfdlikijghhaaKPk9

/- The walk of record.Read. -/
namespace Go.Proofs.Ytpdfdlikijghhaa
open Go.RowKit

theorem Try.info39 : (Try.prog.info? 39).map (fun i => (i.zero, i.size, i.bytes)) = some (some (.agg #[.int .u8 0, .int .i64 0, .string ⟨#[]⟩]), 3, 32) := by kernel_rfl

theorem readN_step {l : List Nat} {p i : Nat} {acc : List Vl} {q : Nat} (h : readN l p i = some (acc, q)) {x : Vl} {n : Nat} (hd : decV l q = some (x, n)) : readN l p (i + 1) = some (acc ++ [x], n) := by
  rw [readN, h]; simp only []; rw [hd]
theorem readN_fail {l : List Nat} {p i : Nat} {acc : List Vl} {q : Nat} (h : readN l p i = some (acc, q)) (hd : decV l q = none) : readN l p (i + 1) = none := by
  rw [readN, h]; simp only []; rw [hd]

theorem readV_long {l : List Nat} (h : 8192 < l.length) : readV l = ([], 2) := by unfold readV; rw [if_pos h]
theorem readV_head {l : List Nat} (h : ¬ 8192 < l.length) (h2 : (getR l 0).2.2 ≠ 0 ∨ 16 < (getR l 0).1) : readV l = ([], 3) := by unfold readV; rw [if_neg h, if_pos h2]
theorem readV_go {l : List Nat} (h : ¬ 8192 < l.length) {c : Nat} {p : Nat} (hg : getR l 0 = (c, (p : Int), 0)) (hc : ¬ 16 < c) : readV l = match readN l p c with
    | none => ([], 3)
    | some (acc, q) => if q ≠ l.length then ([], 3) else (acc, 0) := by
  unfold readV; rw [if_neg h, hg]
  simp only [ne_eq, not_true_eq_false, false_or, if_neg hc, Int.toNat_natCast]
  rfl

theorem OwnV.fresh {w : World} {base : Nat} {T : TypeId} {a : Option Addr} {n cap : Nat} {l : List Vl} (h : OwnV w base T (.slice a n cap) l) : l ≠ [] → ∃ g, a = some ⟨g, 0, none⟩ ∧ base ≤ g := by
  intro hne
  obtain ⟨h1, h2⟩ := h
  rcases h2 with ⟨_, hn⟩ | ⟨g, cap', cur, hv, hg, _⟩
  · exact absurd (List.length_eq_zero_iff.1 hn) hne
  · injection hv with e1 e2 e3
    exact ⟨g, e1, hg⟩

/-- A call hands back values, in memory of its own, and an error. -/
def RetVF (w : World) (r : List Vl × Int) (e : Ending) (w' : World) : Prop :=
  ∃ a cap, e = .returned (.tuple #[.slice a r.1.length cap, .int .i64 r.2]) ∧ r.1.length ≤ cap ∧ Vs w'.heap.size w' a r.1 ∧ Below w.heap.size w w' ∧ (r.1 ≠ [] → ∃ g, a = some ⟨g, 0, none⟩ ∧ w.heap.size ≤ g)

end Go.Proofs.Ytpdfdlikijghhaa

/- The walks of key.tuple and key.Read. -/
namespace Go.Proofs.Ytpdfdlikijghhaa
open Go.RowKit

theorem LaterB.belowK {B N : Nat} {w w' : World} (h : LaterB B w w') (hB : N ≤ B) (hN : N ≤ w.heap.size) : Below N w w' :=
  ⟨h.os, h.tape, h.output, h.size, fun k hk => h.block k (by omega) (by omega)⟩

/-- The block of a row of the call's own: another one than V, and the only one that an append to the row may write. -/
theorem OwnV.blk {w : World} {base : Nat} {T : TypeId} {v : Value} {l : List Vl} (h : OwnV w base T v l) (V : Nat) (hV : w.heap.size ≤ V) (hb : base ≤ w.heap.size) :
    ∃ B, V ≠ B ∧ base ≤ B ∧ ∀ w1 w2 : World, w1.grownBy w2 v.ownBlock → LaterB B w1 w2 := by
  obtain ⟨h1, h2⟩ := h
  rcases h2 with ⟨rfl, hn⟩ | ⟨g, cap, cur, rfl, hg, hh, _⟩
  · refine ⟨V + 1, by omega, by omega, fun w1 w2 hgr => ⟨hgr.os, hgr.tape, hgr.output, hgr.size, fun k hk _ => hgr.block k hk (by simp [Value.ownBlock])⟩⟩
  · have hlt : g < w.heap.size := by
      by_cases hlt : g < w.heap.size
      · exact hlt
      · rw [Array.getElem?_eq_none (by omega)] at hh; simp at hh
    refine ⟨g, by omega, hg, fun w1 w2 hgr => ⟨hgr.os, hgr.tape, hgr.output, hgr.size, fun k hk hne => hgr.block k hk (by simp [Value.ownBlock, hne])⟩⟩

/-- 'append(l, x)' as one operation of a region. -/
theorem wp_appV1 {P : Program} {o : Oper} {a : Act} {K : Act → World → Prop} {Q : Exit → Act → World → Prop} (s x : Operand) (t : TypeId)
    (ho : o.op = .call { callee := .builtin .append, args := #[s, x], argTypes := #[t, t] })
    (base : Nat) (e : TypeId) (i : TypeInfo) (z : Value) (bytes : Nat) (ht : P.underlying t = some (.slice e)) (hi : P.info? e = some i) (hz : i.zero = some z) (hzs : z.cells.size = 3)
    (hsize : i.size = 3) (hby : i.bytes = bytes) (hb100 : bytes ≤ 100)
    (v : Value) (l : List Vl) (w : World) (hown : OwnV w base e v l) (hs : a.eval s = v) (y : Vl)
    (hx : a.eval x = .slice (some ⟨w.heap.size, 0, none⟩) 1 1) (hlen : l.length < 1000000000000) (hbase : base ≤ w.heap.size)
    (h : ∀ v' w', OwnV w' base e v' (l ++ [y]) → (w.alloc (.cells #[.int .u8 y.k, .int .i64 y.n, .string y.s] e)).grownBy w' v.ownBlock → K (a.put o.dst v') w') :
    o.wp P a (w.alloc (.cells #[.int .u8 y.k, .int .i64 y.n, .string y.s] e)) K Q := by
  refine wp_append_own (w.alloc (.cells #[.int .u8 (y.k : Int), .int .i64 y.n, .string y.s] e)) s x t ho base e i z 3 bytes ht hi hz hsize hby hzs (by omega) v l.length _ hs (World.ownsRow.alloc hown _) ⟨w.heap.size, 0, none⟩ 1 1 [.int .u8 (y.k : Int), .int .i64 y.n, .string y.s] hx rfl ?_ ?_ ?_ ?_ ?_ ?_
  · intro j u hj
    match j, hj with
    | 0, hj => simp at hj; subst hj; simp [Addr.add]
    | 1, hj => simp at hj; subst hj; simp [Addr.add]
    | 2, hj => simp at hj; subst hj; simp [Addr.add]
  · intro u hu; simp at hu; rcases hu with rfl | rfl | rfl <;> rfl
  · unfold maxLen; omega
  · have : (l.length + 1) * bytes ≤ 1000000000000 * 100 := Nat.mul_le_mul (by omega) hb100
    omega
  · simp; omega
  · intro v' w' hown' hgrow _
    refine h v' w' ?_ hgrow
    unfold OwnV
    have e2 : cellsV (l ++ [y]) = cellsV l ++ [.int .u8 (y.k : Int), .int .i64 y.n, .string y.s] := by simp [cellsV]
    rw [e2]
    simpa using hown'

def lenV : Value → Nat
  | .slice _ n _ => n
  | _ => 0

theorem tupF_nil (f : Nat) (acc : List Vl) : tupF f acc [] = some acc := by cases f <;> simp [tupF]
theorem tupF_none {f : Nat} {acc : List Vl} {r : List Nat} (hr : 0 < r.length) (hf : r.length ≤ f) (hd : decK r = none) : tupF f acc r = none := by
  cases f with
  | zero => omega
  | succ f => rw [tupF, if_neg (by intro h; rw [h] at hr; simp at hr), hd]
theorem tupF_some {f : Nat} {acc : List Vl} {r : List Nat} {x : Vl} {n : Nat} (hr : 0 < r.length) (hf : r.length ≤ f + 1) (hd : decK r = some (x, n)) : tupF (f + 1) acc r = if acc.length = 16 then none else tupF f (acc ++ [x]) (r.drop n) := by
  rw [tupF, if_neg (by intro h; rw [h] at hr; simp at hr), hd]

/-- A tuple, and whether there is one. -/
def RetTu (w : World) (o : Option (List Vl)) (e : Ending) (w' : World) : Prop :=
  Below w.heap.size w w' ∧ ((o = none ∧ e = .returned (.tuple #[.slice none 0 0, .bool false])) ∨
    ∃ l a cap, o = some l ∧ e = .returned (.tuple #[.slice a l.length cap, .bool true]) ∧ l.length ≤ cap ∧ Vs w'.heap.size w' a l)

set_option maxHeartbeats 2000000 in
theorem tuple_any (l : List Nat) (a : Option Addr) (len cap : Nat) (w : World) (hB : Bs w.heap.size w a l) (hlen : len = l.length) (hcap : len ≤ cap) (hmax : len ≤ 1000000) :
    Calls Try.prog 20 #[.slice a len cap] w (RetTu w (tupK l)) := by
  obtain ⟨i0, hi, hz0, hz1, hz2⟩ := info_parts Try.info39
  have HB := Lib.hid hB
  have HL := Lib.hid hlen
  clear hB hlen
  go_enter Try.func20, Try.ntmps20
  go_wp2
  go_loopw [0, 4] (fun b v wr => ∃ (ar : Option Addr) (n c : Nat) (r : List Nat) (f : Nat) (acc : List Vl), b = .slice ar n c ∧ n ≤ c ∧ n ≤ 1000000 ∧ acc.length ≤ 16 ∧ OwnV wr w.heap.size 39 v acc ∧
    Hid (n = r.length ∧ r.length ≤ f ∧ Bs w.heap.size w ar r ∧ tupK l = tupF f acc r) ∧ Below w.heap.size w wr) (fun b _ _ => lenV b)
  case atStart => exact ⟨a, len, cap, l, l.length, [], rfl, hcap, hmax, by simp, OwnV.nil _ _ _, ⟨HL.out, Nat.le_refl _, HB.out, rfl⟩, Below.refl _ _⟩
  case round =>
    obtain ⟨ar, n, c, r, f, acc, rfl, hnc, hnm, hacc, hown, HI, hb⟩ := hrel
    have hsz := hb.size
    by_cases hpos : 0 < n
    · have hD := kdecode_any r ar n c wr ((HI.out.2.2.1.below hb).mono hsz) HI.out.1 hnc hnm hpos
      have HD := Lib.hid hD
      obtain ⟨a5, c5, rfl, hcap5, _⟩ := hown.slice
      obtain ⟨nA, hnA⟩ : ∃ nA, nA = acc.length := ⟨_, rfl⟩
      rw [← hnA] at hown hcap5 hacc ⊢
      have HNA := Lib.hid hnA
      clear hD hnA
      go_wp2_with fail
      refine HD.out.mono ?_
      rintro e w1 ⟨hb1, ⟨hnone, k, z, s, m, rfl⟩ | ⟨x, m, hsome, rfl⟩⟩
      · have HT : Hid (tupK l = none) := by rw [HI.out.2.2.2, tupF_none (by have := HI.out.1; omega) HI.out.2.1 hnone]; rfl
        have hw1 := hb.trans (hb1.mono hsz)
        clear HD hnone hb1 hown
        go_wp2
        go_ret2
        exact ⟨hw1.alloc hw1.size _, .inl ⟨HT.out, rfl⟩⟩
      · obtain ⟨f', rfl⟩ : ∃ f', f = f' + 1 := ⟨f - 1, by have := HI.out.1; have := HI.out.2.1; omega⟩
        have HT := Lib.hid (HI.out.2.2.2.trans (tupF_some (by have := HI.out.1; omega) HI.out.2.1 hsome))
        have hmd := enc_decK r HI.out.2.2.1.1 (by have := HI.out.1; omega) x m hsome
        have hmn : m ≤ n := by have := HI.out.1; omega
        have hm0 : 0 < m := hmd.2.2.1
        have hw1 := hb.trans (hb1.mono hsz)
        have hsz1 := hw1.size
        clear hmd hsome HD
        by_cases h16 : nA = 16
        · have q16 : ((nA : Int) == 16) = true := by simp [h16]
          have HT2 : Hid (tupK l = none) := by rw [HT.out, if_pos (by have := HNA.out; omega)]; rfl
          clear HT h16 hown
          go_wp2
          go_ret2
          exact ⟨hw1.alloc hsz1 _, .inl ⟨HT2.out, rfl⟩⟩
        · have q16 : ((nA : Int) == 16) = false := by simp; omega
          have HT2 : Hid (tupK l = tupF f' (acc ++ [x]) (r.drop m)) := by rw [HT.out, if_neg (by have := HNA.out; omega)]; rfl
          obtain ⟨ar', hBr, hsl⟩ := HI.out.2.2.1.from 22 5 Try.underlying22 Try.sizeOf5 n c m HI.out.1 hmn hnc
          have hszw1 : wr.heap.size ≤ w1.heap.size := hb1.size
          obtain ⟨B, hVB, hBb, hgr⟩ := hown.blk w1.heap.size hszw1 hsz
          have HGr := Lib.hid hgr
          have hownA := (hown.below (Nat.le_refl _) hb1).below (Nat.le_refl _) (Below.box w1 (.cells #[.int .u8 x.k, .int .i64 x.n, .string x.s] 39))
          have hwA := hw1.alloc hsz1 (.cells #[.int .u8 x.k, .int .i64 x.n, .string x.s] 39)
          have HI2 : Hid (n - m = (r.drop m).length ∧ (r.drop m).length ≤ f' ∧ Bs w.heap.size w ar' (r.drop m) ∧ tupK l = tupF f' (acc ++ [x]) (r.drop m)) :=
            ⟨by rw [List.length_drop, HI.out.1], by rw [List.length_drop]; have := HI.out.2.1; omega, hBr, HT2.out⟩
          have hV := Slot.new w1 39 (.int .u8 x.k) (.int .i64 x.n) (.string x.s)
          have hsA : w1.heap.size < (w1.alloc (.cells #[.int .u8 x.k, .int .i64 x.n, .string x.s] 39)).heap.size := by simp
          have a0 := fun W (h : LaterB B (w1.alloc (.cells #[.int .u8 x.k, .int .i64 x.n, .string x.s] 39)).drew W) => (h.undrew.cell (o := 0) hsA hVB).trans hV.1
          have a1 := fun W (h : LaterB B (w1.alloc (.cells #[.int .u8 x.k, .int .i64 x.n, .string x.s] 39)).drew W) => (h.undrew.cell (o := 1) hsA hVB).trans hV.2.1
          have a2 := fun W (h : LaterB B (w1.alloc (.cells #[.int .u8 x.k, .int .i64 x.n, .string x.s] 39)).drew W) => (h.undrew.cell (o := 2) hsA hVB).trans hV.2.2.1
          have hacc2 : (acc ++ [x]).length ≤ 16 := by rw [List.length_append]; have := HNA.out; have := h16; simp only [List.length_cons, List.length_nil]; omega
          clear HT h16 hBr hgr hV hown
          go_wp2_with fail
          generalize (w1.alloc (.cells #[.int .u8 x.k, .int .i64 x.n, .string x.s] 39)) = W0 at *
          refine wp_region_ordB B [(0, true), (1, true), (4, true), (5, true), (6, true), (2, false), (3, false), (7, true), (8, true)] (by kernel_rfl) (by kernel_rfl) (by kernel_rfl) (by kernel_rfl) ?_
          repeat (first | (refine wpO_F (v := ?_) rfl (by rfl) (fun w' hL => ?_) ?_; rotate_left; (solve | (go_simp; with_reducible rfl) | go_simp); try simp only [Act.put, List.setIfInBounds_toArray, List.set_cons_zero, List.set_cons_succ]) | (refine wpO_G rfl (by rfl) ?_; try simp only [Act.put, List.setIfInBounds_toArray, List.set_cons_zero, List.set_cons_succ]))
          refine wpO_C rfl (by rfl) ?_
          go_simp
          refine ⟨Later.toB (Below.box _ _) _, ?_⟩
          try simp only [Act.put, List.setIfInBounds_toArray, List.set_cons_zero, List.set_cons_succ]
          refine wpO_C rfl (by rfl) ?_
          refine wp_appV1 _ _ 27 rfl w.heap.size 39 i0 _ 32 Try.underlying27 hi hz0 rfl hz1 hz2 (by omega) _ acc W0.drew (World.ownsRow.drew hownA) rfl x rfl (by have := HNA.out; omega) (by exact hwA.size) ?_
          intro v3 w3 hown3 hgrow3
          refine ⟨HGr.out _ _ hgrow3, ?_⟩
          try simp only [Act.put, List.setIfInBounds_toArray, List.set_cons_zero, List.set_cons_succ]
          repeat (first | (refine wpO_F (v := ?_) rfl (by rfl) (fun w' hL => ?_) ?_; rotate_left; (solve | (go_simp; with_reducible rfl) | go_simp); try simp only [Act.put, List.setIfInBounds_toArray, List.set_cons_zero, List.set_cons_succ]) | (refine wpO_G rfl (by rfl) ?_; try simp only [Act.put, List.setIfInBounds_toArray, List.set_cons_zero, List.set_cons_succ]))
          refine wpO_nil ?_
          clear a0 a1 a2
          have hb3 : Below w.heap.size w w3 := ((hwA.drew).alloc hwA.size _).trans ((HGr.out _ _ hgrow3).belowK hBb (by simp; exact Nat.le_succ_of_le hwA.size))
          go_wp2
          go_roundw
          case rel => exact ⟨ar', n - m, c - m, r.drop m, f', acc ++ [x], rfl, by omega, by omega, hacc2, hown3, HI2, hb3⟩
          case measure => simp [lenV]; omega
    · have HT : Hid (tupK l = some acc) := by
        rw [HI.out.2.2.2, show r = [] from List.length_eq_zero_iff.1 (by have := HI.out.1; omega), tupF_nil]; rfl
      obtain ⟨a5, c5, rfl, hcap5, hV5⟩ := hown.slice
      have HV5 := Lib.hid hV5
      clear hown hV5
      go_wp2
      go_ret2
      exact ⟨hb, .inr ⟨acc, a5, c5, HT.out, rfl, hcap5, HV5.out⟩⟩

theorem KRead_any (l : List Nat) (a : Option Addr) (len cap : Nat) (w : World) (hB : Bs w.heap.size w a l) (hlen : len = l.length) (hcap : len ≤ cap) (hmax : len ≤ 1000000) :
    Calls Try.prog 13 #[.slice a len cap] w (RetVE w (readK l)) := by
  by_cases hlong : 100 < len
  · have HR : Hid (readK l = ([], 2)) := by unfold readK; rw [if_pos (by omega)]; rfl
    clear hB hlen
    go_enter Try.func13, Try.ntmps13
    go_wp2
    go_ret2
    rw [HR.out]
    exact ⟨none, 0, rfl, by simp, .inl rfl, Below.refl _ _⟩
  · have ql : decide ((100 : Int) < (len : Int)) = false := by simp; omega
    have HT := Lib.hid (tuple_any l a len cap w hB hlen hcap hmax)
    have HR : Hid (readK l = match tupK l with | none => ([], 3) | some l => (l, 0)) := by unfold readK; rw [if_neg (by omega)]; rfl
    clear hB hlen
    go_enter Try.func13, Try.ntmps13
    go_wp2_with fail
    refine HT.out.mono ?_
    rintro e w1 ⟨hb, ⟨hnone, rfl⟩ | ⟨L, a5, c5, hsome, rfl, hc, hV⟩⟩
    · have HR2 : Hid (readK l = ([], 3)) := by rw [HR.out, hnone]; rfl
      clear HT hnone
      go_wp2
      go_ret2
      rw [HR2.out]
      exact ⟨none, 0, rfl, by simp, .inl rfl, hb⟩
    · have HR2 : Hid (readK l = (L, 0)) := by rw [HR.out, hsome]; rfl
      have HV := Lib.hid hV
      clear HT hsome hV
      go_wp2
      go_ret2
      rw [HR2.out]
      exact ⟨a5, c5, rfl, hc, HV.out, hb⟩
end Go.Proofs.Ytpdfdlikijghhaa

/- The walks of cell.Bool, Not, decide, And, Or. -/
namespace Go.Proofs.Ytpdfdlikijghhaa
open Go.RowKit

/-- What Not answers. -/
def notV (x : Vl) : Vl × Int :=
  if (truthT x).2.2 ≠ 0 then (nullV, (truthT x).2.2) else if (truthT x).2.1 = false then (nullV, 0) else (boolV (!(truthT x).1), 0)

/-- What decide answers. -/
def decideV (win : Bool) (a b : Vl) : Vl × Int :=
  if a.right = false ∨ b.right = false then (nullV, 3)
  else if 1 < a.k ∨ 1 < b.k then (nullV, 20)
  else if (truthT a).2.1 = true ∧ (truthT a).1 = win ∨ (truthT b).2.1 = true ∧ (truthT b).1 = win then (boolV win, 0)
  else if (truthT a).2.1 = false ∨ (truthT b).2.1 = false then (nullV, 0)
  else (boolV (!win), 0)

/-- Two truths and the winner decide. -/
def decideB (win y1 kn1 y2 kn2 : Bool) : Vl × Int :=
  if kn1 = true ∧ y1 = win ∨ kn2 = true ∧ y2 = win then (boolV win, 0) else if kn1 = false ∨ kn2 = false then (nullV, 0) else (boolV (!win), 0)

theorem truth_num (x : Vl) (h : x.right = true) (hk : x.k ≤ 1) : (truthT x).2.2 = 0 := by
  unfold truthT
  rw [if_neg (by simp [h]), if_neg (by omega)]
  split <;> rfl

theorem truth_type (x : Vl) (h : x.right = true) (hk : ¬ x.k ≤ 1) : truthT x = (false, false, 20) := by
  unfold truthT
  rw [if_neg (by simp [h]), if_pos (by omega)]

end Go.Proofs.Ytpdfdlikijghhaa

/- The walks of cmp.Compare, cell.Order and cell.Compare. -/
namespace Go.Proofs.Ytpdfdlikijghhaa
open Go.RowKit

def cmpI (x y : Int) : Int := if x < y then -1 else if y < x then 1 else 0
def cmpS (s t : ByteArray) : Int := if Op.bytesLess s.toList t.toList then -1 else if s.toList == t.toList then 0 else 1

theorem cmp_uint8 (x y : Int) (w : World) : Calls Try.prog 33 #[.int .u8 x, .int .u8 y] w fun e w' => e = .returned (.int .i64 (cmpI x y)) ∧ w = w' := by
  have hc : x < y ∨ y < x ∨ (x ≤ y ∧ y ≤ x) := by omega
  rcases hc with h | h | ⟨h1, h2⟩
  · have HR : Hid (cmpI x y = -1) := by unfold cmpI; rw [if_pos h]; rfl
    go_enter Try.func33, Try.ntmps33
    go_wp2
    go_ret
    exact ⟨by rw [HR.out]; rfl, rfl⟩
  · have HR : Hid (cmpI x y = 1) := by unfold cmpI; rw [if_neg (by omega), if_pos h]; rfl
    go_enter Try.func33, Try.ntmps33
    go_wp2
    go_ret
    exact ⟨by rw [HR.out]; rfl, rfl⟩
  · have HR : Hid (cmpI x y = 0) := by unfold cmpI; rw [if_neg (by omega), if_neg (by omega)]; rfl
    go_enter Try.func33, Try.ntmps33
    go_wp2
    go_ret
    exact ⟨by rw [HR.out]; rfl, rfl⟩

theorem cmp_int64 (x y : Int) (w : World) : Calls Try.prog 34 #[.int .i64 x, .int .i64 y] w fun e w' => e = .returned (.int .i64 (cmpI x y)) ∧ w = w' := by
  have hc : x < y ∨ y < x ∨ (x ≤ y ∧ y ≤ x) := by omega
  rcases hc with h | h | ⟨h1, h2⟩
  · have HR : Hid (cmpI x y = -1) := by unfold cmpI; rw [if_pos h]; rfl
    go_enter Try.func34, Try.ntmps34
    go_wp2
    go_ret
    exact ⟨by rw [HR.out]; rfl, rfl⟩
  · have HR : Hid (cmpI x y = 1) := by unfold cmpI; rw [if_neg (by omega), if_pos h]; rfl
    go_enter Try.func34, Try.ntmps34
    go_wp2
    go_ret
    exact ⟨by rw [HR.out]; rfl, rfl⟩
  · have HR : Hid (cmpI x y = 0) := by unfold cmpI; rw [if_neg (by omega), if_neg (by omega)]; rfl
    go_enter Try.func34, Try.ntmps34
    go_wp2
    go_ret
    exact ⟨by rw [HR.out]; rfl, rfl⟩

theorem cmp_string (s u : ByteArray) (w : World) : Calls Try.prog 35 #[.string s, .string u] w fun e w' => e = .returned (.int .i64 (cmpS s u)) ∧ w = w' := by
  cases hl : Op.bytesLess s.toList u.toList with
  | true =>
    have HR : Hid (cmpS s u = -1) := by unfold cmpS; rw [hl]; rfl
    go_enter Try.func35, Try.ntmps35
    go_wp2
    go_ret
    exact ⟨by rw [HR.out]; rfl, rfl⟩
  | false =>
    cases he : s.toList == u.toList with
    | true =>
      have HR : Hid (cmpS s u = 0) := by unfold cmpS; rw [hl, he]; rfl
      go_enter Try.func35, Try.ntmps35
      go_wp2
      go_ret
      exact ⟨by rw [HR.out]; rfl, rfl⟩
    | false =>
      have HR : Hid (cmpS s u = 1) := by unfold cmpS; rw [hl, he]; rfl
      go_enter Try.func35, Try.ntmps35
      go_wp2
      go_ret
      exact ⟨by rw [HR.out]; rfl, rfl⟩

/-- The order of two values. -/
def orderV (a b : Vl) : Int :=
  if a = b ∨ a.right = false ∨ b.right = false then 0 else if a.k ≠ b.k then cmpI a.k b.k else if a.n ≠ b.n then cmpI a.n b.n else cmpS a.s b.s

theorem toList_inj {s t : ByteArray} (h : s.toList = t.toList) : s = t := by
  rw [ByteArray.toList_eq, ByteArray.toList_eq] at h
  exact ByteArray.ext (Array.toList_inj.1 h)

theorem ne_bool (k1 k2 : Nat) (n1 n2 : Int) (s1 s2 : ByteArray) (h : (⟨k1, n1, s1⟩ : Vl) ≠ ⟨k2, n2, s2⟩) : ((k1 : Int) == (k2 : Int) && (n1 == n2 && s1.toList == s2.toList)) = false := by
  rw [Bool.eq_false_iff]
  intro hh
  simp only [Bool.and_eq_true, beq_iff_eq] at hh
  obtain ⟨e1, e2, e3⟩ := hh
  apply h
  rw [show k1 = k2 by omega, e2, toList_inj e3]

def RetI (w : World) (n : Int) (e : Ending) (w' : World) : Prop := e = .returned (.int .i64 n) ∧ Below w.heap.size w w'

theorem order_same (k : Nat) (n : Int) (s : ByteArray) (w : World) : Calls Try.prog 24 #[.agg #[.int .u8 k, .int .i64 n, .string s], .agg #[.int .u8 k, .int .i64 n, .string s]] w (RetI w 0) := by
  go_enter Try.func24, Try.ntmps24
  go_wp2
  go_ret
  exact ⟨rfl, ((Below.refl _ _).alloc (Nat.le_refl _) _).alloc (by simp) _⟩

theorem order_bad1 (k1 k2 : Nat) (n1 n2 : Int) (s1 s2 : ByteArray) (w : World) (hne : ((k1 : Int) == (k2 : Int) && (n1 == n2 && s1.toList == s2.toList)) = false) (h : Vl.right ⟨k1, n1, s1⟩ = false) :
    Calls Try.prog 24 #[.agg #[.int .u8 k1, .int .i64 n1, .string s1], .agg #[.int .u8 k2, .int .i64 n2, .string s2]] w (RetI w 0) := by
  go_enter Try.func24, Try.ntmps24
  go_wp2_with fail
  refine (right_any k1 n1 s1 _).mono ?_
  rw [h]
  rintro e w1 ⟨rfl, hb⟩
  obtain ⟨S3, S4, hz⟩ := slots2 _ _ _ _ _ _ _ _ _ hb
  have hw : Below w.heap.size w w1 := Below.trans (((Below.refl _ _).alloc (Nat.le_refl _) _).alloc (by simp) _) (Below.mono hb (by simp <;> omega))
  clear hb
  go_wp2
  go_ret
  exact ⟨rfl, hw⟩

theorem order_bad2 (k1 k2 : Nat) (n1 n2 : Int) (s1 s2 : ByteArray) (w : World) (hne : ((k1 : Int) == (k2 : Int) && (n1 == n2 && s1.toList == s2.toList)) = false) (h : Vl.right ⟨k1, n1, s1⟩ = true) (h2 : Vl.right ⟨k2, n2, s2⟩ = false) :
    Calls Try.prog 24 #[.agg #[.int .u8 k1, .int .i64 n1, .string s1], .agg #[.int .u8 k2, .int .i64 n2, .string s2]] w (RetI w 0) := by
  go_enter Try.func24, Try.ntmps24
  go_wp2_with fail
  refine (right_any k1 n1 s1 _).mono ?_
  rw [h]
  rintro e w1 ⟨rfl, hb⟩
  obtain ⟨S3, S4, hz⟩ := slots2 _ _ _ _ _ _ _ _ _ hb
  have hw : Below w.heap.size w w1 := Below.trans (((Below.refl _ _).alloc (Nat.le_refl _) _).alloc (by simp) _) (Below.mono hb (by simp <;> omega))
  clear hb
  obtain ⟨p0, p1, p2, p3, p4, p5⟩ := id S3
  obtain ⟨q0, q1, q2, q3, q4, q5⟩ := id S4
  go_wp2_with fail
  clear p0 p1 p2 p3 p4 p5 q0 q1 q2 q3 q4 q5
  refine (right_any k2 n2 s2 _).mono ?_
  rw [h2]
  rintro e w2 ⟨rfl, hb⟩
  replace S3 := S3.later hb (by omega)
  replace S4 := S4.later hb (by omega)
  replace hw := hw.trans (Below.mono hb (by omega))
  replace hz := Nat.le_trans hz (Below.size hb)
  clear hb
  go_wp2
  go_ret
  exact ⟨rfl, hw⟩

theorem order_kind (k1 k2 : Nat) (n1 n2 : Int) (s1 s2 : ByteArray) (w : World) (hne : ((k1 : Int) == (k2 : Int) && (n1 == n2 && s1.toList == s2.toList)) = false) (h : Vl.right ⟨k1, n1, s1⟩ = true) (h2 : Vl.right ⟨k2, n2, s2⟩ = true) (h3 : ((k1 : Int) != (k2 : Int)) = true) :
    Calls Try.prog 24 #[.agg #[.int .u8 k1, .int .i64 n1, .string s1], .agg #[.int .u8 k2, .int .i64 n2, .string s2]] w (RetI w (cmpI k1 k2)) := by
  go_enter Try.func24, Try.ntmps24
  go_wp2_with fail
  refine (right_any k1 n1 s1 _).mono ?_
  rw [h]
  rintro e w1 ⟨rfl, hb⟩
  obtain ⟨S3, S4, hz⟩ := slots2 _ _ _ _ _ _ _ _ _ hb
  have hw : Below w.heap.size w w1 := Below.trans (((Below.refl _ _).alloc (Nat.le_refl _) _).alloc (by simp) _) (Below.mono hb (by simp <;> omega))
  clear hb
  obtain ⟨p0, p1, p2, p3, p4, p5⟩ := id S3
  obtain ⟨q0, q1, q2, q3, q4, q5⟩ := id S4
  go_wp2_with fail
  clear p0 p1 p2 p3 p4 p5 q0 q1 q2 q3 q4 q5
  refine (right_any k2 n2 s2 _).mono ?_
  rw [h2]
  rintro e w2 ⟨rfl, hb⟩
  replace S3 := S3.later hb (by omega)
  replace S4 := S4.later hb (by omega)
  replace hw := hw.trans (Below.mono hb (by omega))
  replace hz := Nat.le_trans hz (Below.size hb)
  clear hb
  obtain ⟨p0, p1, p2, p3, p4, p5⟩ := id S3
  obtain ⟨q0, q1, q2, q3, q4, q5⟩ := id S4
  go_wp2_with fail
  refine (cmp_uint8 _ _ _).mono ?_
  rintro e w3 ⟨rfl, rfl⟩
  go_wp2
  go_ret
  exact ⟨rfl, hw⟩

theorem order_int (k1 k2 : Nat) (n1 n2 : Int) (s1 s2 : ByteArray) (w : World) (hne : ((k1 : Int) == (k2 : Int) && (n1 == n2 && s1.toList == s2.toList)) = false) (h : Vl.right ⟨k1, n1, s1⟩ = true) (h2 : Vl.right ⟨k2, n2, s2⟩ = true) (h3 : ((k1 : Int) != (k2 : Int)) = false) (h4 : (n1 != n2) = true) :
    Calls Try.prog 24 #[.agg #[.int .u8 k1, .int .i64 n1, .string s1], .agg #[.int .u8 k2, .int .i64 n2, .string s2]] w (RetI w (cmpI n1 n2)) := by
  go_enter Try.func24, Try.ntmps24
  go_wp2_with fail
  refine (right_any k1 n1 s1 _).mono ?_
  rw [h]
  rintro e w1 ⟨rfl, hb⟩
  obtain ⟨S3, S4, hz⟩ := slots2 _ _ _ _ _ _ _ _ _ hb
  have hw : Below w.heap.size w w1 := Below.trans (((Below.refl _ _).alloc (Nat.le_refl _) _).alloc (by simp) _) (Below.mono hb (by simp <;> omega))
  clear hb
  obtain ⟨p0, p1, p2, p3, p4, p5⟩ := id S3
  obtain ⟨q0, q1, q2, q3, q4, q5⟩ := id S4
  go_wp2_with fail
  clear p0 p1 p2 p3 p4 p5 q0 q1 q2 q3 q4 q5
  refine (right_any k2 n2 s2 _).mono ?_
  rw [h2]
  rintro e w2 ⟨rfl, hb⟩
  replace S3 := S3.later hb (by omega)
  replace S4 := S4.later hb (by omega)
  replace hw := hw.trans (Below.mono hb (by omega))
  replace hz := Nat.le_trans hz (Below.size hb)
  clear hb
  obtain ⟨p0, p1, p2, p3, p4, p5⟩ := id S3
  obtain ⟨q0, q1, q2, q3, q4, q5⟩ := id S4
  go_wp2_with fail
  refine (cmp_int64 _ _ _).mono ?_
  rintro e w3 ⟨rfl, rfl⟩
  go_wp2
  go_ret
  exact ⟨rfl, hw⟩

theorem order_text (k1 k2 : Nat) (n1 n2 : Int) (s1 s2 : ByteArray) (w : World) (hne : ((k1 : Int) == (k2 : Int) && (n1 == n2 && s1.toList == s2.toList)) = false) (h : Vl.right ⟨k1, n1, s1⟩ = true) (h2 : Vl.right ⟨k2, n2, s2⟩ = true) (h3 : ((k1 : Int) != (k2 : Int)) = false) (h4 : (n1 != n2) = false) :
    Calls Try.prog 24 #[.agg #[.int .u8 k1, .int .i64 n1, .string s1], .agg #[.int .u8 k2, .int .i64 n2, .string s2]] w (RetI w (cmpS s1 s2)) := by
  go_enter Try.func24, Try.ntmps24
  go_wp2_with fail
  refine (right_any k1 n1 s1 _).mono ?_
  rw [h]
  rintro e w1 ⟨rfl, hb⟩
  obtain ⟨S3, S4, hz⟩ := slots2 _ _ _ _ _ _ _ _ _ hb
  have hw : Below w.heap.size w w1 := Below.trans (((Below.refl _ _).alloc (Nat.le_refl _) _).alloc (by simp) _) (Below.mono hb (by simp <;> omega))
  clear hb
  obtain ⟨p0, p1, p2, p3, p4, p5⟩ := id S3
  obtain ⟨q0, q1, q2, q3, q4, q5⟩ := id S4
  go_wp2_with fail
  clear p0 p1 p2 p3 p4 p5 q0 q1 q2 q3 q4 q5
  refine (right_any k2 n2 s2 _).mono ?_
  rw [h2]
  rintro e w2 ⟨rfl, hb⟩
  replace S3 := S3.later hb (by omega)
  replace S4 := S4.later hb (by omega)
  replace hw := hw.trans (Below.mono hb (by omega))
  replace hz := Nat.le_trans hz (Below.size hb)
  clear hb
  obtain ⟨p0, p1, p2, p3, p4, p5⟩ := id S3
  obtain ⟨q0, q1, q2, q3, q4, q5⟩ := id S4
  go_wp2_with fail
  refine (cmp_string _ _ _).mono ?_
  rintro e w3 ⟨rfl, rfl⟩
  go_wp2
  go_ret
  exact ⟨rfl, hw⟩

theorem Order_any (a b : Vl) (w : World) : Calls Try.prog 24 #[.agg #[.int .u8 a.k, .int .i64 a.n, .string a.s], .agg #[.int .u8 b.k, .int .i64 b.n, .string b.s]] w (RetI w (orderV a b)) := by
  obtain ⟨k1, n1, s1⟩ := a
  obtain ⟨k2, n2, s2⟩ := b
  unfold orderV
  by_cases hab : (⟨k1, n1, s1⟩ : Vl) = ⟨k2, n2, s2⟩
  · rw [if_pos (.inl hab)]
    simp only [Vl.mk.injEq] at hab
    obtain ⟨rfl, rfl, rfl⟩ := hab
    exact order_same _ _ _ w
  · have hne := ne_bool _ _ _ _ _ _ hab
    by_cases h1 : Vl.right ⟨k1, n1, s1⟩ = true
    · by_cases h2 : Vl.right ⟨k2, n2, s2⟩ = true
      · rw [if_neg (by simp [hab, h1, h2])]
        by_cases h3 : k1 = k2
        · by_cases h4 : n1 = n2
          · rw [if_neg (by simp [h3]), if_neg (by simp [h4])]
            exact order_text _ _ _ _ _ _ w hne h1 h2 (by simp [h3]) (by simp [h4])
          · rw [if_neg (by simp [h3]), if_pos h4]
            exact order_int _ _ _ _ _ _ w hne h1 h2 (by simp [h3]) (by simp [h4])
        · rw [if_pos h3]
          exact order_kind _ _ _ _ _ _ w hne h1 h2 (by simp; omega)
      · rw [if_pos (.inr (.inr (by simpa using h2)))]
        exact order_bad2 _ _ _ _ _ _ w hne h1 (by simpa using h2)
    · rw [if_pos (.inr (.inl (by simpa using h1)))]
      exact order_bad1 _ _ _ _ _ _ w hne (by simpa using h1)

end Go.Proofs.Ytpdfdlikijghhaa
