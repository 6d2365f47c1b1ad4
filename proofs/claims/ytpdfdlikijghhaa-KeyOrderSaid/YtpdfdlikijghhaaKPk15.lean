/- Several texts of one proof, one behind the other. -/
import Derived.Test.YtpdfdlikijghhaaKPk14
import Derived.Laws.AppendOwnNone
import Derived.RangeFuncBox
import Derived.RangeFuncLeaves
import Derived.Shelf.Abstract
import Derived.WalkKit
import Derived.OwnWalkIn
import Derived.TacticsInMore
import Derived.LoopNIn
import Derived.LoopIn

/- The walk of the reference's Read of rows. -/
namespace Go.Proofs.Ytpdfdlikijghhaa
open Go.RowKit

theorem strN_ne {a b : List Nat} (h : a.length ≠ b.length) : ((strN a).toList == (strN b).toList) = false := by
  rw [Bool.eq_false_iff]
  intro hh
  have := congrArg ByteArray.size (toList_inj (eq_of_beq hh))
  rw [strN_size, strN_size] at this
  exact h this

end Go.Proofs.Ytpdfdlikijghhaa

/- The walk of the law RecordBytes. -/
namespace Go.Proofs.Ytpdfdlikijghhaa
open Go.RowKit

/-- A row of no byte that has just been made. -/
theorem OwnB.none_ (w : World) (base : Nat) (T : TypeId) (g : Nat) (hb : base ≤ w.heap.size) (hg : g = w.heap.size) : OwnB (w.alloc (.cells #[] T)) base T (.slice (some ⟨g, 0, none⟩) 0 0) [] := by
  subst hg
  exact ⟨by simp, by simp, .inr ⟨w.heap.size, 0, #[], by simp, hb, heap_alloc_new _ _, by simp, by unfold maxLen; omega, by simp, by simp⟩⟩

/-- 'append(b, c...)' of bytes that came in: nil, none, some. -/
theorem wpList_appIn {P : Program} {ops : Array Oper} {rest : List Oper} {o : Oper} {a : Act} {Q : Exit → Act → World → Prop} (hgd : o.guard = none) (sl x : Operand) (t : TypeId)
    (ho : o.op = .call { callee := .builtin .append, args := #[sl, x], argTypes := #[t, t] })
    (base : Nat) (e : TypeId) (i : TypeInfo) (ht : P.underlying t = some (.slice e)) (hi : P.info? e = some i) (hz : i.zero = some (.int .u8 0))
    (hsize : i.size = 1) (hby : i.bytes = 1)
    (v : Value) (l : List Nat) (w : World) (hown : OwnB w base e v l) (hs : a.eval sl = v) (N : Nat) (ad : Option Addr) (m : List Nat) (n c : Nat) (hB : Bs N w ad m) (hnil : ad = none → n = 0 ∧ c = 0) (hn : n = m.length) (hx : a.eval x = .slice ad n c)
    (hlen : l.length + m.length < 100000000000000) (hbase : base ≤ w.heap.size)
    (h : ∀ v' w', OwnB w' base e v' (l ++ m) → Below base w w' → w.heap.size ≤ w'.heap.size → wpList P ops Q rest (a.put o.dst v') w') : wpList P ops Q (o :: rest) a w := by
  by_cases hm : m = []
  · subst hm
    subst hn
    cases ad with
    | none =>
      obtain ⟨_, rfl⟩ := hnil rfl
      refine wpList_append_own_none hgd sl x t ho base e i 1 ht hi v l.length _ hs hown.2 hx ?_
      exact h v w (by simpa using hown) (Below.refl _ _) (Nat.le_refl _)
    | some p =>
      refine wpList_append_own w hgd sl x t ho base e i (.int .u8 0) 1 1 ht hi hz hsize hby rfl (by decide) v l.length _ hs hown.2 p 0 c [] hx rfl (by simp) (by simp) ?_ ?_ hbase ?_
      · unfold maxLen; simp at hlen; omega
      · simp at hlen; omega
      · intro v' w' hown' hgrow _
        exact h v' w' ⟨by simpa using hown.1, by simpa using hown'⟩ ((Below.refl base w).grown hgrow hbase (fun j hj => (hown.2.lt j hj).1)) hgrow.size
  · exact wpList_appB hgd sl x t ho base e i ht hi hz hsize hby v l w hown hs N ad m n c hB hm hn hx hlen hbase h

/-- Bytes of the call's own that may be written, in one block. -/
def Wr (w : World) (g n : Nat) : Prop := ∀ i, i < n → (∃ c : Nat, c < 256 ∧ w.cell? ⟨g, i, none⟩ = some (.int .u8 (c : Int))) ∧ w.frozen? ⟨g, i, none⟩ = false

theorem Wr.of {w : World} {base g n cap : Nat} {T : TypeId} {l : List Nat} (h : OwnB w base T (.slice (some ⟨g, 0, none⟩) n cap) l) (hn : n = l.length) : Wr w g n := by
  subst hn
  obtain ⟨h0, h1, h2⟩ := h
  intro i hi
  rcases h2 with ⟨hv, hn⟩ | ⟨g', cap', cur, hv, hg, hh, hnc, hcm, hcs, hcur⟩
  · omega
  · injection hv with e1 e2 e3
    simp only [Option.some.injEq, Addr.mk.injEq, and_true] at e1
    subst e1
    refine ⟨⟨l[i], h0 _ (List.getElem_mem hi), ?_⟩, ?_⟩
    · have e1 : (cur.toList.take (l.length * 1))[i]? = some (Value.int .u8 (l[i] : Int)) := by rw [hcur]; simp [hi]
      rw [List.getElem?_take_of_lt (by omega)] at e1
      simp only [World.cell?, hh]
      simpa using e1
    · simp [World.frozen?, hh]

theorem Wr.set {w : World} {g n : Nat} (h : Wr w g n) (k d : Nat) (hd : d < 256) : Wr (w.setCell ⟨g, k, none⟩ (.int .u8 (d : Int))) g n := by
  intro i hi
  obtain ⟨⟨c, hc, hcell⟩, hf⟩ := h i hi
  refine ⟨?_, by rw [World.frozen?_setCell]; exact hf⟩
  by_cases hik : i = k
  · subst hik
    exact ⟨d, hd, World.cell?_setCell_same _ _ _ hcell⟩
  · exact ⟨c, hc, (World.cell?_setCell_other _ _ _ _ (by simp [Ne.symm hik])).trans hcell⟩

theorem LaterB.below {B N : Nat} {w w' : World} (h : LaterB B w w') (hB : N ≤ B) (hN : N ≤ w.heap.size) : Below N w w' :=
  ⟨h.os, h.tape, h.output, h.size, fun k hk => h.block k (by omega) (by omega)⟩

theorem Vs.laterB {B : Nat} {w w' : World} {a : Option Addr} {l : List Vl} (h : Vs w.heap.size w a l) (hl : LaterB B w w') (hf : l ≠ [] → ∃ g, a = some ⟨g, 0, none⟩ ∧ B < g) : Vs w'.heap.size w' a l := by
  by_cases h0 : l = []
  · exact .inl h0
  · obtain ⟨g, rfl, hg⟩ := hf h0
    rcases h with h | ⟨b, o, ha, hN, hc⟩
    · exact .inl h
    · simp only [Option.some.injEq, Addr.mk.injEq, and_true] at ha
      obtain ⟨rfl, rfl⟩ := ha
      have hne : g ≠ B := by omega
      refine .inr ⟨g, 0, rfl, Nat.lt_of_lt_of_le hN hl.size, fun i x hi => ?_⟩
      obtain ⟨c0, c1, c2⟩ := hc i x hi
      exact ⟨(hl.cell hN hne).trans c0, (hl.cell hN hne).trans c1, (hl.cell hN hne).trans c2⟩

theorem xor255 (c : Nat) (h : c < 256) : ∃ d : Nat, d < 256 ∧ bits .xor .u8 (c : Int) 255 = (d : Int) := by
  refine ⟨c ^^^ 255, Nat.xor_lt_two_pow (n := 8) h (by omega), ?_⟩
  exact u8_xor_nat c 255 h (by omega)

end Go.Proofs.Ytpdfdlikijghhaa

/- The walk of the reference's Next. -/
namespace Go.Proofs.Ytpdfdlikijghhaa
open Go.RowKit

/-- The next front, and whether there is one. -/
def RetN (w : World) (o : List Nat × Bool) (e : Ending) (w' : World) : Prop :=
  Below w.heap.size w w' ∧ ∃ a cap, e = .returned (.tuple #[.slice a o.1.length cap, .bool o.2]) ∧ o.1.length ≤ cap ∧ Bs w'.heap.size w' a o.1

theorem retN_no (w w' : World) (o : List Nat × Bool) (ho : o = ([], false)) (hb : Below w.heap.size w w') : RetN w o (.returned (.tuple #[.slice none 0 0, .bool false])) w' := by
  subst ho
  exact ⟨hb, Option.none, 0, rfl, by simp, by simp, .inl rfl⟩

theorem Bs.setLast {N : Nat} {w : World} {g : Nat} {p : List Nat} {c d : Nat} (h : Bs N w (some ⟨g, 0, none⟩) (p ++ [c])) (hd : d < 256) (k : Nat) (hk : k = p.length) :
    Bs N (w.setCell ⟨g, k, none⟩ (.int .u8 (d : Int))) (some ⟨g, 0, none⟩) (p ++ [d]) := by
  subst hk
  obtain ⟨h1, h2⟩ := h
  refine ⟨?_, .inr ?_⟩
  · intro x hx
    rcases List.mem_append.1 hx with hx | hx
    · exact h1 x (by simp [hx])
    · rw [List.mem_singleton.1 hx]; exact hd
  · rcases h2 with h2 | ⟨b, o, ha, hN, hc⟩
    · simp at h2
    · simp only [Option.some.injEq, Addr.mk.injEq, and_true] at ha
      obtain ⟨rfl, rfl⟩ := ha
      refine ⟨g, 0, rfl, hN, fun i x hi => ?_⟩
      rw [Nat.zero_add]
      by_cases hip : i = p.length
      · subst hip
        have := hc p.length c (by simp)
        rw [Nat.zero_add] at this
        rw [List.getElem?_append_right (by omega), Nat.sub_self] at hi
        simp at hi
        rw [World.cell?_setCell_same _ _ _ this, hi]
      · have hlt : i < p.length := by
          by_cases hlt : i < (p ++ [d]).length
          · simp at hlt; omega
          · rw [List.getElem?_eq_none (by omega)] at hi; simp at hi
        rw [List.getElem?_append_left hlt] at hi
        have := hc i x (by rw [List.getElem?_append_left hlt]; exact hi)
        rw [Nat.zero_add] at this
        exact (World.cell?_setCell_other _ _ _ _ (by simp [Ne.symm hip])).trans this

theorem OwnB.last {w : World} {base : Nat} {T : TypeId} {v : Value} {p : List Nat} {x j : Nat} (h : OwnB w base T v ([] ++ (p ++ [x]))) (hj : j = p.length) :
    ∃ g cap, v = .slice (some ⟨g, 0, none⟩) (j + 1) cap ∧ j + 1 ≤ cap ∧ base ≤ g ∧ Bs w.heap.size w (some ⟨g, 0, none⟩) (p ++ [x]) ∧ w.cell? ⟨g, j, none⟩ = some (.int .u8 (x : Int)) ∧ w.frozen? ⟨g, j, none⟩ = false := by
  rw [List.nil_append] at h
  subst hj
  obtain ⟨a, cap, rfl, hcap, hB, hg⟩ := h.slice
  obtain ⟨g, rfl, hgb⟩ := hg (by simp)
  obtain ⟨⟨c, hc, hcell⟩, hf⟩ := (Wr.of h (n := (p ++ [x]).length) rfl) p.length (by simp)
  have hl : (p ++ [x]).length = p.length + 1 := by simp
  rw [hl] at hcap ⊢
  refine ⟨g, cap, rfl, hcap, hgb, hB, ?_, hf⟩
  rcases hB.2 with h2 | ⟨b, o, ha, hN, hc⟩
  · simp at h2
  · simp only [Option.some.injEq, Addr.mk.injEq, and_true] at ha
    obtain ⟨rfl, rfl⟩ := ha
    have := hc p.length x (by simp)
    rwa [Nat.zero_add] at this

theorem retN_yes {w w1 : World} {o : List Nat × Bool} {p : List Nat} {x j g c : Nat} (ho : o = (p ++ [x + 1], true)) (hj : j = p.length) (hc : j + 1 ≤ c) (hb : Below w.heap.size w w1) (hg : w.heap.size ≤ g) (hx : x + 1 < 256)
    (hB : Bs w1.heap.size w1 (some ⟨g, 0, none⟩) (p ++ [x])) (n : Int) (hn : n = ((x + 1 : Nat) : Int)) :
    RetN w o (.returned (.tuple #[.slice (some ⟨g, 0, none⟩) (j + 1) c, .bool true])) (w1.setCell ⟨g, j, none⟩ (.int .u8 n)) := by
  subst ho hn
  have hl : (p ++ [x + 1]).length = j + 1 := by simp [hj]
  have h2 := (hB.setLast hx j hj)
  have hL := (LaterB.setCell (w := w1) (b := g) (o := j) (.int .u8 ((x + 1 : Nat) : Int)))
  refine ⟨hb.trans (hL.belowK hg hb.size), Option.some ⟨g, 0, Option.none⟩, c, ?_, ?_, h2.mono hL.size⟩
  · dsimp only; rw [hl]
  · dsimp only; omega

set_option maxHeartbeats 1000000 in
theorem rnext_any (l : List Nat) (a : Option Addr) (n c : Nat) (w : World) (hB : Bs w.heap.size w a l) (hn : n = l.length) (hcap : n ≤ c) (hmax : n ≤ 1000000) :
    Calls Try.prog 9 #[.slice a n c] w (RetN w (nextV l)) := by
  obtain ⟨i0, hi, hz0, hz1, hz2⟩ := info_parts Try.info5
  have HB := Lib.hid hB
  have HL := Lib.hid hn
  clear hB hn
  go_enter Try.func9, Try.ntmps9
  go_wp2
  go_loopw [4] (fun i wr => ∃ k : Nat, k ≤ n ∧ i = .int .i64 k ∧ Hid (∀ d ∈ l.drop k, d = 255) ∧ wr = w) (fun i _ => (intOf i).toNat)
  case atStart => exact ⟨n, Nat.le_refl _, rfl, by rw [HL.out]; intro d hd; simp at hd, rfl⟩
  case round =>
    obtain ⟨k, hk, rfl, HD, rfl⟩ := hrel
    rcases Nat.eq_zero_or_pos k with h0 | h0
    · subst h0
      have HN : Hid (nextV l = ([], false)) := nextV_none (by simpa using HD.out)
      clear HD
      go_wp2
      go_ret2
      exact retN_no _ _ _ HN.out (Below.refl _ _)
    · obtain ⟨j, rfl⟩ : ∃ j, k = j + 1 := ⟨k - 1, by omega⟩
      have hjl : j < l.length := by have := HL.out; omega
      rcases HB.out.2 with hnil | ⟨b, o, rfl, hbN, hcell⟩
      · rw [hnil] at hjl; simp at hjl
      · have hc := hcell j l[j] (List.getElem?_eq_getElem hjl)
        have h256 := HB.out.1 _ (List.getElem_mem hjl)
        have hdr := List.drop_eq_getElem_cons hjl
        have htk : l.take (j + 1) = l.take j ++ [l[j]] := by rw [List.take_add_one, List.getElem?_eq_getElem hjl]; rfl
        obtain ⟨x, hx⟩ : ∃ x, x = l[j] := ⟨_, rfl⟩
        rw [← hx] at hc h256 hdr htk
        have HX := Lib.hid hdr
        have HT := Lib.hid htk
        clear hcell hx hdr htk
        by_cases h255 : x = 255
        · subst h255
          have HD2 : Hid (∀ d ∈ l.drop j, d = 255) := by
            rw [HX.out]; intro d hd; rcases List.mem_cons.1 hd with rfl | hd
            · rfl
            · exact HD.out d hd
          clear HD HX HT h256
          go_wp2
          go_roundw
          case rel => exact ⟨j, by omega, by go_num, HD2, trivial⟩
          case measure => simp [intOf]
        · have HN : Hid (nextV l = (l.take j ++ [x + 1], true)) := by
            have := nextV_some (a := l.take j) (c := x) HD.out h255
            rw [← HX.out, List.take_append_drop] at this
            exact this
          have q255 : ((x : Int) == 255) = false := by simp; omega
          have hA' : Bs wr.heap.size wr (some ⟨b, o, none⟩) (l.take (j + 1)) := by
            obtain ⟨a', h1, h2⟩ := HB.out.upTo 22 5 Try.underlying22 Try.sizeOf5 n c (j + 1) HL.out hk hcap
            refine ⟨h1.1, .inr ⟨b, o, rfl, hbN, fun i y hi => ?_⟩⟩
            rcases HB.out.2 with hnil | ⟨b', o', hbo, _, hcell⟩
            · rw [hnil] at hjl; simp at hjl
            · simp only [Option.some.injEq, Addr.mk.injEq, and_true] at hbo
              obtain ⟨rfl, rfl⟩ := hbo
              rw [List.getElem?_take] at hi
              split at hi
              · exact hcell i y hi
              · simp at hi
          rw [HT.out] at hA'
          obtain ⟨p, hp⟩ : ∃ p, p = l.take j := ⟨_, rfl⟩
          have HP : Hid (j = p.length) := by rw [hp, List.length_take, Nat.min_eq_left (by omega)]; rfl
          have HN2 : Hid (nextV l = (p ++ [x + 1], true)) := by rw [hp]; exact HN.out
          rw [← hp] at hA'
          have HA := Lib.hid hA'
          clear HD HX HT hp HN hA' hjl
          go_wp2_with (at_builtin; refine wpList_appB rfl _ _ 22 rfl wr.heap.size 5 i0 Try.underlying22 hi hz0 hz1 hz2 _ [] _ (OwnB.nil _ _ _) rfl _ _ (p ++ [x]) (j + 1) c (by first | exact HA.out | exact HA.out.below (Below.refl _ _).drew) (by simp) (by rw [List.length_append, ← HP.out]; rfl) rfl (by rw [List.length_append, ← HP.out]; simp; omega) (Nat.le_refl _) ?_; intro v1 w1 hown1 hb1 hsz1; obtain ⟨g, c5, rfl, hcap5, hg5, hB5, hcell5, hfz5⟩ := hown1.last HP.out)
          go_ret2
          exact retN_yes HN2.out HP.out hcap5 hb1 hg5 (by omega) hB5 _ (by first | rfl | (push_cast; rfl) | (simp; done) | go_num)
end Go.Proofs.Ytpdfdlikijghhaa

/- slices.Backward of bytes: what its range hands out. -/
namespace Go.Proofs.Ytpdfdlikijghhaa
open Go.RowKit Go.Shelf

attribute [local go_sem] Oper.semAt_some

/-- The indices that have come when k rounds are over: from the last on downwards. -/
def BackPre (l : List Nat) (k : Nat) (pre : List (Fin l.length)) : Prop := pre.map Fin.val = (List.range k).map fun j => l.length - 1 - j

theorem BackPre.succ {l : List Nat} {k : Nat} {pre : List (Fin l.length)} (h : BackPre l k pre) (x : Fin l.length) (hx : x.val = l.length - 1 - k) : BackPre l (k + 1) (pre ++ [x]) := by
  unfold BackPre at *
  rw [List.map_append, h, List.range_succ, List.map_append]; simp [hx]

theorem BackPre.len {l : List Nat} {k : Nat} {pre : List (Fin l.length)} (h : BackPre l k pre) : pre.length = k := by
  have := congrArg List.length h
  simpa using this

/-- The arguments of the loop's body. -/
def backArgs (l : List Nat) (x : Fin l.length) : Array Value := #[.int .i64 (x.val : Int), .int .u8 ((l[x.val] : Nat) : Int)]

set_option maxRecDepth 100000 in
set_option maxHeartbeats 2000000 in
theorem back1_in (F : Fence) (n : Nat) (h25 : F.fn 25) (hro : F.round = none) (hn : 1 ≤ n) (y B n₀ b off cap : Nat) (l : List Nat) (hl : l.length ≤ 1000000) (hb : b < n₀) (J Jx : List (Fin l.length) → World → Prop)
    (hY : ∀ pre x W, J pre W → pre.length < l.length → YieldAt F (n - 1) Try.prog y (backArgs l x) W fun e W' =>
      (e = .returned (.bool true) ∧ J (pre ++ [x]) W' ∧ Below n₀ W W') ∨ (e = .returned (.bool false) ∧ Jx (pre ++ [x]) W'))
    (W : World) (hBs : W.cell? ⟨B, 0, none⟩ = some (.slice (some ⟨b, off, none⟩) l.length cap)) (hc : ∀ (j c : Nat), l[j]? = some c → W.cell? ⟨b, off + j, none⟩ = some (.int .u8 (c : Int))) (hB : B < n₀) (h0 : J [] W) :
    CallsIn F n Try.prog 25 #[.func (.yield y) #[] #[], .pointer (some ⟨B, 0, none⟩)] W fun e W' => (∃ v, e = .returned v) ∧
      ((∃ ys, BackPre l l.length ys ∧ J ys W') ∨ (∃ pre, (∃ k, k ≤ l.length ∧ BackPre l k pre) ∧ Jx pre W')) := by
  obtain ⟨len, hlen⟩ : ∃ len, len = l.length := ⟨_, rfl⟩
  have HL := Lib.hid hlen
  rw [← hlen] at hBs hl
  clear hlen
  refine callsIn_of_wp Try.func25 rfl h25 ?_ hro
  simp only [Try.ntmps25, List.size_toArray, List.length_cons, List.length_nil, Nat.reduceAdd, Nat.reduceSub, Array.replicate_succ, Array.replicate_zero, List.push_toArray, List.append_toArray, List.nil_append, List.cons_append]
  gi_wp2
  gi_loopw [3] (fun i wr => ∃ m : Nat, ∃ pre, m ≤ len ∧ i = .int .i64 ((m : Int) - 1) ∧ Hid (BackPre l (len - m) pre) ∧ J pre wr ∧ Below n₀ W wr)
    (fun i _ => (intOf i + 1).toNat)
  case atStart => exact ⟨len, [], Nat.le_refl _, rfl, by rw [Nat.sub_self]; rfl, h0, Below.refl _ _⟩
  case round =>
    obtain ⟨m, pre, hm, rfl, HC, hJs, hnx⟩ := hrel
    have hcb := (hnx.cell (p := ⟨B, 0, none⟩) hB).trans hBs
    rcases Nat.eq_zero_or_pos m with h | h
    · subst h
      have HC2 : Hid (BackPre l l.length pre) := by
        have e : len - 0 = l.length := by have := HL.out; omega
        exact e ▸ HC.out
      clear HC
      gi_wp2
      go_end0
      exact ⟨⟨_, rfl⟩, .inl ⟨_, HC2.out, hJs⟩⟩
    · obtain ⟨j, rfl⟩ : ∃ j, m = j + 1 := ⟨m - 1, by omega⟩
      have hj : j < l.length := by have := HL.out; omega
      have hcx := (hnx.cell (p := ⟨b, off + j, none⟩) hb).trans (hc j l[j] (List.getElem?_eq_getElem hj))
      have HC2 : Hid (BackPre l (len - j) (pre ++ [⟨j, hj⟩])) := by
        have := HC.out.succ ⟨j, hj⟩ (by have := HL.out; show j = l.length - 1 - (len - (j + 1)); omega)
        rwa [show len - (j + 1) + 1 = len - j by omega] at this
      have hpl : pre.length < l.length := by rw [HC.out.len]; have := HL.out; omega
      have hYY := hY pre ⟨j, hj⟩ wr hJs hpl
      unfold backArgs at hYY
      dsimp only at hYY
      obtain ⟨c, hcd⟩ : ∃ c, c = l[j] := ⟨_, rfl⟩
      rw [← hcd] at hcx hYY
      obtain ⟨fn, tmps, assign, body, hy, hR⟩ := hYY
      clear hcd hpl HC
      have HJ : Hid (j < l.length) := hj
      gi_wp2
      refine hR.mono ?_
      rintro e W3 (⟨rfl, hJ3, hk3⟩ | ⟨rfl, hJx3⟩)
      · gi_wp2
        go_roundw
        case rel => exact ⟨j, _, by omega, by go_num, HC2, hJ3, hnx.trans hk3⟩
        case measure => simp [intOf]; try omega
      · gi_wp2
        refine bodyPost_ret (results_none rfl _ _ _) rfl ?_
        exact ⟨⟨_, rfl⟩, .inr ⟨_, ⟨len - j, by have := HL.out; omega, HC2.out⟩, hJx3⟩⟩

set_option maxRecDepth 100000 in
set_option maxHeartbeats 1000000 in
/-- .. at a slice of no bytes. -/
theorem back1_nil_in (F : Fence) (n : Nat) (h25 : F.fn 25) (hro : F.round = none) (y B cap : Nat) (a : Option Addr) (J : List (Fin ([] : List Nat).length) → World → Prop)
    (W : World) (hBs : W.cell? ⟨B, 0, none⟩ = some (.slice a 0 cap)) (h0 : J [] W) :
    CallsIn F n Try.prog 25 #[.func (.yield y) #[] #[], .pointer (some ⟨B, 0, none⟩)] W fun e W' => (∃ v, e = .returned v) ∧ J [] W' := by
  refine callsIn_of_wp Try.func25 rfl h25 ?_ hro
  simp only [Try.ntmps25, List.size_toArray, List.length_cons, List.length_nil, Nat.reduceAdd, Nat.reduceSub, Array.replicate_succ, Array.replicate_zero, List.push_toArray, List.append_toArray, List.nil_append, List.cons_append]
  gi_wp2
  gi_loopw [3] (fun i wr => i = .int .i64 (-1) ∧ J [] wr) (fun _ _ => 0)
  case atStart => exact ⟨rfl, h0⟩
  case round =>
    obtain ⟨rfl, hJs⟩ := hrel
    gi_wp2
    go_end0
    exact ⟨⟨_, rfl⟩, hJs⟩

set_option maxHeartbeats 1000000 in
theorem back_in (F : Fence) (n : Nat) (h16 : F.fn 16) (hro : F.round = none) (a : Option Addr) (len cap : Nat) (w : World) :
    CallsIn F n Try.prog 16 #[.slice a len cap] w fun e w' => e = .returned (.func (.func 25) #[] #[.pointer (some ⟨w.heap.size, 0, none⟩)]) ∧ w' = w.alloc (.cells #[.slice a len cap] 22) := by
  refine callsIn_of_wp Try.func16 rfl h16 ?_ hro
  simp only [Try.ntmps16, List.size_toArray, List.length_cons, List.length_nil, Nat.reduceAdd, Nat.reduceSub, Array.replicate_succ, Array.replicate_zero, List.push_toArray, List.append_toArray, List.nil_append, List.cons_append]
  gi_wp2
  go_ret
  exact ⟨rfl, rfl⟩

/-- What slices.Backward(b) hands back: all indices downwards, or the first k of them. -/
theorem back_stops (F : Fence) (n : Nat) (h25 : F.fn 25) (hro : F.round = none) (hn : 1 ≤ n) (B n₀ : Nat) (a : Option Addr) (cap : Nat) (l : List Nat) (hl : l.length ≤ 1000000) (w : World) (hB : B < n₀) (hn₀ : n₀ ≤ w.heap.size)
    (hc : w.cell? ⟨B, 0, none⟩ = some (.slice a l.length cap)) (hI : Bs n₀ w a l) :
    SeqStopsK F n Try.prog 25 #[.pointer (some ⟨B, 0, none⟩)] (backArgs l) (Below n₀) (fun ys => BackPre l l.length ys)
      (fun pre => ∃ k, k ≤ l.length ∧ BackPre l k pre) l.length w := fun y J Jx W hW _ _ hY h0 => by
  have hc' := (hW.cell (p := ⟨B, 0, none⟩) (by show B < w.heap.size; omega)).trans hc
  have hI2 := hI.below (hW.mono hn₀)
  rcases hI2.2 with rfl | ⟨b, off, rfl, hb, hcs⟩
  · exact (back1_nil_in F n h25 hro y B cap a J W hc' h0).mono fun e W' ⟨he, hj⟩ => ⟨he, .inl ⟨[], by unfold BackPre; rfl, hj⟩⟩
  · exact back1_in F n h25 hro hn y B n₀ b off cap l hl hb J Jx hY W hc' hcs hB h0
end Go.Proofs.Ytpdfdlikijghhaa
