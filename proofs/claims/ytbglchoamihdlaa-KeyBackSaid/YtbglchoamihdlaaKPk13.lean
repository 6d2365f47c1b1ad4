/- Several texts of one proof, one behind the other. -/
import Derived.Test.YtbglchoamihdlaaKPk12
import Derived.RangeFuncBox
import Derived.RangeFuncLeaves
import Derived.Shelf.Abstract
import Derived.WalkKit
import Derived.OwnWalkIn
import Derived.TacticsInMore
import Derived.LoopNIn
import Derived.LoopIn
import Derived.Deep.WholeRow
import Derived.Deep.OwnRows

/- The walk of the reference's Next. -/
namespace Go.Proofs.Ytbglchoamihdlaa
open Go.RowKit

/-- The next front, and whether there is one. -/
def RetN (w : World) (o : List Nat × Bool) (e : Ending) (w' : World) : Prop :=
  Below w.heap.size w w' ∧ ∃ a cap, e = .returned (.tuple #[.slice a o.1.length cap, .bool o.2]) ∧ o.1.length ≤ cap ∧ Bs w'.heap.size w' a o.1

theorem retN_no (w w' : World) (o : List Nat × Bool) (ho : o = ([], false)) (hb : Below w.heap.size w w') : RetN w o (.returned (.tuple #[.slice none 0 0, .bool false])) w' := by
  subst ho
  exact ⟨hb, Option.none, 0, rfl, by simp, by simp, .inl rfl⟩

theorem Bs.setLast {N : Nat} {w : World} {g : Nat} {p : List Nat} {c d : Nat} (h : Bs N w (some ⟨g, 0, none⟩) (p ++ [c])) (hd : d < 256) (k : Nat) (hk : k = p.length) :
    Bs N (w.setCell ⟨g, k, none⟩ (.int .u8 (d : Int))) (some ⟨g, 0, none⟩) (p ++ [d]) := by
  subst hk
  obtain ⟨h1, h2⟩ := h
  refine ⟨?_, .inr ?_⟩
  · intro x hx
    rcases List.mem_append.1 hx with hx | hx
    · exact h1 x (by simp [hx])
    · rw [List.mem_singleton.1 hx]; exact hd
  · rcases h2 with h2 | ⟨b, o, ha, hN, hc⟩
    · simp at h2
    · simp only [Option.some.injEq, Addr.mk.injEq, and_true] at ha
      obtain ⟨rfl, rfl⟩ := ha
      refine ⟨g, 0, rfl, hN, fun i x hi => ?_⟩
      rw [Nat.zero_add]
      by_cases hip : i = p.length
      · subst hip
        have := hc p.length c (by simp)
        rw [Nat.zero_add] at this
        rw [List.getElem?_append_right (by omega), Nat.sub_self] at hi
        simp at hi
        rw [World.cell?_setCell_same _ _ _ this, hi]
      · have hlt : i < p.length := by
          by_cases hlt : i < (p ++ [d]).length
          · simp at hlt; omega
          · rw [List.getElem?_eq_none (by omega)] at hi; simp at hi
        rw [List.getElem?_append_left hlt] at hi
        have := hc i x (by rw [List.getElem?_append_left hlt]; exact hi)
        rw [Nat.zero_add] at this
        exact (World.cell?_setCell_other _ _ _ _ (by simp [Ne.symm hip])).trans this

theorem OwnB.last {w : World} {base : Nat} {T : TypeId} {v : Value} {p : List Nat} {x j : Nat} (h : OwnB w base T v ([] ++ (p ++ [x]))) (hj : j = p.length) :
    ∃ g cap, v = .slice (some ⟨g, 0, none⟩) (j + 1) cap ∧ j + 1 ≤ cap ∧ base ≤ g ∧ Bs w.heap.size w (some ⟨g, 0, none⟩) (p ++ [x]) ∧ w.cell? ⟨g, j, none⟩ = some (.int .u8 (x : Int)) ∧ w.frozen? ⟨g, j, none⟩ = false := by
  rw [List.nil_append] at h
  subst hj
  obtain ⟨a, cap, rfl, hcap, hB, hg⟩ := h.slice
  obtain ⟨g, rfl, hgb⟩ := hg (by simp)
  obtain ⟨⟨c, hc, hcell⟩, hf⟩ := (Wr.of h (n := (p ++ [x]).length) rfl) p.length (by simp)
  have hl : (p ++ [x]).length = p.length + 1 := by simp
  rw [hl] at hcap ⊢
  refine ⟨g, cap, rfl, hcap, hgb, hB, ?_, hf⟩
  rcases hB.2 with h2 | ⟨b, o, ha, hN, hc⟩
  · simp at h2
  · simp only [Option.some.injEq, Addr.mk.injEq, and_true] at ha
    obtain ⟨rfl, rfl⟩ := ha
    have := hc p.length x (by simp)
    rwa [Nat.zero_add] at this

theorem retN_yes {w w1 : World} {o : List Nat × Bool} {p : List Nat} {x j g c : Nat} (ho : o = (p ++ [x + 1], true)) (hj : j = p.length) (hc : j + 1 ≤ c) (hb : Below w.heap.size w w1) (hg : w.heap.size ≤ g) (hx : x + 1 < 256)
    (hB : Bs w1.heap.size w1 (some ⟨g, 0, none⟩) (p ++ [x])) (n : Int) (hn : n = ((x + 1 : Nat) : Int)) :
    RetN w o (.returned (.tuple #[.slice (some ⟨g, 0, none⟩) (j + 1) c, .bool true])) (w1.setCell ⟨g, j, none⟩ (.int .u8 n)) := by
  subst ho hn
  have hl : (p ++ [x + 1]).length = j + 1 := by simp [hj]
  have h2 := (hB.setLast hx j hj)
  have hL := (LaterB.setCell (w := w1) (b := g) (o := j) (.int .u8 ((x + 1 : Nat) : Int)))
  refine ⟨hb.trans (hL.belowK hg hb.size), Option.some ⟨g, 0, Option.none⟩, c, ?_, ?_, h2.mono hL.size⟩
  · dsimp only; rw [hl]
  · dsimp only; omega

set_option maxHeartbeats 1000000 in
theorem rnext_any (l : List Nat) (a : Option Addr) (n c : Nat) (w : World) (hB : Bs w.heap.size w a l) (hn : n = l.length) (hcap : n ≤ c) (hmax : n ≤ 1000000) :
    Calls Try.prog 9 #[.slice a n c] w (RetN w (nextV l)) := by
  obtain ⟨i0, hi, hz0, hz1, hz2⟩ := info_parts Try.info5
  have HB := Lib.hid hB
  have HL := Lib.hid hn
  clear hB hn
  go_enter Try.func9, Try.ntmps9
  go_wp2
  go_loopw [4] (fun i wr => ∃ k : Nat, k ≤ n ∧ i = .int .i64 k ∧ Hid (∀ d ∈ l.drop k, d = 255) ∧ wr = w) (fun i _ => (intOf i).toNat)
  case atStart => exact ⟨n, Nat.le_refl _, rfl, by rw [HL.out]; intro d hd; simp at hd, rfl⟩
  case round =>
    obtain ⟨k, hk, rfl, HD, rfl⟩ := hrel
    rcases Nat.eq_zero_or_pos k with h0 | h0
    · subst h0
      have HN : Hid (nextV l = ([], false)) := nextV_none (by simpa using HD.out)
      clear HD
      go_wp2
      go_ret2
      exact retN_no _ _ _ HN.out (Below.refl _ _)
    · obtain ⟨j, rfl⟩ : ∃ j, k = j + 1 := ⟨k - 1, by omega⟩
      have hjl : j < l.length := by have := HL.out; omega
      rcases HB.out.2 with hnil | ⟨b, o, rfl, hbN, hcell⟩
      · rw [hnil] at hjl; simp at hjl
      · have hc := hcell j l[j] (List.getElem?_eq_getElem hjl)
        have h256 := HB.out.1 _ (List.getElem_mem hjl)
        have hdr := List.drop_eq_getElem_cons hjl
        have htk : l.take (j + 1) = l.take j ++ [l[j]] := by rw [List.take_add_one, List.getElem?_eq_getElem hjl]; rfl
        obtain ⟨x, hx⟩ : ∃ x, x = l[j] := ⟨_, rfl⟩
        rw [← hx] at hc h256 hdr htk
        have HX := Lib.hid hdr
        have HT := Lib.hid htk
        clear hcell hx hdr htk
        by_cases h255 : x = 255
        · subst h255
          have HD2 : Hid (∀ d ∈ l.drop j, d = 255) := by
            rw [HX.out]; intro d hd; rcases List.mem_cons.1 hd with rfl | hd
            · rfl
            · exact HD.out d hd
          clear HD HX HT h256
          go_wp2
          go_roundw
          case rel => exact ⟨j, by omega, by go_num, HD2, trivial⟩
          case measure => simp [intOf]
        · have HN : Hid (nextV l = (l.take j ++ [x + 1], true)) := by
            have := nextV_some (a := l.take j) (c := x) HD.out h255
            rw [← HX.out, List.take_append_drop] at this
            exact this
          have q255 : ((x : Int) == 255) = false := by simp; omega
          have hA' : Bs wr.heap.size wr (some ⟨b, o, none⟩) (l.take (j + 1)) := by
            obtain ⟨a', h1, h2⟩ := HB.out.upTo 22 5 Try.underlying22 Try.sizeOf5 n c (j + 1) HL.out hk hcap
            refine ⟨h1.1, .inr ⟨b, o, rfl, hbN, fun i y hi => ?_⟩⟩
            rcases HB.out.2 with hnil | ⟨b', o', hbo, _, hcell⟩
            · rw [hnil] at hjl; simp at hjl
            · simp only [Option.some.injEq, Addr.mk.injEq, and_true] at hbo
              obtain ⟨rfl, rfl⟩ := hbo
              rw [List.getElem?_take] at hi
              split at hi
              · exact hcell i y hi
              · simp at hi
          rw [HT.out] at hA'
          obtain ⟨p, hp⟩ : ∃ p, p = l.take j := ⟨_, rfl⟩
          have HP : Hid (j = p.length) := by rw [hp, List.length_take, Nat.min_eq_left (by omega)]; rfl
          have HN2 : Hid (nextV l = (p ++ [x + 1], true)) := by rw [hp]; exact HN.out
          rw [← hp] at hA'
          have HA := Lib.hid hA'
          clear HD HX HT hp HN hA' hjl
          go_wp2_with (at_builtin; refine wpList_appB rfl _ _ 22 rfl wr.heap.size 5 i0 Try.underlying22 hi hz0 hz1 hz2 _ [] _ (OwnB.nil _ _ _) rfl _ _ (p ++ [x]) (j + 1) c (by first | exact HA.out | exact HA.out.below (Below.refl _ _).drew) (by simp) (by rw [List.length_append, ← HP.out]; rfl) rfl (by rw [List.length_append, ← HP.out]; simp; omega) (Nat.le_refl _) ?_; intro v1 w1 hown1 hb1 hsz1; obtain ⟨g, c5, rfl, hcap5, hg5, hB5, hcell5, hfz5⟩ := hown1.last HP.out)
          go_ret2
          exact retN_yes HN2.out HP.out hcap5 hb1 hg5 (by omega) hB5 _ (by first | rfl | (push_cast; rfl) | (simp; done) | go_num)
end Go.Proofs.Ytbglchoamihdlaa

/- slices.Backward of bytes: what its range hands out. -/
namespace Go.Proofs.Ytbglchoamihdlaa
open Go.RowKit Go.Shelf

attribute [local go_sem] Oper.semAt_some

/-- The indices that have come when k rounds are over: from the last on downwards. -/
def BackPre (l : List Nat) (k : Nat) (pre : List (Fin l.length)) : Prop := pre.map Fin.val = (List.range k).map fun j => l.length - 1 - j

theorem BackPre.succ {l : List Nat} {k : Nat} {pre : List (Fin l.length)} (h : BackPre l k pre) (x : Fin l.length) (hx : x.val = l.length - 1 - k) : BackPre l (k + 1) (pre ++ [x]) := by
  unfold BackPre at *
  rw [List.map_append, h, List.range_succ, List.map_append]; simp [hx]

theorem BackPre.len {l : List Nat} {k : Nat} {pre : List (Fin l.length)} (h : BackPre l k pre) : pre.length = k := by
  have := congrArg List.length h
  simpa using this

/-- The arguments of the loop's body. -/
def backArgs (l : List Nat) (x : Fin l.length) : Array Value := #[.int .i64 (x.val : Int), .int .u8 ((l[x.val] : Nat) : Int)]

set_option maxRecDepth 100000 in
set_option maxHeartbeats 2000000 in
theorem back1_in (F : Fence) (n : Nat) (h25 : F.fn 25) (hro : F.round = none) (hn : 1 ≤ n) (y B n₀ b off cap : Nat) (l : List Nat) (hl : l.length ≤ 1000000) (hb : b < n₀) (J Jx : List (Fin l.length) → World → Prop)
    (hY : ∀ pre x W, J pre W → pre.length < l.length → YieldAt F (n - 1) Try.prog y (backArgs l x) W fun e W' =>
      (e = .returned (.bool true) ∧ J (pre ++ [x]) W' ∧ Below n₀ W W') ∨ (e = .returned (.bool false) ∧ Jx (pre ++ [x]) W'))
    (W : World) (hBs : W.cell? ⟨B, 0, none⟩ = some (.slice (some ⟨b, off, none⟩) l.length cap)) (hc : ∀ (j c : Nat), l[j]? = some c → W.cell? ⟨b, off + j, none⟩ = some (.int .u8 (c : Int))) (hB : B < n₀) (h0 : J [] W) :
    CallsIn F n Try.prog 25 #[.func (.yield y) #[] #[], .pointer (some ⟨B, 0, none⟩)] W fun e W' => (∃ v, e = .returned v) ∧
      ((∃ ys, BackPre l l.length ys ∧ J ys W') ∨ (∃ pre, (∃ k, k ≤ l.length ∧ BackPre l k pre) ∧ Jx pre W')) := by
  obtain ⟨len, hlen⟩ : ∃ len, len = l.length := ⟨_, rfl⟩
  have HL := Lib.hid hlen
  rw [← hlen] at hBs hl
  clear hlen
  refine callsIn_of_wp Try.func25 rfl h25 ?_ hro
  simp only [Try.ntmps25, List.size_toArray, List.length_cons, List.length_nil, Nat.reduceAdd, Nat.reduceSub, Array.replicate_succ, Array.replicate_zero, List.push_toArray, List.append_toArray, List.nil_append, List.cons_append]
  gi_wp2
  gi_loopw [3] (fun i wr => ∃ m : Nat, ∃ pre, m ≤ len ∧ i = .int .i64 ((m : Int) - 1) ∧ Hid (BackPre l (len - m) pre) ∧ J pre wr ∧ Below n₀ W wr)
    (fun i _ => (intOf i + 1).toNat)
  case atStart => exact ⟨len, [], Nat.le_refl _, rfl, by rw [Nat.sub_self]; rfl, h0, Below.refl _ _⟩
  case round =>
    obtain ⟨m, pre, hm, rfl, HC, hJs, hnx⟩ := hrel
    have hcb := (hnx.cell (p := ⟨B, 0, none⟩) hB).trans hBs
    rcases Nat.eq_zero_or_pos m with h | h
    · subst h
      have HC2 : Hid (BackPre l l.length pre) := by
        have e : len - 0 = l.length := by have := HL.out; omega
        exact e ▸ HC.out
      clear HC
      gi_wp2
      go_end0
      exact ⟨⟨_, rfl⟩, .inl ⟨_, HC2.out, hJs⟩⟩
    · obtain ⟨j, rfl⟩ : ∃ j, m = j + 1 := ⟨m - 1, by omega⟩
      have hj : j < l.length := by have := HL.out; omega
      have hcx := (hnx.cell (p := ⟨b, off + j, none⟩) hb).trans (hc j l[j] (List.getElem?_eq_getElem hj))
      have HC2 : Hid (BackPre l (len - j) (pre ++ [⟨j, hj⟩])) := by
        have := HC.out.succ ⟨j, hj⟩ (by have := HL.out; show j = l.length - 1 - (len - (j + 1)); omega)
        rwa [show len - (j + 1) + 1 = len - j by omega] at this
      have hpl : pre.length < l.length := by rw [HC.out.len]; have := HL.out; omega
      have hYY := hY pre ⟨j, hj⟩ wr hJs hpl
      unfold backArgs at hYY
      dsimp only at hYY
      obtain ⟨c, hcd⟩ : ∃ c, c = l[j] := ⟨_, rfl⟩
      rw [← hcd] at hcx hYY
      obtain ⟨fn, tmps, assign, body, hy, hR⟩ := hYY
      clear hcd hpl HC
      have HJ : Hid (j < l.length) := hj
      gi_wp2
      refine hR.mono ?_
      rintro e W3 (⟨rfl, hJ3, hk3⟩ | ⟨rfl, hJx3⟩)
      · gi_wp2
        go_roundw
        case rel => exact ⟨j, _, by omega, by go_num, HC2, hJ3, hnx.trans hk3⟩
        case measure => simp [intOf]; try omega
      · gi_wp2
        refine bodyPost_ret (results_none rfl _ _ _) rfl ?_
        exact ⟨⟨_, rfl⟩, .inr ⟨_, ⟨len - j, by have := HL.out; omega, HC2.out⟩, hJx3⟩⟩

set_option maxRecDepth 100000 in
set_option maxHeartbeats 1000000 in
/-- .. at a slice of no bytes. -/
theorem back1_nil_in (F : Fence) (n : Nat) (h25 : F.fn 25) (hro : F.round = none) (y B cap : Nat) (a : Option Addr) (J : List (Fin ([] : List Nat).length) → World → Prop)
    (W : World) (hBs : W.cell? ⟨B, 0, none⟩ = some (.slice a 0 cap)) (h0 : J [] W) :
    CallsIn F n Try.prog 25 #[.func (.yield y) #[] #[], .pointer (some ⟨B, 0, none⟩)] W fun e W' => (∃ v, e = .returned v) ∧ J [] W' := by
  refine callsIn_of_wp Try.func25 rfl h25 ?_ hro
  simp only [Try.ntmps25, List.size_toArray, List.length_cons, List.length_nil, Nat.reduceAdd, Nat.reduceSub, Array.replicate_succ, Array.replicate_zero, List.push_toArray, List.append_toArray, List.nil_append, List.cons_append]
  gi_wp2
  gi_loopw [3] (fun i wr => i = .int .i64 (-1) ∧ J [] wr) (fun _ _ => 0)
  case atStart => exact ⟨rfl, h0⟩
  case round =>
    obtain ⟨rfl, hJs⟩ := hrel
    gi_wp2
    go_end0
    exact ⟨⟨_, rfl⟩, hJs⟩

set_option maxHeartbeats 1000000 in
theorem back_in (F : Fence) (n : Nat) (h16 : F.fn 16) (hro : F.round = none) (a : Option Addr) (len cap : Nat) (w : World) :
    CallsIn F n Try.prog 16 #[.slice a len cap] w fun e w' => e = .returned (.func (.func 25) #[] #[.pointer (some ⟨w.heap.size, 0, none⟩)]) ∧ w' = w.alloc (.cells #[.slice a len cap] 22) := by
  refine callsIn_of_wp Try.func16 rfl h16 ?_ hro
  simp only [Try.ntmps16, List.size_toArray, List.length_cons, List.length_nil, Nat.reduceAdd, Nat.reduceSub, Array.replicate_succ, Array.replicate_zero, List.push_toArray, List.append_toArray, List.nil_append, List.cons_append]
  gi_wp2
  go_ret
  exact ⟨rfl, rfl⟩

/-- What slices.Backward(b) hands back: all indices downwards, or the first k of them. -/
theorem back_stops (F : Fence) (n : Nat) (h25 : F.fn 25) (hro : F.round = none) (hn : 1 ≤ n) (B n₀ : Nat) (a : Option Addr) (cap : Nat) (l : List Nat) (hl : l.length ≤ 1000000) (w : World) (hB : B < n₀) (hn₀ : n₀ ≤ w.heap.size)
    (hc : w.cell? ⟨B, 0, none⟩ = some (.slice a l.length cap)) (hI : Bs n₀ w a l) :
    SeqStopsK F n Try.prog 25 #[.pointer (some ⟨B, 0, none⟩)] (backArgs l) (Below n₀) (fun ys => BackPre l l.length ys)
      (fun pre => ∃ k, k ≤ l.length ∧ BackPre l k pre) l.length w := fun y J Jx W hW _ _ hY h0 => by
  have hc' := (hW.cell (p := ⟨B, 0, none⟩) (by show B < w.heap.size; omega)).trans hc
  have hI2 := hI.below (hW.mono hn₀)
  rcases hI2.2 with rfl | ⟨b, off, rfl, hb, hcs⟩
  · exact (back1_nil_in F n h25 hro y B cap a J W hc' h0).mono fun e W' ⟨he, hj⟩ => ⟨he, .inl ⟨[], by unfold BackPre; rfl, hj⟩⟩
  · exact back1_in F n h25 hro hn y B n₀ b off cap l hl hb J Jx hY W hc' hcs hB h0
end Go.Proofs.Ytbglchoamihdlaa

/- 'make([]byte, k)' and 'copy' from a longer row into it. -/
namespace Go.Proofs.Ytbglchoamihdlaa
open Go.RowKit

theorem copyK (w : World) (N : Nat) (l : List Nat) (a : Option Addr) (n cap k : Nat) (hB : Bs N w a l) (hN : N ≤ w.heap.size) (hn : n = l.length) (hk : k ≤ n) (h0 : 0 < k) (ty : TypeId) (T : TypeId) :
    (Builtin.copy_ #[22, 22] ty #[.slice (some ⟨w.heap.size, 0, none⟩) k k, .slice a n cap]).run Try.prog (w.alloc (.cells (madeCells #[.int .u8 0] k) T)) =
      .ok (.int .i64 (k : Int)) (w.alloc (.cells ((l.take k).map fun (c : Nat) => Value.int .u8 (c : Int)).toArray T)) := by
  subst hn
  rcases hB.2 with h | ⟨b, o, rfl, hb, hc⟩
  · subst h; simp at hk; omega
  · have hlen : ((l.take k).map fun (c : Nat) => Value.int .u8 (c : Int)).length = k := by rw [List.length_map, List.length_take]; omega
    have hcells : ∀ j v, ((l.take k).map fun (c : Nat) => Value.int .u8 (c : Int))[j]? = some v → (w.alloc (.cells (madeCells #[.int .u8 0] k) T)).cell? ((⟨b, o, none⟩ : Addr).add j) = some v := by
      intro j v hv
      rw [List.getElem?_map] at hv
      cases hj : (l.take k)[j]? with
      | none => rw [hj] at hv; cases hv
      | some c =>
        rw [hj] at hv
        simp only [Option.map_some, Option.some.injEq] at hv
        subst hv
        have e1 : (⟨b, o, none⟩ : Addr).add j = ⟨b, o + j, none⟩ := by unfold Addr.add; split <;> simp_all
        have hj2 : l[j]? = some c := by
          rw [List.getElem?_take] at hj
          split at hj
          · exact hj
          · cases hj
        rw [e1, (Below.box w _).cell (p := ⟨b, o + j, none⟩) (show b < w.heap.size by omega)]
        exact hc j c hj2
    have hrun := run_copy_row (P := Try.prog) (w.alloc (.cells (madeCells #[.int .u8 0] k) T)) 22 22 ty 5 w.heap.size 0 k k ⟨b, o, none⟩ l.length cap
      (madeCells #[.int .u8 0] k) T ((l.take k).map fun (c : Nat) => Value.int .u8 (c : Int)) Try.underlying22 (by kernel_rfl)
      (heap_alloc_new _ _) (by rw [hlen]; exact (Nat.min_eq_right hk).symm) hcells (by rw [hlen, size_madeCells]; omega) (by intro v hv; obtain ⟨c, _, rfl⟩ := List.mem_map.1 hv; rfl)
    rw [hrun, hlen, World.setRow_alloc_new]
    have hd : (madeCells #[Value.int .u8 0] k).toList.drop (0 + k) = [] := List.drop_eq_nil_of_le (by rw [Array.length_toList, size_madeCells]; omega)
    rw [hd, List.take_zero, List.nil_append, List.append_nil]
    rfl
end Go.Proofs.Ytbglchoamihdlaa

/- The walk of key.Next. -/
namespace Go.Proofs.Ytbglchoamihdlaa
open Go.RowKit Go.Shelf

attribute [local go_sem] Oper.semAt_some

theorem Bs.keptBy {N : Nat} {w w' : World} {a : Option Addr} {l : List Nat} {row : Option Nat} (h : Bs N w a l) (hg : w.grownBy w' row) (hr : ∀ r, row = some r → ∃ o : Obj, w.heap[r]? = some o ∧ o.isCells = false) : Bs N w' a l := by
  refine ⟨h.1, ?_⟩
  rcases h.2 with h2 | ⟨b, o, ha, hN, hc⟩
  · exact .inl h2
  · exact .inr ⟨b, o, ha, hN, fun i c hi => cell_kept (hc i c hi) hg hr⟩

/-- The rounds so far: every byte was 255. -/
def NGo (l : List Nat) (a : Option Addr) (len cap : Nat) (w : World) (pre : List (Fin l.length)) (W : World) : Prop :=
  ((∀ p ∈ pre, l[p.val] = 255) ∧ W.cell? ⟨w.heap.size, 0, none⟩ = some (.slice a len cap) ∧ (W.cell? ⟨w.heap.size + 1, 0, none⟩ = some (.slice none 0 0) ∧ W.frozen? ⟨w.heap.size + 1, 0, none⟩ = false) ∧ W.cell? ⟨w.heap.size + 2, 0, none⟩ = some (.bool false) ∧ W.frozen? ⟨w.heap.size + 2, 0, none⟩ = false) ∧ Below w.heap.size w W

/-- How the loop is left by its return. -/
def NOut (l : List Nat) (w : World) (c : Code) (pre : List (Fin l.length)) (W : World) : Prop :=
  (c = .ret ∧ ∃ ini last g cap', pre = ini ++ [last] ∧ (∀ p ∈ ini, l[p.val] = 255) ∧ l[last.val] ≠ 255 ∧ last.val + 1 ≤ cap' ∧ W.cell? ⟨w.heap.size + 1, 0, none⟩ = some (.slice (some ⟨g, 0, none⟩) (last.val + 1) cap') ∧ W.cell? ⟨w.heap.size + 2, 0, none⟩ = some (.bool true) ∧ ∃ N, Bs N W (some ⟨g, 0, none⟩) (l.take last.val ++ [l[last.val] + 1]) ∧ N ≤ W.heap.size) ∧ Below w.heap.size w W

theorem NGo_own (l : List Nat) (a : Option Addr) (len cap : Nat) (w : World) (B : Nat) (hB : w.heap.size ≤ B) : OwnFrom B (NGo l a len cap w) :=
  OwnFrom.and (Own.from (fun s A B row hs hg hr => ⟨hs.1, cell_kept hs.2.1 hg hr, ⟨cell_kept hs.2.2.1.1 hg hr, (frozen_kept hs.2.2.1.1 hg hr).trans hs.2.2.1.2⟩, cell_kept hs.2.2.2.1 hg hr, (frozen_kept hs.2.2.2.1 hg hr).trans hs.2.2.2.2⟩) _) (ownFrom_below (Nat.le_refl _) hB)

theorem NOut_own (l : List Nat) (w : World) (c : Code) (B : Nat) (hB : w.heap.size ≤ B) : OwnFrom B (NOut l w c) :=
  OwnFrom.and (Own.from (fun s A B row hs hg hr => by
      obtain ⟨hc, ini, last, g, cap', e1, e2, e3, e4, e5, e6, N, e7, e8⟩ := hs
      exact ⟨hc, ini, last, g, cap', e1, e2, e3, e4, cell_kept e5 hg hr, cell_kept e6 hg hr, N, e7.keptBy hg hr, Nat.le_trans e8 hg.size⟩) _) (ownFrom_below (Nat.le_refl _) hB)

theorem row_set (l : List Nat) (i c : Nat) (hi : i < l.length) (hc : c = l[i]) :
    (((l.take (i + 1)).map fun (c : Nat) => Value.int .u8 (c : Int)).toArray).setIfInBounds i (.int .u8 ((c : Int) + 1)) = ((l.take i ++ [c + 1]).map fun (c : Nat) => Value.int .u8 (c : Int)).toArray := by
  have hl : (l.take i).length = i := by rw [List.length_take]; omega
  rw [List.take_add_one, List.getElem?_eq_getElem hi, ← hc, List.setIfInBounds_toArray]
  congr 1
  simp only [Option.toList_some, List.map_append, List.map_cons, List.map_nil]
  rw [List.set_append_right _ _ (by simp; omega)]
  simp [hl, Nat.min_eq_left (Nat.le_of_lt hi)]

theorem next_out (w W : World) (l : List Nat) (a : Option Addr) (len cap B i c : Nat) (hi : i < l.length) (hc : c = l[i]) (h255 : c ≠ 255) (h256 : ∀ x ∈ l, x < 256) (pre : List (Fin l.length))
    (hG : NGo l a len cap w pre W) (hsz : w.heap.size + 2 < W.heap.size) (hB : w.heap.size + 4 ≤ B) (row : Array Value) (hrow : row = ((l.take (i + 1)).map fun (c : Nat) => Value.int .u8 (c : Int)).toArray) (T : TypeId) :
    KeepsFrom B W (((W.alloc (.cells (row.setIfInBounds i (.int .u8 ((c : Int) + 1))) T)).setCell ⟨w.heap.size + 1, 0, none⟩ (.slice (some ⟨W.heap.size, 0, none⟩) (i + 1) (i + 1))).setCell ⟨w.heap.size + 1 + 1, 0, none⟩ (.bool true)) ∧
      NOut l w .ret (pre ++ [⟨i, hi⟩]) (((W.alloc (.cells (row.setIfInBounds i (.int .u8 ((c : Int) + 1))) T)).setCell ⟨w.heap.size + 1, 0, none⟩ (.slice (some ⟨W.heap.size, 0, none⟩) (i + 1) (i + 1))).setCell ⟨w.heap.size + 1 + 1, 0, none⟩ (.bool true)) := by
  obtain ⟨⟨hp, c1, ⟨c2, f2⟩, c3, f3⟩, hbw⟩ := hG
  rw [hrow, row_set l i c hi hc]
  obtain ⟨o, ho⟩ : ∃ o, o = ((l.take i ++ [c + 1]).map fun (c : Nat) => Value.int .u8 (c : Int)).toArray := ⟨_, rfl⟩
  rw [← ho]
  have k2 : (W.alloc (.cells o T)).cell? ⟨w.heap.size + 1, 0, none⟩ = some (.slice none 0 0) := (World.cell?_alloc_lt _ _ _ (show w.heap.size + 1 < W.heap.size by omega)).trans c2
  have k3 : ((W.alloc (.cells o T)).setCell ⟨w.heap.size + 1, 0, none⟩ (.slice (some ⟨W.heap.size, 0, none⟩) (i + 1) (i + 1))).cell? ⟨w.heap.size + 1 + 1, 0, none⟩ = some (.bool false) :=
    (World.cell?_setCell_other _ _ _ _ (by simp)).trans ((World.cell?_alloc_lt _ _ _ (show w.heap.size + 2 < W.heap.size by omega)).trans c3)
  refine ⟨⟨by simp, fun k x hk hx hcell => ?_⟩, ⟨rfl, pre, ⟨i, hi⟩, W.heap.size, i + 1, rfl, hp, by rw [← hc]; exact h255, Nat.le_refl _, ?_, World.cell?_setCell_same _ _ _ k3, W.heap.size + 1, ⟨?_, ?_⟩, by simp⟩, ?_⟩
  · have hkl : k < W.heap.size := by
      by_cases h : k < W.heap.size
      · exact h
      · rw [Array.getElem?_eq_none (by omega)] at hx; simp at hx
    rw [Below.heap_setCell _ _ _ _ (by show k ≠ w.heap.size + 1 + 1; omega), Below.heap_setCell _ _ _ _ (by show k ≠ w.heap.size + 1; omega), Below.heap_alloc _ _ _ hkl]
    exact hx
  · exact (World.cell?_setCell_other _ _ _ _ (by simp)).trans (World.cell?_setCell_same _ _ _ k2)
  · intro x hx
    rcases List.mem_append.1 hx with hx | hx
    · exact h256 x (List.mem_of_mem_take hx)
    · rw [List.mem_singleton.1 hx, ← hc]
      have := h256 _ (List.getElem_mem hi)
      omega
  · refine .inr ⟨W.heap.size, 0, rfl, by omega, fun j x hj => ?_⟩
    rw [Nat.zero_add]
    refine (World.cell?_setCell_other _ _ _ _ (by simp; try omega)).trans ((World.cell?_setCell_other _ _ _ _ (by simp; try omega)).trans ?_)
    rw [World.cell?_alloc_new]
    rw [← hc] at hj
    have hj' : (l.take i ++ [c + 1])[j]? = some x := hj
    rw [ho, List.getElem?_toArray, List.getElem?_map, hj']
    rfl
  · exact (((hbw.alloc (by omega) _).setCell (p := ⟨w.heap.size + 1, 0, none⟩) (by show w.heap.size ≤ w.heap.size + 1; omega) _).setCell (p := ⟨w.heap.size + 1 + 1, 0, none⟩) (by show w.heap.size ≤ w.heap.size + 1 + 1; omega) _)

theorem back_all {l : List Nat} {ys : List (Fin l.length)} (h : BackPre l l.length ys) (hp : ∀ p ∈ ys, l[p.val] = 255) : ∀ c ∈ l, c = 255 := by
  intro c hc
  obtain ⟨j, hj, rfl⟩ := List.getElem_of_mem hc
  have hm : j ∈ ys.map Fin.val := by
    rw [h]
    refine List.mem_map.2 ⟨l.length - 1 - j, List.mem_range.2 (by omega), by omega⟩
  obtain ⟨p, hpy, rfl⟩ := List.mem_map.1 hm
  exact hp p hpy

theorem back_last {l : List Nat} {k : Nat} {ini : List (Fin l.length)} {last : Fin l.length} (hk : k ≤ l.length) (h : BackPre l k (ini ++ [last])) (hp : ∀ p ∈ ini, l[p.val] = 255) (h5 : l[last.val] ≠ 255) : nextV l = (l.take last.val ++ [l[last.val] + 1], true) := by
  have hk1 : 1 ≤ k := by have := h.len; simp at this; omega
  obtain ⟨k', rfl⟩ : ∃ k', k = k' + 1 := ⟨k - 1, by omega⟩
  unfold BackPre at h
  rw [List.map_append, List.range_succ, List.map_append] at h
  obtain ⟨e1, e2⟩ := List.append_inj' h rfl
  simp at e2
  have hl := last.isLt
  have hall : ∀ d ∈ l.drop (last.val + 1), d = 255 := by
    intro d hd
    obtain ⟨j, hj, rfl⟩ := List.getElem_of_mem hd
    rw [List.length_drop] at hj
    rw [List.getElem_drop]
    have hm : last.val + 1 + j ∈ ini.map Fin.val := by
      rw [e1]
      exact List.mem_map.2 ⟨l.length - 1 - (last.val + 1 + j), List.mem_range.2 (by omega), by omega⟩
    obtain ⟨p, hpy, hpe⟩ := List.mem_map.1 hm
    have := hp p hpy
    simp only [hpe] at this
    exact this
  have := nextV_some (a := l.take last.val) hall h5
  rw [← List.drop_eq_getElem_cons hl, List.take_append_drop] at this
  exact this

set_option maxRecDepth 100000 in
set_option maxHeartbeats 4000000 in
theorem Next_in (F : Fence) (n : Nat) (h8 : F.fn 8) (h16 : F.fn 16) (h25 : F.fn 25) (hro : F.round = none) (hn : 3 ≤ n)
    (l : List Nat) (a : Option Addr) (len cap : Nat) (w : World) (hB : Bs w.heap.size w a l) (hlen : len = l.length) (hcap : len ≤ cap) (hmax : len ≤ 1000000) :
    CallsIn F n Try.prog 8 #[.slice a len cap] w (RetN w (nextV l)) := by
  have h1 : 1 ≤ n := by omega
  have HB := Lib.hid hB
  have HL := Lib.hid hlen
  clear hB hlen
  refine callsIn_of_wp_marks Try.func8 rfl h8 ?_ hro
  simp only [Try.ntmps8, List.size_toArray, List.length_cons, List.length_nil, Nat.reduceAdd, Nat.reduceSub, Array.replicate_succ, Array.replicate_zero, List.push_toArray, List.append_toArray, List.nil_append, List.cons_append]
  gi_wp2_with (gi_at_call 16; refine (back_in F (n - 1) h16 hro _ _ _ _).mono ?_; rintro e w' ⟨rfl, rfl⟩)
  have hA : ∀ (W : World) (X : Obj), Below w.heap.size w W → Below w.heap.size w (W.alloc X) := fun W X h => h.alloc h.size _
  have hBW := hA _ (.cells #[.slice a len cap] 22) (hA _ (.cells #[.bool false] 4) (hA _ (.cells #[.slice none 0 0] 22) (hA _ (.cells #[.slice a len cap] 22) (Below.refl _ w))))
  have b1 := (((Boxed.new w 22 (.slice a len cap)).alloc (.cells #[.slice none 0 0] 22)).alloc (.cells #[.bool false] 4)).alloc (.cells #[.slice a len cap] 22)
  have b2 := ((Boxed.new (w.alloc (.cells #[.slice a len cap] 22)) 22 (.slice none 0 0)).alloc (.cells #[.bool false] 4)).alloc (.cells #[.slice a len cap] 22)
  have b3 := (Boxed.new ((w.alloc (.cells #[.slice a len cap] 22)).alloc (.cells #[.slice none 0 0] 22)) 4 (.bool false)).alloc (.cells #[.slice a len cap] 22)
  have b4 := Boxed.new (((w.alloc (.cells #[.slice a len cap] 22)).alloc (.cells #[.slice none 0 0] 22)).alloc (.cells #[.bool false] 4)) 22 (.slice a len cap)
  simp only [World.size_alloc] at b1 b2 b3 b4
  have hz : ((((w.alloc (.cells #[.slice a len cap] 22)).alloc (.cells #[.slice none 0 0] 22)).alloc (.cells #[.bool false] 4)).alloc (.cells #[.slice a len cap] 22)).heap.size = w.heap.size + 4 := by simp
  clear hA
  generalize ((((w.alloc (.cells #[.slice a len cap] 22)).alloc (.cells #[.slice none 0 0] 22)).alloc (.cells #[.bool false] 4)).alloc (.cells #[.slice a len cap] 22)) = W1 at *
  have hB1 := HB.out.below hBW
  have hst := back_stops F (n - 1) h25 hro (by omega) (w.heap.size + 3) W1.heap.size a cap l (by have := HL.out; omega) W1 (by omega) (Nat.le_refl _) (by have := b4.cell; rw [HL.out] at this; exact this) (hB1.mono (by omega))
  rw [show backArgs l = fun x => #[Value.int .i64 (x.val : Int), Value.int .u8 ((l[x.val] : Nat) : Int)] from rfl] at hst
  refine wpIn_rangeFunc_ownG hro h1 (gf := 25) (lb := #[.pointer (some ⟨w.heap.size + 3, 0, none⟩)]) rfl h25 (enters_of Try.func25 (by kernel_rfl) rfl)
    hst belowK_t (belowK_b (Nat.le_refl _)) (Below.refl _ _) (fun _ => rfl)
    (NGo l a len cap w) (NOut l w)
    (NGo_own l a len cap w _ (by omega))
    (fun c => NOut_own l w c _ (by omega))
    ⟨⟨by simp, b1.cell, ⟨b2.cell, b2.frozen⟩, b3.cell, b3.frozen⟩, hBW⟩
    ?a1 ?assign ?body ?done ?stop
  case assign =>
    intro y x W K hK
    gi_wp2
    exact hK
  case body =>
    rintro y pre x W hG _
    have HG := Lib.hid hG
    obtain ⟨⟨hp, c1, ⟨c2, f2⟩, c3, f3⟩, hBW2⟩ := hG
    obtain ⟨i, hi⟩ := x
    have h256 := HB.out.1 _ (List.getElem_mem hi)
    have hPX : ∀ (h : l[i] = 255), ∀ p ∈ pre ++ [(⟨i, hi⟩ : Fin l.length)], l[p.val] = 255 := fun h p hp' => (List.mem_append.1 hp').elim (hp p) (fun e => by simp at e; subst e; exact h)
    obtain ⟨c, hcd⟩ : ∃ c, c = l[i] := ⟨_, rfl⟩
    rw [← hcd] at h256 hPX
    have hcg : (((l[(⟨i, hi⟩ : Fin l.length).val] : Nat)) : Int) = (c : Int) := by rw [hcd]
    by_cases h255 : c = 255
    · subst h255
      have HPX := Lib.hid (hPX rfl)
      clear hPX hcd h256
      try rw [hcg]
      have HZ := Lib.hid hz
      clear hz
      gi_wp2
      exact ⟨KeepsFrom.refl _ _, Below.refl _ _, ⟨HPX.out, c1, ⟨c2, f2⟩, c3, f3⟩, hBW2⟩
    · have q255 : decide ((c : Int) < 255) = true := by simp; omega
      have hmk : ∀ V : World, (Instr.makeSlice 22 (.int .i64 ((i : Int) + 1)) (.int .i64 ((i : Int) + 1))).run Try.prog V = .ok (.slice (some ⟨V.heap.size, 0, none⟩) (i + 1) (i + 1)) (V.alloc (.cells (madeCells #[.int .u8 0] (i + 1)) 5)) := by
        intro V
        have := run_make_row' (P := Try.prog) 22 5 (.int .u8 0) 1 Try.underlying22 (by kernel_rfl) rfl .i64 .i64 (i + 1) (by have := HL.out; omega) (by have := HL.out; omega) V
        simpa using this
      have hcp := fun ty => copyK W w.heap.size l a len cap (i + 1) (HB.out.below hBW2) hBW2.size HL.out (by have := HL.out; omega) (by omega) ty 5
      have him : i + 1 ≤ 1000000 := by have := HL.out; omega
      obtain ⟨row, hrow⟩ : ∃ row, row = ((l.take (i + 1)).map fun (c : Nat) => Value.int .u8 (c : Int)).toArray := ⟨_, rfl⟩
      have hrc : row[i]? = some (.int .u8 (c : Int)) := by rw [hrow, hcd]; simp [hi]
      have hgc : (W.alloc (.cells row 5)).cell? ⟨W.heap.size, i, none⟩ = some (.int .u8 (c : Int)) := by rw [World.cell?_alloc_new]; exact hrc
      have hgf : (W.alloc (.cells row 5)).frozen? ⟨W.heap.size, i, none⟩ = false := World.frozen?_alloc_new _ _ _ _
      have hsz : w.heap.size + 2 < W.heap.size := by
        by_cases h : w.heap.size + 2 < W.heap.size
        · exact h
        · exfalso
          simp only [World.cell?] at c3
          rw [Array.getElem?_eq_none (by omega)] at c3
          simp at c3
      have d1 : (W.alloc (.cells (madeCells #[.int .u8 0] (i + 1)) 5)).cell? ⟨w.heap.size, 0, none⟩ = some (.slice a len cap) := (World.cell?_alloc_lt _ _ _ (show w.heap.size < W.heap.size by omega)).trans c1
      have e2 : ∀ o : Obj, (W.alloc o).cell? ⟨w.heap.size + 1, 0, none⟩ = some (.slice none 0 0) := fun o => (World.cell?_alloc_lt _ _ _ (show w.heap.size + 1 < W.heap.size by omega)).trans c2
      have g2 : ∀ o : Obj, (W.alloc o).frozen? ⟨w.heap.size + 1, 0, none⟩ = false := fun o => ((Below.box W o).frozen (p := ⟨w.heap.size + 1, 0, none⟩) (show w.heap.size + 1 < W.heap.size by omega)).trans f2
      have e3 : ∀ (o : Obj) v, ((W.alloc o).setCell ⟨w.heap.size + 1, 0, none⟩ v).cell? ⟨w.heap.size + 1 + 1, 0, none⟩ = some (.bool false) := fun o v =>
        (World.cell?_setCell_other _ _ _ _ (by simp)).trans ((World.cell?_alloc_lt _ _ _ (show w.heap.size + 2 < W.heap.size by omega)).trans c3)
      have g3 : ∀ (o : Obj) v, ((W.alloc o).setCell ⟨w.heap.size + 1, 0, none⟩ v).frozen? ⟨w.heap.size + 1 + 1, 0, none⟩ = false := fun o v => by
        rw [World.frozen?_setCell]; exact ((Below.box W o).frozen (p := ⟨w.heap.size + 2, 0, none⟩) (show w.heap.size + 2 < W.heap.size by omega)).trans f3
      rw [← hrow] at hcp
      have HRow := Lib.hid hrow
      have HCD := Lib.hid hcd
      have HJ := Lib.hid hi
      have HZ := Lib.hid hz
      clear hPX hcd hrow hrc hz
      try rw [hcg]
      gi_wp2
      exact next_out w W l a len cap _ i c hi HCD.out h255 HB.out.1 pre HG.out hsz (by have := HZ.out; omega) row HRow.out _
  case done =>
    rintro D ys W hD hys ⟨⟨hp, c1, ⟨c2, f2⟩, c3, f3⟩, hbw⟩ hK
    have HN := Lib.hid (nextV_none (back_all hys hp))
    have HZ := Lib.hid hz
    clear hz hp hys
    have e3 : ∀ v, (W.setCell ⟨w.heap.size + 1, 0, none⟩ v).cell? ⟨w.heap.size + 1 + 1, 0, none⟩ = some (.bool false) := fun v => (World.cell?_setCell_other _ _ _ _ (by simp)).trans c3
    have g3 : ∀ v, (W.setCell ⟨w.heap.size + 1, 0, none⟩ v).frozen? ⟨w.heap.size + 1 + 1, 0, none⟩ = false := fun v => by rw [World.frozen?_setCell]; exact f3
    gi_wp2
    have hK1 := (KeepsOthers.setCell W ⟨w.heap.size + 1, 0, none⟩ (.slice none 0 0)).same D _ hK rfl
    have hK' := (KeepsOthers.setCell _ ⟨w.heap.size + 1 + 1, 0, none⟩ (.bool false)).same D _ hK1 rfl
    refine ⟨by simp, .inl ⟨_, _, rfl, run_takeDeferred hK', ?_⟩⟩
    have k5 : ((W.setCell ⟨w.heap.size + 1, 0, none⟩ (.slice none 0 0)).setCell ⟨w.heap.size + 1 + 1, 0, none⟩ (.bool false)).cell? ⟨w.heap.size + 1 + 1, 0, none⟩ = some (.bool false) := World.cell?_setCell_same _ _ _ (e3 _)
    have k4 : ((W.setCell ⟨w.heap.size + 1, 0, none⟩ (.slice none 0 0)).setCell ⟨w.heap.size + 1 + 1, 0, none⟩ (.bool false)).cell? ⟨w.heap.size + 1, 0, none⟩ = some (.slice none 0 0) := (World.cell?_setCell_other _ _ _ _ (by simp)).trans (World.cell?_setCell_same _ _ _ c2)
    have hc5 := cell_kept k5 (grownBy_putObj' _ D (.deferred none)) (fun r e => by cases e; exact ⟨_, hK', rfl⟩)
    have hc4 := cell_kept k4 (grownBy_putObj' _ D (.deferred none)) (fun r e => by cases e; exact ⟨_, hK', rfl⟩)
    refine ⟨.tuple #[.slice none 0 0, .bool false], ?_, retN_no w _ _ HN.out ((((hbw.setCell (p := ⟨w.heap.size + 1, 0, none⟩) (by show w.heap.size ≤ w.heap.size + 1; omega) _).setCell (p := ⟨w.heap.size + 1 + 1, 0, none⟩) (by show w.heap.size ≤ w.heap.size + 1 + 1; omega) _)).trans (belowK_b (w := w) (Nat.le_refl _) _ D _ _ (by have := HZ.out; omega) hK' rfl rfl))⟩
    simp [results, Try.f8, go_sem, hc4, hc5]
  case stop =>
    rintro D c pre W hD ⟨k, hk, hpre⟩ ⟨⟨rfl, ini, last, g, cap', rfl, e2, e3, e4, e5, e6, N, e7, e8⟩, hbw⟩ hK
    have HN := Lib.hid (back_last hk hpre e2 e3)
    have HZ := Lib.hid hz
    clear hz e2 e3 hpre
    gi_wp2
    refine ⟨by simp, .inl ⟨_, _, rfl, run_takeDeferred hK, ?_⟩⟩
    have hc5 := cell_kept e5 (grownBy_putObj' _ D (.deferred none)) (fun r e => by cases e; exact ⟨_, hK, rfl⟩)
    have hc6 := cell_kept e6 (grownBy_putObj' _ D (.deferred none)) (fun r e => by cases e; exact ⟨_, hK, rfl⟩)
    have hbs := e7.keptBy (grownBy_putObj' _ D (.deferred none)) (fun r e => by cases e; exact ⟨_, hK, rfl⟩)
    refine ⟨.tuple #[.slice (some ⟨g, 0, none⟩) (last.val + 1) cap', .bool true], ?_, hbw.trans (belowK_b (w := w) (Nat.le_refl _) _ D _ _ (by have := HZ.out; omega) hK rfl rfl), some ⟨g, 0, none⟩, cap', ?_, ?_, ?_⟩
    · simp [results, Try.f8, go_sem, hc5, hc6]
    · rw [HN.out]
      have : last.val < l.length := last.isLt
      simp [List.length_take, Nat.min_eq_left (Nat.le_of_lt this)]
    · rw [HN.out]
      have : last.val < l.length := last.isLt
      simp [List.length_take, Nat.min_eq_left (Nat.le_of_lt this)]; omega
    · rw [HN.out]
      exact hbs.mono (Nat.le_trans e8 (grownBy_putObj' W D (.deferred none)).size)

theorem Next_any (l : List Nat) (a : Option Addr) (len cap : Nat) (w : World) (hB : Bs w.heap.size w a l) (hlen : len = l.length) (hcap : len ≤ cap) (hmax : len ≤ 1000000) :
    Calls Try.prog 8 #[.slice a len cap] w (RetN w (nextV l)) :=
  (callsIn_wide (n := 6)).1 (Next_in Fence.wide 6 trivial trivial trivial rfl (by omega) l a len cap w hB hlen hcap hmax)
end Go.Proofs.Ytbglchoamihdlaa

/- The walk of hindsightlaw04.alive. -/
namespace Go.Proofs.Ytbglchoamihdlaa
open Go.RowKit

theorem k_write_two : writeK [⟨0, 0, ⟨#[]⟩⟩, ⟨2, 0, ⟨#[97, 0]⟩⟩] = ([16, 18, 97, 0, 255, 0, 1], 0) := by
  have hr : rowOk [⟨0, 0, ⟨#[]⟩⟩, ⟨2, 0, ⟨#[97, 0]⟩⟩] = true := by decide
  have hk : keyL [⟨0, 0, ⟨#[]⟩⟩, ⟨2, 0, ⟨#[97, 0]⟩⟩] = [16, 18, 97, 0, 255, 0, 1] := by decide
  rw [writeK_good hr (by rw [hk]; simp), hk]

theorem k_read_two : readK [16, 18, 97, 0, 255, 0, 1] = ([⟨0, 0, ⟨#[]⟩⟩, ⟨2, 0, ⟨#[97, 0]⟩⟩], 0) := by
  have h : tupK [16, 18, 97, 0, 255, 0, 1] = some [⟨0, 0, ⟨#[]⟩⟩, ⟨2, 0, ⟨#[97, 0]⟩⟩] := by decide
  unfold readK
  rw [if_neg (by simp), h]

theorem k_read_bad : readK [20] = ([], 3) := by
  have h : tupK [20] = none := by decide
  unfold readK
  rw [if_neg (by simp), h]

theorem k_next : nextV [1, 255] = ([2], true) := by decide

theorem Vs.two (w : World) (x y : Vl) (T : TypeId) : Vs (w.heap.size + 1) (w.alloc (.cells #[.int .u8 x.k, .int .i64 x.n, .string x.s, .int .u8 y.k, .int .i64 y.n, .string y.s] T)) (some ⟨w.heap.size, 0, none⟩) [x, y] := by
  refine .inr ⟨w.heap.size, 0, rfl, by omega, fun i z hi => ?_⟩
  match i, hi with
  | 0, hi =>
    simp at hi; subst hi
    refine ⟨?_, ?_, ?_⟩ <;> (rw [World.cell?_alloc_new]; rfl)
  | 1, hi =>
    simp at hi; subst hi
    refine ⟨?_, ?_, ?_⟩ <;> (rw [World.cell?_alloc_new]; rfl)

set_option maxHeartbeats 4000000 in
theorem alive4_any (w : World) : Calls Try.prog 7 #[] w fun e w' => e = .returned (.bool true) ∧ Below w.heap.size w w' := by
  go_enter Try.func7, Try.ntmps7
  go_wp2_with fail
  have hV := Vs.two w ⟨0, 0, ⟨#[]⟩⟩ ⟨2, 0, ⟨#[97, 0]⟩⟩ 39
  have hW := KWrite_any [⟨0, 0, ⟨#[]⟩⟩, ⟨2, 0, ⟨#[97, 0]⟩⟩] (some ⟨w.heap.size, 0, none⟩) 2 2 (w.alloc (.cells #[.int .u8 0, .int .i64 0, .string ⟨#[]⟩, .int .u8 2, .int .i64 0, .string ⟨#[97, 0]⟩] 39)) (by simpa using hV) rfl (by omega) (by intro x hx; simp at hx; rcases hx with rfl | rfl <;> exact ⟨by decide, by decide, by decide⟩)
  rw [k_write_two] at hW
  have hw1 : Below w.heap.size w (w.alloc (.cells #[.int .u8 0, .int .i64 0, .string ⟨#[]⟩, .int .u8 2, .int .i64 0, .string ⟨#[97, 0]⟩] 39)) := Below.box _ _
  clear hV
  refine hW.mono ?_
  rintro e w2 ⟨a2, c2, rfl, hcap2, hB2, hb2⟩
  dsimp only at hB2 hcap2
  replace hw1 := hw1.trans (hb2.mono hw1.size)
  have hz2 := hw1.size
  clear hW hb2
  go_wp2_with fail
  have hR := KRead_any [16, 18, 97, 0, 255, 0, 1] a2 7 c2 w2 hB2 rfl hcap2 (by omega)
  rw [k_read_two] at hR
  refine hR.mono ?_
  rintro e w4 ⟨a4, c4, rfl, hcap4, hV4, hb24⟩
  dsimp only at hV4
  have hB4 := (hB2.below hb24).mono hb24.size
  replace hw1 := hw1.trans (hb24.mono hz2)
  have hz4 := hw1.size
  clear hR hcap4 hB2 hb24 hcap2
  go_wp2_with fail
  have hR := Next_any [1, 255] (some ⟨w4.heap.size, 0, none⟩) 2 2 (w4.alloc (.cells #[.int .u8 1, .int .u8 255] 5))
    (by simpa using Bs.new w4 [1, 255] (by simp) #[.int .u8 1, .int .u8 255] 5 (by intro i c hi; match i, hi with | 0, hi => simp at hi; subst hi; rfl | 1, hi => simp at hi; subst hi; rfl)) rfl (by omega) (by omega)
  rw [k_next] at hR
  have hbA := Below.box w4 (.cells #[.int .u8 1, .int .u8 255] 5)
  refine hR.mono ?_
  rintro e w6 ⟨hb6, a6, c6, rfl, hcap6, hB6⟩
  dsimp only at hB6
  have hb46 : Below w4.heap.size w4 w6 := hbA.trans (hb6.mono (by simp))
  have hB46 := (hB4.below hb46).mono hb46.size
  have hV46 := (hV4.below hb46).mono hb46.size
  replace hw1 := hw1.trans (hb46.mono hz4)
  have hz6 := hw1.size
  clear hR hb6 hcap6 hbA hB4 hV4 hb46
  go_wp2_with fail
  have hR := KRead_any [20] (some ⟨w6.heap.size, 0, none⟩) 1 1 (w6.alloc (.cells #[.int .u8 20] 5))
    (by simpa using Bs.new w6 [20] (by simp) #[.int .u8 20] 5 (by intro i c hi; match i, hi with | 0, hi => simp at hi; subst hi; rfl)) rfl (by omega) (by omega)
  rw [k_read_bad] at hR
  have hbA := Below.box w6 (.cells #[.int .u8 20] 5)
  refine hR.mono ?_
  rintro e w8 ⟨a8, c8, rfl, hcap8, hV8, hb8⟩
  have hb68 : Below w6.heap.size w6 w8 := hbA.trans (hb8.mono (by simp))
  have hs := (hB46.below hb68).str 7 c2 rfl
  rw [show strN [16, 18, 97, 0, 255, 0, 1] = ⟨#[16, 18, 97, 0, 255, 0, 1]⟩ from by decide] at hs
  have hs2 := (hB6.below hb68).str 1 c6 rfl
  rw [show strN [2] = ⟨#[2]⟩ from by decide] at hs2
  obtain ⟨b, o, rfl, hbN, hc⟩ := (hV46.below hb68).at_ (k := 1) (by simp)
  obtain ⟨d0, d1, d2⟩ := hc
  simp only [Nat.one_mul] at d0 d1 d2
  replace hw1 := hw1.trans (hb68.mono hz6)
  clear hR hb8 hcap8 hbA hV8 hV46 hB46 hB6
  go_wp2
  go_ret
  exact ⟨rfl, hw1⟩
end Go.Proofs.Ytbglchoamihdlaa
