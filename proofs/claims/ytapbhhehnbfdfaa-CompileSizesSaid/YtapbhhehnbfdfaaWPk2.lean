/- Several texts of one proof, one behind the other. -/
import Derived.Test.YtapbhhehnbfdfaaWPk1
import Derived.Lib.Hide
import Derived.Deep.RegionHeld3
import Derived.Deep.RegionWith
import Derived.BigQuiet
set_option linter.unusedSimpArgs false
set_option linter.unusedVariables false

/- The walks of Zig, Zag, PutInt, GetInt (varint's and hindsightref01's). -/
set_option linter.unusedSimpArgs false
set_option linter.unusedVariables false
set_option maxRecDepth 100000
namespace Go.Proofs.Ytapbhhehnbfdfaa
open Go.RowKit

theorem ret_i {k : IntKind} {a b : Int} (h : a = b) : Ending.returned (.int k a) = .returned (.int k b) := by rw [h]

theorem wrap_u64_neg (n : Int) (h : n < 0) (h1 : -9223372036854775808 ≤ n) : IntKind.u64.wrap n = n + 18446744073709551616 := by
  rw [IntKind.wrap_u64]; omega

theorem and1 (v : Nat) (h : v < 18446744073709551616) : bits .and .u64 (v : Int) 1 = ((v % 2 : Nat) : Int) := by
  have := u64_and_nat v 1 h (by omega)
  rw [nat_mask1] at this; exact this

theorem getR_lt (l : List Nat) (h : ∀ c ∈ l, c < 256) (at_ : Int) (h1 : at_ ≤ 9223372036854775807) : (getR l at_).1 < 18446744073709551616 ∧ 0 ≤ (getR l at_).2.1 ∧ (getR l at_).2.1 ≤ l.length := by
  have hS : ∀ (D : List Nat) (i v : Nat), (∀ c ∈ D, c < 256) → i ≤ 9 → v < 128 ^ i → (getS D i v).1 < 18446744073709551616 ∧ (getS D i v).2.1 ≤ D.length + i := by
    intro D
    induction D with
    | nil => intro i v _ _ _; simp [getS]
    | cons c r ih =>
      intro i v hD hi hv
      unfold getS
      split
      · simp
      · split
        · simp
        · split
          · have := fits7 c i v hv (by omega)
            rw [Nat.mod_eq_of_lt (by omega)] at this
            simp; omega
          · have hc := hD c (by simp)
            have := grow7 c i v hv
            rw [show c % 128 = c - 128 by omega] at this
            have := ih (i + 1) (v + (c - 128) * 128 ^ i) (fun d hd => hD d (by simp [hd])) (by omega) (by omega)
            simp; omega
  unfold getR
  split
  · simp
  · simp only []
    have hq := hS (l.drop at_.toNat) 0 0 (fun c hc => h c (List.mem_of_mem_drop hc)) (by omega) (by simp)
    rw [List.length_drop] at hq
    split
    · refine ⟨hq.1, ?_, ?_⟩ <;> simp only [] <;> omega
    · simp

theorem getR_err (l : List Nat) (at_ : Int) : (getR l at_).2.2 ≠ 0 → (getR l at_).1 = 0 ∧ (getR l at_).2.1 = 0 := by
  unfold getR
  split
  · simp
  · simp only []
    split
    · simp
    · simp

end Go.Proofs.Ytapbhhehnbfdfaa

/- A region that draws its order, walked in ONE order that is given: operations that yield the same in every later world go first (flag true); each of the others (flag false) is the only one that may come up when its turn comes. -/
set_option linter.unusedSimpArgs false
set_option linter.unusedVariables false
set_option maxRecDepth 100000
namespace Go.Proofs.Ytapbhhehnbfdfaa
open Go.RowKit

section
variable {P : Program} {ops : Array Oper} {Q : Exit → Act → World → Prop} {md : Region.Mode}

/-- A later world: what stood in this one stands there as it was. -/
def Later (w w' : World) : Prop := Below w.heap.size w w'
theorem Later.refl (w : World) : Later w w := Below.refl _ _
theorem Later.trans {a b c : World} (h : Later a b) (k : Later b c) : Later a c := Below.trans h (Below.mono k h.size)

def wpO (P : Program) (ops : Array Oper) (Q : Exit → Act → World → Prop) (L : World → World → Prop) : List (Nat × Bool) → Act → World → Prop
  | [], a, w => Q .normal a w
  | (i, true) :: r, a, w => ∃ o v, ops[i]? = some o ∧ YieldsIf P ops (L w) o v a ∧ wpO P ops Q L r (a.put o.dst v) w
  | (i, false) :: r, a, w => wpOp P ops Q i (fun a' w' => L w w' ∧ wpO P ops Q L r a' w') a w

def checkO (md : Region.Mode) (ops : Array Oper) : List (Nat × Bool) → Array Bool → Bool
  | [], listed => Region.ready md ops listed == []
  | (i, true) :: r, listed => Region.free md ops listed i && (Region.ready md ops listed).contains i && checkO md ops r (listed.setIfInBounds i true)
  | (i, false) :: r, listed => Region.ready md ops listed == [i] && checkO md ops r (listed.setIfInBounds i true)

theorem wpAnyH_stronger {S S' : World → Prop} (hS : ∀ w, S' w → S w) : ∀ (fuel : Nat) (listed : Array Bool) (a : Act) (w : World), wpAnyH P md ops Q S' fuel listed a w → wpAnyH P md ops Q S fuel listed a w
  | 0, _, _, _, h => h
  | fuel + 1, _, _, _, h => ⟨h.1, fun i hi => wpOp_mono (fun _ _ h' => ⟨hS _ h'.1, wpAnyH_stronger hS fuel _ _ _ h'.2⟩) (h.2 i hi)⟩

theorem wpO_sound {L : World → World → Prop} (Lr : ∀ w, L w w) (Lt : ∀ {a b c}, L a b → L b c → L a c) (hs : Region.noSelect ops = true) (hQ : ∀ c (a : Act) d v w, Q (.panic c) (a.put d v) w → Q (.panic c) a w) :
    ∀ (ord : List (Nat × Bool)) (fuel : Nat) (listed : Array Bool) (a : Act) (w : World), ord.length ≤ fuel → checkO md ops ord listed = true → wpO P ops Q L ord a w → wpAnyH P md ops Q (L w) fuel listed a w
  | [], fuel, listed, a, w, _, hc, h => wpAnyH_done (by simpa [checkO] using hc) h fuel
  | (i, true) :: r, fuel, listed, a, w, hf, hc, h => by
    obtain ⟨o, v, ho, hy, h⟩ := h
    simp only [checkO, Bool.and_eq_true] at hc
    cases fuel with
    | zero => simp at hf
    | succ fuel =>
      exact wpAnyH_take ho hs hc.1.1 hc.1.2 (fun c a w => hQ c a o.dst v w) hy (Lr w) (wpO_sound Lr Lt hs hQ r fuel _ _ w (by simpa using hf) hc.2 h)
  | (i, false) :: r, fuel, listed, a, w, hf, hc, h => by
    simp only [checkO, Bool.and_eq_true, beq_iff_eq] at hc
    cases fuel with
    | zero => simp at hf
    | succ fuel =>
      refine wpAnyH_all (rs := [i]) hc.1 (by simp) ?_
      intro j hj
      rw [List.mem_singleton.1 hj]
      exact wpOp_mono (fun a' w' h' => ⟨h'.1, wpAnyH_stronger (fun x hx => Lt h'.1 hx) fuel _ _ _ (wpO_sound Lr Lt hs hQ r fuel _ a' w' (by simpa using hf) hc.2 h'.2)⟩) h

theorem NoPanic.put (Q : Exit → Act → World → Prop) : ∀ c (a : Act) d v w, NoPanic Q (.panic c) (a.put d v) w → NoPanic Q (.panic c) a w := fun _ _ _ _ _ h => h

/-- Number i of a list that is written out. -/
def nth : List Oper → Nat → Option Oper
  | [], _ => none
  | x :: _, 0 => some x
  | _ :: r, n + 1 => nth r n

theorem nth_get : ∀ (l : List Oper) (i : Nat) (o : Oper), nth l i = some o → l[i]? = some o
  | [], _, _, h => by simp [nth] at h
  | x :: r, 0, o, h => by simpa [nth] using h
  | x :: r, n + 1, o, h => by simpa using nth_get r n o h

theorem nth_ops {i : Nat} {o : Oper} (h : nth ops.toList i = some o) : ops[i]? = some o := by
  have := nth_get _ _ _ h
  simpa using this

/-- A later world, but for one block, which the region itself may write. -/
structure LaterB (B : Nat) (w w' : World) : Prop where
  os : w'.os = w.os
  tape : w'.tape = w.tape
  output : w'.output = w.output
  size : w.heap.size ≤ w'.heap.size
  block : ∀ k, k < w.heap.size → k ≠ B → w'.heap[k]? = w.heap[k]?
theorem LaterB.refl (B : Nat) (w : World) : LaterB B w w := ⟨rfl, rfl, rfl, Nat.le_refl _, fun _ _ _ => rfl⟩
theorem LaterB.trans {B : Nat} {a b c : World} (h : LaterB B a b) (k : LaterB B b c) : LaterB B a c :=
  ⟨k.os.trans h.os, k.tape.trans h.tape, k.output.trans h.output, Nat.le_trans h.size k.size, fun i hi hn => (k.block i (Nat.lt_of_lt_of_le hi h.size) hn).trans (h.block i hi hn)⟩
theorem Later.toB {w w' : World} (h : Later w w') (B : Nat) : LaterB B w w' := ⟨h.os, h.tape, h.output, h.size, fun k hk _ => h.block k hk⟩
theorem LaterB.setCell {w : World} {b : Nat} {o : Nat} (v : Value) : LaterB b w (w.setCell ⟨b, o, none⟩ v) :=
  ⟨rfl, rfl, rfl, by simp [World.setCell], fun k _ hn => Below.heap_setCell _ _ _ _ hn⟩
theorem LaterB.cell {B : Nat} {w w' : World} (h : LaterB B w w') {b o : Nat} (hb : b < w.heap.size) (hn : b ≠ B) : w'.cell? ⟨b, o, none⟩ = w.cell? ⟨b, o, none⟩ :=
  World.cell?_of_block (w := w) (a := ⟨b, o, none⟩) (h.block b hb hn)
theorem LaterB.undrew {B : Nat} {w W : World} (h : LaterB B w.drew W) : LaterB B w W := ⟨h.os, h.tape, h.output, h.size, h.block⟩

/-- The beginning. -/
theorem wp_region_ord {id : Nat} {a : Act} {w : World} (ord : List (Nat × Bool)) (hm : P.follows .mixedOrders = true) (hs : Region.noSelect ops = true)
    (hl : decide (ord.length ≤ ops.size) = true) (hc : checkO .any ops ord (Array.replicate ops.size false) = true) (h : wpO P ops (NoPanic Q) Later ord a w.drew) : (Code.region id ops true).wp P Q a w :=
  wp_region_noPanic (wp_region_held hm (wpO_sound Later.refl Later.trans hs (NoPanic.put Q) ord ops.size _ a w.drew (of_decide_eq_true hl) hc h))

/-- The beginning, where the region writes one block. -/
theorem wp_region_ordB {id : Nat} {a : Act} {w : World} (B : Nat) (ord : List (Nat × Bool)) (hm : P.follows .mixedOrders = true) (hs : Region.noSelect ops = true)
    (hl : decide (ord.length ≤ ops.size) = true) (hc : checkO .any ops ord (Array.replicate ops.size false) = true) (h : wpO P ops (NoPanic Q) (LaterB B) ord a w.drew) : (Code.region id ops true).wp P Q a w :=
  wp_region_noPanic (wp_region_held hm (wpO_sound (LaterB.refl B) LaterB.trans hs (NoPanic.put Q) ord ops.size _ a w.drew (of_decide_eq_true hl) hc h))

variable {L : World → World → Prop}
theorem wpO_nil {a : Act} {w : World} (h : Q .normal a w) : wpO P ops (NoPanic Q) L [] a w := h

theorem wpO_F {i : Nat} {r : List (Nat × Bool)} {a : Act} {w : World} {o : Oper} {v : Value} (ho : nth ops.toList i = some o) (hw : Region.wanted o (yielded ops a.tmps) = true)
    (hv : ∀ w', L w w' → (execOp a.eval o).run P w' = .ok (.value v) w') (h : wpO P ops Q L r (a.put o.dst v) w) : wpO P ops Q L ((i, true) :: r) a w :=
  ⟨o, v, nth_ops ho, .inl ⟨hw, hv⟩, h⟩

theorem wpO_G' (Lr : ∀ w, L w w) {i : Nat} {b : Bool} {r : List (Nat × Bool)} {a : Act} {w : World} {o : Oper} (ho : nth ops.toList i = some o) (hw : Region.wanted o (yielded ops a.tmps) = false)
    (h : wpO P ops Q L r (a.put o.dst undef) w) : wpO P ops Q L ((i, b) :: r) a w := by
  cases b with
  | true => exact ⟨o, undef, nth_ops ho, .inr ⟨hw, rfl⟩, h⟩
  | false =>
    show wpOp P ops Q i _ a w
    unfold wpOp
    simp only [nth_ops ho, hw]
    exact ⟨Lr w, h⟩

theorem wpO_G {i : Nat} {b : Bool} {r : List (Nat × Bool)} {a : Act} {w : World} {o : Oper} (ho : nth ops.toList i = some o) (hw : Region.wanted o (yielded ops a.tmps) = false)
    (h : wpO P ops Q Later r (a.put o.dst undef) w) : wpO P ops Q Later ((i, b) :: r) a w := wpO_G' Later.refl ho hw h

theorem wpO_C {i : Nat} {r : List (Nat × Bool)} {a : Act} {w : World} {o : Oper} (ho : nth ops.toList i = some o) (hw : Region.wanted o (yielded ops a.tmps) = true)
    (h : o.wp P a w (fun a' w' => L w w' ∧ wpO P ops Q L r a' w') Q) : wpO P ops Q L ((i, false) :: r) a w := by
  show wpOp P ops Q i _ a w
  unfold wpOp
  simp only [nth_ops ho, hw]
  exact .inl h

end
attribute [irreducible] wpO
end Go.Proofs.Ytapbhhehnbfdfaa

/- The walk of hindsightlaw01.alive. -/
set_option linter.unusedSimpArgs false
set_option linter.unusedVariables false
set_option maxRecDepth 100000
namespace Go.Proofs.Ytapbhhehnbfdfaa
open Go.RowKit

/-- A call that hands back bytes l in memory of its own. -/
def RetB (w : World) (l : List Nat) (e : Ending) (w' : World) : Prop :=
  ∃ a cap, e = .returned (.slice a l.length cap) ∧ l.length ≤ cap ∧ Bs w'.heap.size w' a l ∧ Below w.heap.size w w'

theorem RetB.of {w : World} {l : List Nat} {T : TypeId} {e : Ending} {w' : World} : (∃ r, e = .returned r ∧ OwnB w' w.heap.size T r l ∧ Below w.heap.size w w') → RetB w l e w' := by
  rintro ⟨r, rfl, hown, hb⟩
  obtain ⟨a, cap, rfl, hc, hB, _⟩ := hown.slice
  exact ⟨a, cap, rfl, hc, hB, hb⟩

theorem Bs.str {N : Nat} {w : World} {a : Option Addr} {l : List Nat} (h : Bs N w a l) (n cap : Nat) (hn : n = l.length) :
    (convert 105 9 (.slice a n cap)).run Try.prog w = .ok (.string (strN l)) w :=
  h.conv 105 5 Try.underlying105 Try.underlying5 9 Try.underlying9 n cap hn

theorem Bs.strL {w : World} {a : Option Addr} {l : List Nat} (h : Bs w.heap.size w a l) (n cap : Nat) (hn : n = l.length) :
    ∀ W, Later w W → (convert 105 9 (.slice a n cap)).run Try.prog W = .ok (.string (strN l)) W := fun W hW => (h.below hW).str n cap hn

theorem Bs.new (w : World) (l : List Nat) (hl : ∀ c ∈ l, c < 256) (cs : Array Value) (T : TypeId) (hcs : ∀ (i c : Nat), l[i]? = some c → cs[i]? = some (Value.int .u8 (c : Int))) :
    Bs (w.heap.size + 1) (w.alloc (.cells cs T)) (some ⟨w.heap.size, 0, none⟩) l :=
  ⟨hl, .inr ⟨w.heap.size, 0, rfl, by omega, fun i c hi => by rw [World.cell?_alloc_new, Nat.zero_add]; exact hcs i c hi⟩⟩

theorem e300 : putL 300 = [172, 2] := by rw [putL_step (by omega), putL_small (by omega)]

end Go.Proofs.Ytapbhhehnbfdfaa

/- The walks of the laws VarintSizes and VarintInts. -/
set_option linter.unusedSimpArgs false
set_option linter.unusedVariables false
set_option maxRecDepth 100000
namespace Go.Proofs.Ytapbhhehnbfdfaa
open Go.RowKit

end Go.Proofs.Ytapbhhehnbfdfaa

/- The walk of the law VarintInts. -/
set_option linter.unusedSimpArgs false
set_option linter.unusedVariables false
set_option maxRecDepth 100000
namespace Go.Proofs.Ytapbhhehnbfdfaa
open Go.RowKit

end Go.Proofs.Ytapbhhehnbfdfaa
