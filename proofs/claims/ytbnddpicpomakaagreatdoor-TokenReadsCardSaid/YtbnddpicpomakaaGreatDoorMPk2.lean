/- Several texts of one proof, one behind the other. -/
import Derived.Test.YtbnddpicpomakaaGreatDoorMPk1
import Derived.Deep.RegionHeld3
import Derived.Lib.ConvBytes
import Derived.Lib.OthersKept
import Derived.Lib.RuneCount
import Derived.Lib.Replace
import Derived.Lib.Strings
import Derived.Test.YtbnddpicpomakaaGreatDoorRows
import Derived.Shelf.Utf8.RuneCount
import Derived.Shelf.Strings.Replace
import Derived.Shelf.Strings.SplitShaped
import Derived.Shelf.Strings.Prefix
import Derived.Shelf.Strconv.Itoa4
import Derived.Shelf.Strconv.ErrVarParseInt
import Derived.Lib.LaidTab
import Derived.Deep.Slices
import Derived.Deep.Fields
set_option linter.unusedSimpArgs false
set_option linter.unusedVariables false

/- The walks of layer 1's functions: what each call of varint and of hindsightref01 returns. -/
set_option linter.unusedSimpArgs false
set_option linter.unusedVariables false
set_option maxRecDepth 100000
namespace Go.Proofs.YtbnddpicpomakaaGreatDoor
open Go.RowKit

theorem Tryz.info5 : (Tryz.prog.info? 5).map (fun i => (i.zero, i.size, i.bytes)) = some (some (.int .u8 0), 1, 1) := by kernel_rfl

end Go.Proofs.YtbnddpicpomakaaGreatDoor

/- A region that draws its order, walked in ONE order that is given: operations that yield the same in every later world go first (flag true); each of the others (flag false) is the only one that may come up when its turn comes. -/
set_option linter.unusedSimpArgs false
set_option linter.unusedVariables false
set_option maxRecDepth 100000
namespace Go.Proofs.YtbnddpicpomakaaGreatDoor
open Go.RowKit

section
variable {P : Program} {ops : Array Oper} {Q : Exit → Act → World → Prop} {md : Region.Mode}

/-- A later world: what stood in this one stands there as it was. -/
def Later (w w' : World) : Prop := Below w.heap.size w w'
theorem Later.refl (w : World) : Later w w := Below.refl _ _
theorem Later.trans {a b c : World} (h : Later a b) (k : Later b c) : Later a c := Below.trans h (Below.mono k h.size)

def wpO (P : Program) (ops : Array Oper) (Q : Exit → Act → World → Prop) (L : World → World → Prop) : List (Nat × Bool) → Act → World → Prop
  | [], a, w => Q .normal a w
  | (i, true) :: r, a, w => ∃ o v, ops[i]? = some o ∧ YieldsIf P ops (L w) o v a ∧ wpO P ops Q L r (a.put o.dst v) w
  | (i, false) :: r, a, w => wpOp P ops Q i (fun a' w' => L w w' ∧ wpO P ops Q L r a' w') a w

def checkO (md : Region.Mode) (ops : Array Oper) : List (Nat × Bool) → Array Bool → Bool
  | [], listed => Region.ready md ops listed == []
  | (i, true) :: r, listed => Region.free md ops listed i && (Region.ready md ops listed).contains i && checkO md ops r (listed.setIfInBounds i true)
  | (i, false) :: r, listed => Region.ready md ops listed == [i] && checkO md ops r (listed.setIfInBounds i true)

theorem wpAnyH_stronger {S S' : World → Prop} (hS : ∀ w, S' w → S w) : ∀ (fuel : Nat) (listed : Array Bool) (a : Act) (w : World), wpAnyH P md ops Q S' fuel listed a w → wpAnyH P md ops Q S fuel listed a w
  | 0, _, _, _, h => h
  | fuel + 1, _, _, _, h => ⟨h.1, fun i hi => wpOp_mono (fun _ _ h' => ⟨hS _ h'.1, wpAnyH_stronger hS fuel _ _ _ h'.2⟩) (h.2 i hi)⟩

theorem wpO_sound {L : World → World → Prop} (Lr : ∀ w, L w w) (Lt : ∀ {a b c}, L a b → L b c → L a c) (hs : Region.noSelect ops = true) (hQ : ∀ c (a : Act) d v w, Q (.panic c) (a.put d v) w → Q (.panic c) a w) :
    ∀ (ord : List (Nat × Bool)) (fuel : Nat) (listed : Array Bool) (a : Act) (w : World), ord.length ≤ fuel → checkO md ops ord listed = true → wpO P ops Q L ord a w → wpAnyH P md ops Q (L w) fuel listed a w
  | [], fuel, listed, a, w, _, hc, h => wpAnyH_done (by simpa [checkO] using hc) h fuel
  | (i, true) :: r, fuel, listed, a, w, hf, hc, h => by
    obtain ⟨o, v, ho, hy, h⟩ := h
    simp only [checkO, Bool.and_eq_true] at hc
    cases fuel with
    | zero => simp at hf
    | succ fuel =>
      exact wpAnyH_take ho hs hc.1.1 hc.1.2 (fun c a w => hQ c a o.dst v w) hy (Lr w) (wpO_sound Lr Lt hs hQ r fuel _ _ w (by simpa using hf) hc.2 h)
  | (i, false) :: r, fuel, listed, a, w, hf, hc, h => by
    simp only [checkO, Bool.and_eq_true, beq_iff_eq] at hc
    cases fuel with
    | zero => simp at hf
    | succ fuel =>
      refine wpAnyH_all (rs := [i]) hc.1 (by simp) ?_
      intro j hj
      rw [List.mem_singleton.1 hj]
      exact wpOp_mono (fun a' w' h' => ⟨h'.1, wpAnyH_stronger (fun x hx => Lt h'.1 hx) fuel _ _ _ (wpO_sound Lr Lt hs hQ r fuel _ a' w' (by simpa using hf) hc.2 h'.2)⟩) h

theorem NoPanic.put (Q : Exit → Act → World → Prop) : ∀ c (a : Act) d v w, NoPanic Q (.panic c) (a.put d v) w → NoPanic Q (.panic c) a w := fun _ _ _ _ _ h => h

/-- Number i of a list that is written out. -/
def nth : List Oper → Nat → Option Oper
  | [], _ => none
  | x :: _, 0 => some x
  | _ :: r, n + 1 => nth r n

theorem nth_get : ∀ (l : List Oper) (i : Nat) (o : Oper), nth l i = some o → l[i]? = some o
  | [], _, _, h => by simp [nth] at h
  | x :: r, 0, o, h => by simpa [nth] using h
  | x :: r, n + 1, o, h => by simpa using nth_get r n o h

theorem nth_ops {i : Nat} {o : Oper} (h : nth ops.toList i = some o) : ops[i]? = some o := by
  have := nth_get _ _ _ h
  simpa using this

/-- A later world, but for one block, which the region itself may write. -/
structure LaterB (B : Nat) (w w' : World) : Prop where
  os : w'.os = w.os
  tape : w'.tape = w.tape
  output : w'.output = w.output
  size : w.heap.size ≤ w'.heap.size
  block : ∀ k, k < w.heap.size → k ≠ B → w'.heap[k]? = w.heap[k]?
theorem LaterB.refl (B : Nat) (w : World) : LaterB B w w := ⟨rfl, rfl, rfl, Nat.le_refl _, fun _ _ _ => rfl⟩
theorem LaterB.trans {B : Nat} {a b c : World} (h : LaterB B a b) (k : LaterB B b c) : LaterB B a c :=
  ⟨k.os.trans h.os, k.tape.trans h.tape, k.output.trans h.output, Nat.le_trans h.size k.size, fun i hi hn => (k.block i (Nat.lt_of_lt_of_le hi h.size) hn).trans (h.block i hi hn)⟩
theorem Later.toB {w w' : World} (h : Later w w') (B : Nat) : LaterB B w w' := ⟨h.os, h.tape, h.output, h.size, fun k hk _ => h.block k hk⟩
theorem LaterB.setCell {w : World} {b : Nat} {o : Nat} (v : Value) : LaterB b w (w.setCell ⟨b, o, none⟩ v) :=
  ⟨rfl, rfl, rfl, by simp [World.setCell], fun k _ hn => Below.heap_setCell _ _ _ _ hn⟩
theorem LaterB.cell {B : Nat} {w w' : World} (h : LaterB B w w') {b o : Nat} (hb : b < w.heap.size) (hn : b ≠ B) : w'.cell? ⟨b, o, none⟩ = w.cell? ⟨b, o, none⟩ :=
  World.cell?_of_block (w := w) (a := ⟨b, o, none⟩) (h.block b hb hn)
theorem LaterB.undrew {B : Nat} {w W : World} (h : LaterB B w.drew W) : LaterB B w W := ⟨h.os, h.tape, h.output, h.size, h.block⟩

/-- The beginning. -/
theorem wp_region_ord {id : Nat} {a : Act} {w : World} (ord : List (Nat × Bool)) (hm : P.follows .mixedOrders = true) (hs : Region.noSelect ops = true)
    (hl : decide (ord.length ≤ ops.size) = true) (hc : checkO .any ops ord (Array.replicate ops.size false) = true) (h : wpO P ops (NoPanic Q) Later ord a w.drew) : (Code.region id ops true).wp P Q a w :=
  wp_region_noPanic (wp_region_held hm (wpO_sound Later.refl Later.trans hs (NoPanic.put Q) ord ops.size _ a w.drew (of_decide_eq_true hl) hc h))

/-- The beginning, where the region writes one block. -/
theorem wp_region_ordB {id : Nat} {a : Act} {w : World} (B : Nat) (ord : List (Nat × Bool)) (hm : P.follows .mixedOrders = true) (hs : Region.noSelect ops = true)
    (hl : decide (ord.length ≤ ops.size) = true) (hc : checkO .any ops ord (Array.replicate ops.size false) = true) (h : wpO P ops (NoPanic Q) (LaterB B) ord a w.drew) : (Code.region id ops true).wp P Q a w :=
  wp_region_noPanic (wp_region_held hm (wpO_sound (LaterB.refl B) LaterB.trans hs (NoPanic.put Q) ord ops.size _ a w.drew (of_decide_eq_true hl) hc h))

variable {L : World → World → Prop}
theorem wpO_nil {a : Act} {w : World} (h : Q .normal a w) : wpO P ops (NoPanic Q) L [] a w := h

theorem wpO_F {i : Nat} {r : List (Nat × Bool)} {a : Act} {w : World} {o : Oper} {v : Value} (ho : nth ops.toList i = some o) (hw : Region.wanted o (yielded ops a.tmps) = true)
    (hv : ∀ w', L w w' → (execOp a.eval o).run P w' = .ok (.value v) w') (h : wpO P ops Q L r (a.put o.dst v) w) : wpO P ops Q L ((i, true) :: r) a w :=
  ⟨o, v, nth_ops ho, .inl ⟨hw, hv⟩, h⟩

theorem wpO_G' (Lr : ∀ w, L w w) {i : Nat} {b : Bool} {r : List (Nat × Bool)} {a : Act} {w : World} {o : Oper} (ho : nth ops.toList i = some o) (hw : Region.wanted o (yielded ops a.tmps) = false)
    (h : wpO P ops Q L r (a.put o.dst undef) w) : wpO P ops Q L ((i, b) :: r) a w := by
  cases b with
  | true => exact ⟨o, undef, nth_ops ho, .inr ⟨hw, rfl⟩, h⟩
  | false =>
    show wpOp P ops Q i _ a w
    unfold wpOp
    simp only [nth_ops ho, hw]
    exact ⟨Lr w, h⟩

theorem wpO_G {i : Nat} {b : Bool} {r : List (Nat × Bool)} {a : Act} {w : World} {o : Oper} (ho : nth ops.toList i = some o) (hw : Region.wanted o (yielded ops a.tmps) = false)
    (h : wpO P ops Q Later r (a.put o.dst undef) w) : wpO P ops Q Later ((i, b) :: r) a w := wpO_G' Later.refl ho hw h

theorem wpO_C {i : Nat} {r : List (Nat × Bool)} {a : Act} {w : World} {o : Oper} (ho : nth ops.toList i = some o) (hw : Region.wanted o (yielded ops a.tmps) = true)
    (h : o.wp P a w (fun a' w' => L w w' ∧ wpO P ops Q L r a' w') Q) : wpO P ops Q L ((i, false) :: r) a w := by
  show wpOp P ops Q i _ a w
  unfold wpOp
  simp only [nth_ops ho, hw]
  exact .inl h

end
attribute [irreducible] wpO
end Go.Proofs.YtbnddpicpomakaaGreatDoor

/- The walks of runes.isName, Fold, Name and of the reference's. -/
set_option linter.unusedSimpArgs false
set_option linter.unusedVariables false
set_option maxRecDepth 100000
namespace Go.Proofs.YtbnddpicpomakaaGreatDoor
set_option linter.unusedSimpArgs false
open Go.RowKit

def byteN (s : ByteArray) (i : Nat) : Nat := (bytesU s).getD i 0

theorem byteN_at (s : ByteArray) (i : Nat) (h : i < s.size) : byteN s i = (s[i]'h).toNat := by
  unfold byteN
  rw [List.getD_eq_getElem?_getD, List.getElem?_eq_getElem (by rw [bytesU_len]; exact h)]
  simp [bytesU]; rfl

/-- May the byte stand at this place of a name? -/
def okN (i c : Nat) : Bool := classZ (c : Int) == 2 || (classZ (c : Int) == 3 && i != 0)
def nameB (s : ByteArray) : Bool := decide (0 < s.size) && (List.range s.size).all fun i => okN i (byteN s i)

theorem nameB_true {s : ByteArray} : nameB s = true ↔ 0 < s.size ∧ ∀ i, i < s.size → okN i (byteN s i) = true := by
  unfold nameB
  rw [Bool.and_eq_true, decide_eq_true_iff, List.all_eq_true]
  simp

theorem nameB_false {s : ByteArray} {i : Nat} (h : i < s.size) (hb : okN i (byteN s i) = false) : nameB s = false := by
  rw [Bool.eq_false_iff]
  intro hn
  have := (nameB_true.1 hn).2 i h
  rw [hb] at this; cases this

theorem class_high {c : Int} (h : 127 ≤ c) : classZ c = 0 := class_of c 0 (by omega)

set_option maxHeartbeats 2000000 in
theorem isName_any (s : ByteArray) (w : World) (hs : s.size ≤ 1000000) :
    Calls Tryz.prog 112 #[.string s] w fun e w' => e = .returned (.bool (nameB s)) ∧ Below w.heap.size w w' := by
  go_enter Tryz.func112, Tryz.ntmps112
  go_wp2
  go_loopw [] (fun wr => ∃ pos : Nat, wr = w.iter s pos ∧ pos ≤ s.size ∧ Hid (∀ i, i < pos → okN i (byteN s i) = true)) (fun wr => s.size - wr.iterPos w.heap.size)
  case atStart => exact ⟨0, rfl, by omega, by simp [Hid]⟩
  case round =>
    obtain ⟨pos, rfl, hpos, HI⟩ := hrel
    have HBE : Hid (∀ q, Below w.heap.size w (w.iter s q)) := fun q => (Below.refl _ w).alloc (Nat.le_refl _) _
    by_cases hp : pos < s.size
    · have hnx : ∀ ty, (Instr.next (.pointer (some ⟨w.heap.size, 0, none⟩)) true ty).run Tryz.prog (w.iter s pos) = _ := fun ty => run_next_any w s pos ty hp
      have hB := byteN_at s pos hp
      have hb256 := (s[pos]'hp).toNat_lt
      by_cases hasc : (s[pos]'hp).toNat < 128
      · have hdec := decode_ascii s pos hp hasc
        simp only [hdec] at hnx
        obtain ⟨c, hc⟩ : ∃ c, (s[pos]'hp).toNat = c := ⟨_, rfl⟩
        rw [hc] at hnx hB hasc
        have HB := Lib.hid hB
        have HCl := Lib.hid (fun W => Class_any (c : Int) W)
        obtain ⟨k, hk⟩ : ∃ k, classZ (c : Int) = k := ⟨_, rfl⟩
        rw [hk] at HCl
        have hok : okN pos c = (k == 2 || (k == 3 && pos != 0)) := by unfold okN; rw [hk]
        have HOk := Lib.hid hok
        clear hdec hB hb256 hc hk hok
        go_wp2_with fail
        refine (HCl.out _).mono ?_
        rintro e w1 ⟨rfl, rfl⟩
        clear HCl
        by_cases hgo : k = 2 ∨ (k = 3 ∧ pos ≠ 0)
        · have HI2 : Hid (∀ i, i < pos + 1 → okN i (byteN s i) = true) := by
            intro i hi
            by_cases h : i = pos
            · subst h
              rw [HB.out, HOk.out]
              rcases hgo with h | ⟨h, h'⟩ <;> simp [h]
              exact h'
            · exact HI.out i (by omega)
          clear HI HOk HB
          by_cases h2 : k = 2
          · subst h2
            clear hgo
            go_wp2
            go_roundw
            case rel => exact ⟨pos + 1, rfl, by omega, HI2⟩
            case measure => simp; omega
          · obtain ⟨rfl, h0⟩ : k = 3 ∧ pos ≠ 0 := by
              rcases hgo with h | h
              · exact absurd h h2
              · exact h
            have q0 : ((pos : Int) == 0) = false := by simp; omega
            clear hgo h2
            go_wp2
            go_roundw
            case rel => exact ⟨pos + 1, rfl, by omega, HI2⟩
            case measure => simp; omega
        · have HN : Hid (nameB s = false) := nameB_false hp (by
            rw [HB.out, HOk.out]
            rw [Bool.eq_false_iff]
            intro h
            simp only [Bool.or_eq_true, Bool.and_eq_true, beq_iff_eq, bne_iff_ne, ne_eq] at h
            exact hgo h)
          have hways : (k ≠ 2 ∧ k ≠ 3) ∨ (k = 3 ∧ pos = 0) := by omega
          clear HI HOk HB hgo
          rcases hways with ⟨h2, h3⟩ | ⟨rfl, rfl⟩
          · have q2 : (k != 2) = true := by simp [h2]
            have q3 : (k != 3) = true := by simp [h3]
            go_wp2
            go_ret
            exact ⟨by rw [HN.out]; rfl, HBE.out _⟩
          · go_wp2
            go_ret
            exact ⟨by rw [HN.out]; rfl, HBE.out _⟩
      · have hhi := decode_high s pos hp (by omega)
        have HN : Hid (nameB s = false) := nameB_false hp (by
          rw [hB]
          unfold okN
          rw [class_high (by omega)]; rfl)
        obtain ⟨r, hr⟩ : ∃ r, (Utf8.decode s pos).1 = r := ⟨_, rfl⟩
        obtain ⟨z, hz⟩ : ∃ z, (Utf8.decode s pos).2 = z := ⟨_, rfl⟩
        rw [hr, hz] at hnx
        rw [hr] at hhi
        have HCl := Lib.hid (fun W => Class_any (r : Int) W)
        rw [class_high (by omega)] at HCl
        clear hB hb256 hr hz HI hasc hhi
        go_wp2_with fail
        refine (HCl.out _).mono ?_
        rintro e w1 ⟨rfl, rfl⟩
        clear HCl
        go_wp2
        go_ret
        exact ⟨by rw [HN.out]; rfl, HBE.out _⟩
    · have hnx : ∀ ty, (Instr.next (.pointer (some ⟨w.heap.size, 0, none⟩)) true ty).run Tryz.prog (w.iter s pos) = _ := fun ty => run_next_end w s pos ty hp
      by_cases h0 : s.size = 0
      · have HN : Hid (nameB s = false) := by unfold nameB; simp [h0, Hid]
        have he : s.toList = [] := by rw [ByteArray.toList_eq, Array.size_eq_zero_iff.1 (show s.data.size = 0 from h0)]
        clear HI h0
        go_wp2
        go_ret
        exact ⟨by rw [HN.out]; rfl, HBE.out _⟩
      · have HN : Hid (nameB s = true) := nameB_true.2 ⟨by omega, fun i hi => HI.out i (by omega)⟩
        have he : (s.toList == []) = false := by
          rw [ByteArray.toList_eq]
          rw [Bool.eq_false_iff]
          intro h
          rw [beq_iff_eq] at h
          apply h0
          have := congrArg List.length h
          simpa using this
        have he2 : ¬ s.toList = [] := by simpa using he
        have he3 : (!s.toList.isEmpty) = true := by simpa using he2
        clear HI h0
        go_wp2
        go_ret
        exact ⟨by rw [HN.out]; rfl, HBE.out _⟩
end Go.Proofs.YtbnddpicpomakaaGreatDoor

/- The walks of runes.Fold, runes.Name and of the reference's. -/
set_option linter.unusedSimpArgs false
set_option linter.unusedVariables false
set_option maxRecDepth 100000
namespace Go.Proofs.YtbnddpicpomakaaGreatDoor
set_option linter.unusedSimpArgs false
open Go.RowKit

def foldC (c : Nat) : Nat := if 65 ≤ c ∧ c ≤ 90 then c + 32 else c
def foldS (s : ByteArray) : ByteArray := strN ((bytesU s).map foldC)

theorem foldC_lt {c : Nat} (h : c < 256) : foldC c < 256 := by unfold foldC; split <;> omega

theorem conv_bytesU (s : ByteArray) (w : World) : ∃ W1 cap, (convert 9 99 (.string s)).run Tryz.prog w = .ok (.slice (some ⟨w.heap.size, 0, none⟩) s.size cap) W1 ∧ Below w.heap.size w W1 ∧ W1.heap.size = w.heap.size + 1 ∧
    ∀ (j : Nat), j < s.size → W1.cell? ⟨w.heap.size, j, none⟩ = some (.int .u8 (byteN s j : Int)) ∧ W1.frozen? ⟨w.heap.size, j, none⟩ = false := by
  refine ⟨_, _, Lib.run_convert_string_bytes w 9 99 5 s Tryz.underlying9 Tryz.underlying99 Tryz.underlying5, ⟨rfl, rfl, rfl, ?_, fun k hk => Lib.bytesWorld_at_old w _ s k hk⟩, Lib.bytesWorld_size w _ s, ?_⟩
  · rw [Lib.bytesWorld_size]; omega
  · intro j hj
    refine ⟨?_, ?_⟩
    · rw [Lib.bytesWorld_cell w _ s j hj]
      have : byteN s j = (s.data.toList.getD j 0).toNat := by
        unfold byteN bytesU
        rw [getD_map]
      rw [this]
    · unfold World.frozen?
      simp only [Lib.bytesWorld_at_new]
      have : j < (Lib.bytesCells w 5 s).size := by
        simp only [Lib.bytesCells, Array.size_append]
        simp
        have : s.data.size = s.size := rfl
        omega
      simp
      omega

/-- The row in block G while the first k bytes are folded. -/
def FoldAt (w : World) (G n k : Nat) (s : ByteArray) : Prop := ∀ j, j < n → w.cell? ⟨G, j, none⟩ = some (.int .u8 ((if j < k then foldC (byteN s j) else byteN s j : Nat) : Int)) ∧ w.frozen? ⟨G, j, none⟩ = false

theorem FoldAt.keep {w : World} {G n k : Nat} {s : ByteArray} (h : FoldAt w G n k s) (hf : foldC (byteN s k) = byteN s k) : FoldAt w G n (k + 1) s := by
  intro j hj
  refine ⟨?_, (h j hj).2⟩
  rw [(h j hj).1]
  by_cases h1 : j < k
  · rw [if_pos h1, if_pos (by omega)]
  · by_cases h2 : j = k
    · subst h2; rw [if_neg (by omega), if_pos (by omega), hf]
    · rw [if_neg h1, if_neg (by omega)]

theorem FoldAt.set {w : World} {G n k : Nat} {s : ByteArray} (h : FoldAt w G n k s) (hk : k < n) (v : Int) (hv : v = (foldC (byteN s k) : Int)) : FoldAt (w.setCell ⟨G, k, none⟩ (.int .u8 v)) G n (k + 1) s := by
  subst hv
  intro j hj
  refine ⟨?_, by rw [World.frozen?_setCell]; exact (h j hj).2⟩
  by_cases h2 : j = k
  · subst h2
    rw [World.cell?_setCell_same _ _ _ (h j hj).1, if_pos (by omega)]
  · rw [World.cell?_setCell_other _ _ _ _ (by simp [Ne.symm h2]), (h j hj).1]
    by_cases h1 : j < k
    · rw [if_pos h1, if_pos (by omega)]
    · rw [if_neg h1, if_neg (by omega)]

theorem FoldAt.bs {w : World} {G n : Nat} {s : ByteArray} (h : FoldAt w G n n s) (hn : n = s.size) (hG : G < w.heap.size) : Bs w.heap.size w (some ⟨G, 0, none⟩) ((bytesU s).map foldC) := by
  refine ⟨?_, .inr ⟨G, 0, rfl, hG, fun i c hi => ?_⟩⟩
  · intro c hc
    obtain ⟨d, hd, rfl⟩ := List.mem_map.1 hc
    exact foldC_lt (bytesU_lt s d hd)
  · rw [List.getElem?_map] at hi
    have hil : i < (bytesU s).length := by
      by_cases hil : i < (bytesU s).length
      · exact hil
      · rw [List.getElem?_eq_none (by omega)] at hi; simp at hi
    rw [List.getElem?_eq_getElem hil] at hi
    simp only [Option.map_some, Option.some.injEq] at hi
    rw [bytesU_len] at hil
    rw [Nat.zero_add, (h i (by omega)).1, if_pos (by omega), ← hi]
    have : byteN s i = (bytesU s)[i]'(by rw [bytesU_len]; exact hil) := by
      unfold byteN
      rw [List.getD_eq_getElem?_getD, List.getElem?_eq_getElem (by rw [bytesU_len]; exact hil)]; rfl
    rw [this]

set_option maxHeartbeats 2000000 in
theorem Fold_any (s : ByteArray) (w : World) (hs : s.size ≤ 1000000) :
    Calls Tryz.prog 113 #[.string s] w fun e w' => e = .returned (.string (foldS s)) ∧ Below w.heap.size w w' := by
  obtain ⟨W1, cap, hcv, hb1, hsz1, hcell⟩ := conv_bytesU s w
  have hF : FoldAt W1 w.heap.size s.size 0 s := fun j hj => by
    obtain ⟨h1, h2⟩ := hcell j hj
    exact ⟨by rw [h1, if_neg (by omega)], h2⟩
  have HF0 := Lib.hid hF
  have hz1 : w.heap.size < W1.heap.size := by omega
  obtain ⟨n, hn⟩ : ∃ n, n = s.size := ⟨_, rfl⟩
  have HN := Lib.hid hn
  rw [← hn] at hcv HF0
  have hn1 : n ≤ 1000000 := by omega
  clear hcell hF hsz1 hn
  go_enter Tryz.func113, Tryz.ntmps113
  go_wp2
  clear hcv
  go_loopw [10] (fun i wr => ∃ k : Nat, k ≤ n ∧ i = .int .i64 k ∧ Hid (FoldAt wr w.heap.size n k s) ∧ LaterB w.heap.size W1 wr) (fun i _ => n - (intOf i).toNat)
  case atStart => exact ⟨0, by omega, rfl, HF0.out, LaterB.refl _ _⟩
  case round =>
    obtain ⟨k, hk, rfl, HF, hlb⟩ := hrel
    have hbw : Below w.heap.size w wr := hb1.trans ⟨hlb.os, hlb.tape, hlb.output, hlb.size, fun j hj => hlb.block j (by omega) (by omega)⟩
    by_cases hlt : k < n
    · obtain ⟨hc, hfz⟩ := HF.out k hlt
      rw [if_neg (by omega)] at hc
      have hb256 : byteN s k < 256 := by unfold byteN; exact getD_lt _ (bytesU_lt s) k
      have HK := Lib.hid (fun h => HF.out.keep h)
      have HS := Lib.hid (fun v h => HF.out.set hlt v h)
      obtain ⟨c, hcc⟩ : ∃ c, byteN s k = c := ⟨_, rfl⟩
      rw [hcc] at hc hb256 HK HS
      clear hcc HF
      by_cases hcap : 65 ≤ c ∧ c ≤ 90
      · obtain ⟨h1, h2⟩ := hcap
        have q1 : decide ((65 : Int) ≤ (c : Int)) = true := by simp; omega
        have q2 : decide ((c : Int) ≤ 90) = true := by simp; omega
        have hfc : foldC c = c + 32 := by unfold foldC; rw [if_pos ⟨h1, h2⟩]
        have HFC := Lib.hid hfc
        clear hfc
        go_wp2
        go_roundw
        case rel => exact ⟨k + 1, by omega, by go_num, HS.out _ (by rw [HFC.out]; omega), hlb.trans (LaterB.setCell _)⟩
        case measure => simp [intOf]; omega
      · have hfc : foldC c = c := by unfold foldC; rw [if_neg hcap]
        have HK2 := Lib.hid (HK.out hfc)
        clear hfc HK HS
        by_cases h1 : 65 ≤ c
        · have q1 : decide ((65 : Int) ≤ (c : Int)) = true := by simp; omega
          have q2 : decide ((c : Int) ≤ 90) = false := by simp; omega
          go_wp2
          go_roundw
          case rel => exact ⟨k + 1, by omega, by go_num, HK2.out, hlb⟩
          case measure => simp [intOf]; omega
        · have q1 : decide ((65 : Int) ≤ (c : Int)) = false := by simp; omega
          go_wp2
          go_roundw
          case rel => exact ⟨k + 1, by omega, by go_num, HK2.out, hlb⟩
          case measure => simp [intOf]; omega
    · obtain rfl : k = n := by omega
      have hB := HF.out.bs HN.out (by have := hlb.size; omega)
      have hcv := hB.conv (P := Tryz.prog) 99 5 Tryz.underlying99 Tryz.underlying5 9 Tryz.underlying9 k cap (by rw [List.length_map, bytesU_len]; exact HN.out)
      have HFS : Hid (strN ((bytesU s).map foldC) = foldS s) := rfl
      rw [HFS.out] at hcv
      clear hB HF HF0
      go_wp2
      go_ret
      exact ⟨rfl, hbw⟩

theorem map_takeF (l : List Nat) (k : Nat) (hk : k < l.length) : (l.take (k + 1)).map foldC = (l.take k).map foldC ++ [foldC l[k]] := by
  rw [List.take_add_one, List.getElem?_eq_getElem hk, List.map_append]; rfl

set_option maxRecDepth 1000000 in
set_option maxHeartbeats 4000000 in
theorem rFold_any (s : ByteArray) (w : World) (hs : s.size ≤ 1000000) :
    Calls Tryz.prog 118 #[.string s] w fun e w' => e = .returned (.string (foldS s)) ∧ Below w.heap.size w w' := by
  obtain ⟨i0, hi, hz0, hz1, hz2⟩ := info_parts Tryz.info5
  go_enter Tryz.func118, Tryz.ntmps118
  go_wp2
  go_loopw [3, 4] (fun v i wr => ∃ k : Nat, k ≤ s.size ∧ i = .int .i64 k ∧ OwnB wr w.heap.size 5 v (((bytesU s).take k).map foldC) ∧ Below w.heap.size w wr) (fun _ i _ => s.size - (intOf i).toNat)
  case atStart => exact ⟨0, by omega, rfl, OwnB.nil _ _ _, Below.refl _ _⟩
  case round =>
    obtain ⟨k, hk, rfl, hown, hb⟩ := hrel
    have hsz := hb.size
    by_cases hlt : k < s.size
    · have hkl : k < (bytesU s).length := by rw [bytesU_len]; exact hlt
      have hx : (bytesU s)[k] = (s[k]'hlt).toNat := by simp [bytesU]; rfl
      have hm := map_takeF (bytesU s) k hkl
      rw [hx] at hm
      have HM := Lib.hid hm
      have hc256 := (s[k]'hlt).toNat_lt
      have hll : (((bytesU s).take k).map foldC).length < 100000000000000 := by
        have := List.length_take_le k (bytesU s)
        rw [List.length_map]; omega
      clear hx hm
      by_cases hcap : 65 ≤ (s[k]'hlt).toNat ∧ (s[k]'hlt).toNat ≤ 90
      · obtain ⟨h1, h2⟩ := hcap
        have hfc : foldC (s[k]'hlt).toNat = (s[k]'hlt).toNat + 32 := by unfold foldC; rw [if_pos ⟨h1, h2⟩]
        have HFC := Lib.hid hfc
        clear hfc
        go_wp2_with (at_builtin; refine wpList_app1 rfl _ _ 99 rfl w.heap.size 5 i0 Tryz.underlying99 hi hz0 hz1 hz2 _ _ wr hown rfl ((s[k]'hlt).toNat + 32) (by omega) _ (by push_cast; first | rfl | omega) rfl hll hsz ?_; intro v' w1 hown' hb' hsz')
        go_roundw
        case rel => exact ⟨k + 1, by omega, by go_num, by rw [HM.out, HFC.out]; exact hown', hb.trans hb'⟩
        case measure => simp [intOf]; omega
      · have hfc : foldC (s[k]'hlt).toNat = (s[k]'hlt).toNat := by unfold foldC; rw [if_neg hcap]
        have HFC := Lib.hid hfc
        have hways : (s[k]'hlt).toNat < 65 ∨ (65 ≤ (s[k]'hlt).toNat ∧ 90 < (s[k]'hlt).toNat) := by omega
        clear hfc hcap
        rcases hways with h1 | ⟨h1, h2⟩
        all_goals
          go_wp2_with (at_builtin; refine wpList_app1 rfl _ _ 99 rfl w.heap.size 5 i0 Tryz.underlying99 hi hz0 hz1 hz2 _ _ wr hown rfl (s[k]'hlt).toNat (by omega) _ rfl rfl hll hsz ?_; intro v' w1 hown' hb' hsz')
          go_roundw
          case rel => exact ⟨k + 1, by omega, by go_num, by rw [HM.out, HFC.out]; exact hown', hb.trans hb'⟩
          case measure => simp [intOf]; omega
    · have hall : (bytesU s).take k = bytesU s := List.take_of_length_le (by rw [bytesU_len]; omega)
      rw [hall] at hown
      obtain ⟨a, cap, rfl, hcap, hB, _⟩ := hown.slice
      have hcv := hB.conv (P := Tryz.prog) 99 5 Tryz.underlying99 Tryz.underlying5 9 Tryz.underlying9 _ cap rfl
      have HFS : Hid (strN ((bytesU s).map foldC) = foldS s) := rfl
      rw [HFS.out] at hcv
      obtain ⟨n, hn⟩ : ∃ n, ((bytesU s).map foldC).length = n := ⟨_, rfl⟩
      rw [hn] at hcv ⊢
      clear hB hown hall hn
      go_wp2
      go_ret
      exact ⟨rfl, hb⟩

/-- What Name answers. -/
def nameV (s : ByteArray) : ByteArray × Int := if 20 < s.size then (⟨#[]⟩, 2) else if nameB s = false then (⟨#[]⟩, 3) else (foldS s, 0)

set_option maxHeartbeats 1000000 in
theorem Name_any (s : ByteArray) (w : World) (hs : s.size ≤ 140737488351232) :
    Calls Tryz.prog 95 #[.string s] w fun e w' => e = .returned (.tuple #[.string (nameV s).1, .int .i64 (nameV s).2]) ∧ Below w.heap.size w w' := by
  by_cases hl : 20 < s.size
  · have HN : Hid (nameV s = (⟨#[]⟩, 2)) := by unfold nameV; rw [if_pos hl]; rfl
    go_enter Tryz.func95, Tryz.ntmps95
    go_wp2
    go_ret2
    exact ⟨by rw [HN.out]; rfl, Below.refl _ _⟩
  · have ql : decide ((20 : Int) < (s.size : Int)) = false := by simp; omega
    have HI := Lib.hid (fun W => isName_any s W (by omega))
    have HF := Lib.hid (fun W => Fold_any s W (by omega))
    have hN : nameV s = if nameB s = false then (⟨#[]⟩, 3) else (foldS s, 0) := by unfold nameV; rw [if_neg hl]
    obtain ⟨b, hb⟩ : ∃ b, nameB s = b := ⟨_, rfl⟩
    rw [hb] at HI hN
    obtain ⟨f, hf⟩ : ∃ f, foldS s = f := ⟨_, rfl⟩
    rw [hf] at HF hN
    have HN := Lib.hid hN
    clear hN hb hf hl
    go_enter Tryz.func95, Tryz.ntmps95
    go_wp2_with fail
    refine (HI.out _).mono ?_
    rintro e w1 ⟨rfl, b1⟩
    cases b with
    | false =>
      have HN2 : Hid (nameV s = (⟨#[]⟩, 3)) := by rw [HN.out]; rfl
      clear HN
      go_wp2
      go_ret2
      exact ⟨by rw [HN2.out]; rfl, b1⟩
    | true =>
      have HN2 : Hid (nameV s = (f, 0)) := by rw [HN.out]; rfl
      clear HN
      go_wp2_with fail
      refine (HF.out _).mono ?_
      rintro e w2 ⟨rfl, b2⟩
      go_wp2
      go_ret2
      exact ⟨by rw [HN2.out]; rfl, b1.trans (b2.mono b1.size)⟩
end Go.Proofs.YtbnddpicpomakaaGreatDoor

/- Quoted texts: plain mathematics. -/
set_option linter.unusedSimpArgs false
set_option linter.unusedVariables false
set_option maxRecDepth 100000
namespace Go.Proofs.YtbnddpicpomakaaGreatDoor
set_option linter.unusedSimpArgs false
open Go

def dblL : List UInt8 → List UInt8
  | [] => []
  | c :: l => if c = 39 then 39 :: 39 :: dblL l else c :: dblL l

theorem dblL_app : ∀ a b : List UInt8, dblL (a ++ b) = dblL a ++ dblL b
  | [], b => rfl
  | c :: a, b => by
    rw [List.cons_append, dblL, dblL, dblL_app a b]
    split <;> rfl

theorem dblL_plain : ∀ {a : List UInt8}, (∀ c ∈ a, c ≠ 39) → dblL a = a
  | [], _ => rfl
  | c :: a, h => by rw [dblL, if_neg (h c (by simp)), dblL_plain fun x hx => h x (by simp [hx])]

theorem dblL_len : ∀ a : List UInt8, a.length ≤ (dblL a).length ∧ (dblL a).length ≤ 2 * a.length
  | [] => by simp [dblL]
  | c :: a => by
    have := dblL_len a
    rw [dblL]
    split <;> simp <;> omega

/-- Every text is free of quotes, or is one that is, a quote, and a rest. -/
theorem split_quote : ∀ l : List UInt8, (∀ c ∈ l, c ≠ 39) ∨ ∃ a b, l = a ++ 39 :: b ∧ ∀ c ∈ a, c ≠ 39
  | [] => .inl (by simp)
  | c :: l => by
    by_cases h : c = 39
    · subst h; exact .inr ⟨[], l, rfl, by simp⟩
    · rcases split_quote l with h2 | ⟨a, b, h3, h4⟩
      · exact .inl fun x hx => (List.mem_cons.1 hx).elim (fun e => e ▸ h) (h2 x)
      · exact .inr ⟨c :: a, b, by rw [h3]; rfl, fun x hx => (List.mem_cons.1 hx).elim (fun e => e ▸ h) (h4 x)⟩

theorem index_none_of (p : List UInt8) : ∀ {l : List UInt8}, p = 39 :: p.tail → (∀ c ∈ l, c ≠ 39) → Lib.index l p = -1
  | [], hp, _ => by rw [hp]; rfl
  | c :: l, hp, h => by
    have h0 := h c (by simp)
    have hn : p.isPrefixOf (c :: l) = false := by
      rw [hp, List.isPrefixOf]
      have : ((39 : UInt8) == c) = false := by simpa using fun e => h0 e.symm
      rw [this]; rfl
    rw [Lib.index, hn, index_none_of p hp fun x hx => h x (by simp [hx])]
    rfl

theorem index_some_of (p : List UInt8) : ∀ {a b : List UInt8}, p = 39 :: p.tail → (∀ c ∈ a, c ≠ 39) → p.isPrefixOf b = true → Lib.index (a ++ b) p = (a.length : Int)
  | [], b, hp, _, hb => by
    cases b with
    | nil => rw [hp] at hb; simp [List.isPrefixOf] at hb
    | cons x b => rw [List.nil_append, Lib.index, hb]; rfl
  | c :: a, b, hp, h, hb => by
    have h0 := h c (by simp)
    have hn : p.isPrefixOf (c :: (a ++ b)) = false := by
      rw [hp, List.isPrefixOf]
      have : ((39 : UInt8) == c) = false := by simpa using fun e => h0 e.symm
      rw [this]; rfl
    have ih := index_some_of p (a := a) (b := b) hp (fun x hx => h x (by simp [hx])) hb
    rw [List.cons_append, Lib.index, hn, ih, List.length_cons]
    rw [if_neg (by simp)]
    have : ((a.length : Int) == -1) = false := by simp
    rw [this]
    simp

theorem replaceK_none {o n l : List UInt8} (h : Lib.index l o = -1) : ∀ k, Lib.replaceK o n k l = l
  | 0 => rfl
  | k + 1 => by rw [Lib.replaceK, h]; rfl

/-- Each quote doubled. -/
theorem replaceK_dbl : ∀ (k : Nat) (l : List UInt8), Lib.count l [39] ≤ k → Lib.replaceK [39] [39, 39] k l = dblL l
  | k, l, hk => by
    rcases split_quote l with h | ⟨a, b, rfl, h⟩
    · rw [replaceK_none (index_none_of [39] rfl h), dblL_plain h]
    · have hi : Lib.index (a ++ 39 :: b) [39] = (a.length : Int) := index_some_of [39] rfl h (by simp [List.isPrefixOf])
      have hc := Lib.count_hit (by simp) hi
      cases k with
      | zero => omega
      | succ k =>
        have hd : (a ++ 39 :: b).drop (a.length + [(39 : UInt8)].length) = b := by
          rw [← List.drop_drop, List.drop_left]; rfl
        rw [hd] at hc
        rw [Lib.replaceK_hit _ _ _ _ _ hi, hd, List.take_left, replaceK_dbl k b (by omega), dblL_app, dblL_plain h]
        simp [dblL]

theorem replaceAll_dbl (l : List UInt8) : Lib.replaceAll l [39] [39, 39] = dblL l := by
  unfold Lib.replaceAll Lib.replace Lib.replaceNum
  rw [if_neg (by decide), if_pos (.inl (by omega))]
  exact replaceK_dbl _ l (Nat.le_refl _)

/-- .. and back. -/
theorem replaceK_undbl : ∀ (k : Nat) (l : List UInt8), Lib.count (dblL l) [39, 39] ≤ k → Lib.replaceK [39, 39] [39] k (dblL l) = l
  | k, l, hk => by
    rcases split_quote l with h | ⟨a, b, rfl, h⟩
    · rw [dblL_plain h, replaceK_none (index_none_of [39, 39] rfl h)]
    · have e : dblL (a ++ 39 :: b) = a ++ 39 :: 39 :: dblL b := by rw [dblL_app, dblL_plain h]; simp [dblL]
      rw [e] at hk ⊢
      have hi : Lib.index (a ++ 39 :: 39 :: dblL b) [39, 39] = (a.length : Int) := index_some_of [39, 39] rfl h (by simp [List.isPrefixOf])
      have hc := Lib.count_hit (by simp) hi
      cases k with
      | zero => omega
      | succ k =>
        have hd : (a ++ 39 :: 39 :: dblL b).drop (a.length + [(39 : UInt8), 39].length) = dblL b := by
          rw [← List.drop_drop, List.drop_left]; rfl
        rw [hd] at hc
        rw [Lib.replaceK_hit _ _ _ _ _ hi, hd, List.take_left, replaceK_undbl k b (by omega)]
        simp

theorem replaceAll_undbl (l : List UInt8) : Lib.replaceAll (dblL l) [39, 39] [39] = l := by
  unfold Lib.replaceAll Lib.replace Lib.replaceNum
  rw [if_neg (by decide), if_pos (.inl (by omega))]
  exact replaceK_undbl _ l (Nat.le_refl _)

def quoteL (l : List UInt8) : List UInt8 := 39 :: (dblL l ++ [39])
def bodyL (l : List UInt8) : List UInt8 := Lib.trimSuffix (Lib.trimPrefix l [39]) [39]
def plainL (l : List UInt8) : List UInt8 := Lib.replaceAll (bodyL l) [39, 39] [39]
def unquoteL (l : List UInt8) : List UInt8 × Int := if quoteL (plainL l) = l then (plainL l, 0) else ([], 3)

theorem body_quote (l : List UInt8) : bodyL (quoteL l) = dblL l := by
  have h1 : Lib.trimPrefix (quoteL l) [39] = dblL l ++ [39] := by
    unfold Lib.trimPrefix Lib.hasPrefix quoteL
    rw [if_pos (by simp [List.isPrefixOf])]
    rfl
  have hs : [(39 : UInt8)].isSuffixOf (dblL l ++ [39]) = true := by
    rw [List.isSuffixOf_iff_suffix]
    exact ⟨dblL l, rfl⟩
  unfold bodyL
  rw [h1]
  unfold Lib.trimSuffix Lib.hasSuffix
  rw [if_pos hs]
  simp

theorem plain_quote (l : List UInt8) : plainL (quoteL l) = l := by
  unfold plainL; rw [body_quote, replaceAll_undbl]

theorem unquote_quote (l : List UInt8) : unquoteL (quoteL l) = (l, 0) := by
  unfold unquoteL; rw [plain_quote, if_pos rfl]

theorem body_len (l : List UInt8) : (bodyL l).length ≤ l.length := by
  unfold bodyL Lib.trimSuffix Lib.trimPrefix
  split <;> split <;> simp [List.length_take, List.length_drop] <;> omega
end Go.Proofs.YtbnddpicpomakaaGreatDoor

/- The walks of runes.Count, Quote, Unquote, isDigits, Number and Digits. -/
set_option linter.unusedSimpArgs false
set_option linter.unusedVariables false
set_option maxRecDepth 100000
namespace Go.Proofs.YtbnddpicpomakaaGreatDoor
set_option linter.unusedSimpArgs false
open Go.RowKit

/-- The name of the table of powers. -/
def powName : String := "internal/strconv.uint64pow10"

/-- What the package's variables hold. -/
structure Pre4 (w : World) : Prop where
  tabs : Tabs w
  maxlen : ∃ m, w.cell? ⟨Tryz.laysRepl_ren.g 1, 0, none⟩ = some (.int .i64 m)
  pow : Lib.TabIs Tryz.prog w powName .u64 Lib.pow10Tab
/-- .. and the error of numbers out of range. -/
structure Pre5 (w : World) : Prop extends Pre4 w where
  rng : ∃ ev, w.cell? ⟨Tryz.laysParse_ren.g 16, 0, none⟩ = some ev ∧ (ev = .nilIface ∨ ∃ te pe, ev = .iface te pe)
instance (w : World) : Coe (Pre5 w) (Pre4 w) := ⟨fun h => h.toPre4⟩

theorem cell_kept5 {w w' : World} {a : Addr} {v : Value} (h : w.cell? a = some v) (hb : Below w.heap.size w w') : w'.cell? a = some v :=
  (hb.cell (World.block_lt_of_cell? _ _ h)).trans h

theorem var_kept5 {P : Program} {w w' : World} {n : String} {cs : Array Value} (h : w.var? P n = some cs) (hb : Below w.heap.size w w') : w'.var? P n = some cs := by
  unfold World.var? at h ⊢
  cases hg : P.globalNamed n with
  | none => rw [hg] at h; simp at h
  | some g =>
    rw [hg] at h
    simp only [Option.bind_some] at h ⊢
    have hlt : g < w.heap.size := by
      by_cases hlt : g < w.heap.size
      · exact hlt
      · rw [Array.getElem?_eq_none (by omega)] at h; simp at h
    rw [hb.block g hlt]
    exact h

theorem Pre4.below {w w' : World} (h : Pre4 w) (hb : Below w.heap.size w w') : Pre4 w' :=
  ⟨h.tabs.below hb, let ⟨m, hm⟩ := h.maxlen; ⟨m, cell_kept5 hm hb⟩, var_kept5 h.pow hb⟩
theorem Pre5.below {w w' : World} (h : Pre5 w) (hb : Below w.heap.size w w') : Pre5 w' :=
  ⟨h.toPre4.below hb, let ⟨ev, h1, h2⟩ := h.rng; ⟨ev, cell_kept5 h1 hb, h2⟩⟩

/-! Count. -/
theorem count_dec (s : ByteArray) : ∀ (r : List Nat) (pos fuel : Nat), decS ((bytesU s).drop pos) = some r → s.size ≤ pos + fuel → Lib.runeCountFrom s fuel pos = r.length
  | [], pos, fuel, h, _ => by
    have hp : ¬ pos < s.size := by
      intro hp
      have h2 := ((decS_iff (fun c hc => bytesU_lt s c (List.mem_of_mem_drop hc)) []).1 h).2
      have := congrArg List.length h2
      rw [List.length_drop, bytesU_len] at this
      simp [encS] at this
      omega
    rw [Lib.runeCountFrom_end s fuel pos hp]; rfl
  | v :: r, pos, fuel, h, hf => by
    have hne : (bytesU s).drop pos ≠ [] := by
      intro h0; rw [h0, decS_nil] at h; simp at h
    obtain ⟨v', n, r', h1, h2, h3, h4, h5, h6, h7, h8⟩ := decS_step (fun c hc => bytesU_lt s c (List.mem_of_mem_drop hc)) h hne
    simp only [List.cons.injEq] at h2
    obtain ⟨rfl, rfl⟩ := h2
    rw [List.length_drop, bytesU_len] at h6
    obtain ⟨f, rfl⟩ : ∃ f, fuel = f + 1 := ⟨fuel - 1, by omega⟩
    unfold Lib.runeCountFrom
    rw [if_pos (by omega), decode_hd, h4]
    rw [List.drop_drop] at h3
    rw [count_dec s r (pos + n) f h3 (by omega), List.length_cons]; omega

def countV (s : ByteArray) : Int × Int := match decS (bytesU s) with
  | none => (0, 3)
  | some p => ((p.length : Int), 0)

/-! Quote and Unquote. -/
def baL (l : List UInt8) : ByteArray := ⟨l.toArray⟩
theorem baL_list (l : List UInt8) : (baL l).data.toList = l := by simp [baL]
theorem baL_size (l : List UInt8) : (baL l).size = l.length := by simp [baL, ByteArray.size]
theorem baL_data (s : ByteArray) : baL s.data.toList = s := by
  apply ByteArray.ext; simp [baL]

def quoteS (s : ByteArray) : ByteArray := baL (quoteL s.data.toList)
def unquoteS (s : ByteArray) : ByteArray × Int := (baL (unquoteL s.data.toList).1, (unquoteL s.data.toList).2)

theorem extraRepl : Builder.Extra Tryz.prog Tryz.laysRepl_ren := {
  sizeBuilder := by kernel_rfl
  liesBuilder := by kernel_rfl
  t5 := Tryz.underlying5
  a5 := Tryz.isAgg5
  z5 := Tryz.sizeOf5
  v5 := Tryz.zeroValue5
  infoByte := by kernel_rfl
  cellsByte := by kernel_rfl
  sizeByte := by kernel_rfl
  neB5 := by decide }

theorem repl_any (s old new : ByteArray) (w : World) (hT : Pre4 w) (hs : s.size ≤ 1000000) (h1 : 1 ≤ old.size) (h2 : new.size ≤ 2) :
    Calls Tryz.prog 103 #[.string s, .string old, .string new] w fun e w' => e = .returned (.string (baL (Lib.replaceAll s.data.toList old.data.toList new.data.toList))) ∧ Below w.heap.size w w' := by
  obtain ⟨m, hm⟩ := hT.maxlen
  have hc := Lib.countB_le old h1 s.size s (Nat.le_refl _)
  refine Any.strings_ReplaceAll { Tryz.laysRepl with } extraRepl s old new m w (by omega) hm h1 ?_
  have : Lib.countB s old * new.size ≤ s.size * 2 := Nat.mul_le_mul hc h2
  omega

theorem quote_cat (s : ByteArray) : (⟨#[39]⟩ : ByteArray) ++ baL (dblL s.data.toList) ++ ⟨#[39]⟩ = quoteS s := by
  apply ByteArray.ext
  simp [quoteS, baL, quoteL]

theorem dbl_size (s : ByteArray) : (baL (dblL s.data.toList)).size ≤ 2 * s.size := by
  rw [baL_size]
  have := (dblL_len s.data.toList).2
  simpa using this

set_option maxHeartbeats 1000000 in
theorem Quote_any (s : ByteArray) (w : World) (hT : Pre4 w) (hs : s.size ≤ 1000000) :
    Calls Tryz.prog 67 #[.string s] w fun e w' => e = .returned (.string (quoteS s)) ∧ Below w.heap.size w w' := by
  have h := repl_any s ⟨#[39]⟩ ⟨#[39, 39]⟩ w hT hs (by decide) (by decide)
  have e : Lib.replaceAll s.data.toList (⟨#[39]⟩ : ByteArray).data.toList (⟨#[39, 39]⟩ : ByteArray).data.toList = dblL s.data.toList := replaceAll_dbl _
  rw [e] at h
  have hq := quote_cat s
  have hz := dbl_size s
  obtain ⟨d, hd⟩ : ∃ d, baL (dblL s.data.toList) = d := ⟨_, rfl⟩
  rw [hd] at h hq hz
  have HQ := Lib.hid hq
  have HC := Lib.hid h
  have s1 : ¬ 9223372036854775807 < 1 + d.size := by omega
  have s2 : ¬ 9223372036854775807 < 1 + d.size + 1 := by omega
  clear h e hq hd hT
  go_enter Tryz.func67, Tryz.ntmps67
  go_wp2_with fail
  refine HC.out.mono ?_
  rintro e w1 ⟨rfl, b1⟩
  go_wp2
  go_ret
  exact ⟨by rw [← HQ.out]; rfl, b1⟩

theorem neq_lists {a b : ByteArray} (h : ¬ a = b) : (a.toList != b.toList) = true := by
  rw [bne_iff_ne]
  intro e
  apply h
  rw [ByteArray.toList_eq, ByteArray.toList_eq] at e
  exact ByteArray.ext (Array.toList_inj.1 e)

theorem plain_len (l : List UInt8) (h : quoteL (plainL l) = l) : (plainL l).length ≤ l.length := by
  have := congrArg List.length h
  unfold quoteL at this
  have h2 := (dblL_len (plainL l)).1
  simp at this
  omega

theorem index_bd (l p : List UInt8) : Lib.index l p ≤ (l.length : Int) := by
  induction l with
  | nil => rw [Lib.index]; split <;> simp
  | cons b l ih =>
    rw [Lib.index]
    split
    · simp; omega
    · split
      · simp; omega
      · simp; omega

theorem replaceK_len (o n : List UInt8) (h : n.length ≤ o.length) : ∀ (k : Nat) (l : List UInt8), (Lib.replaceK o n k l).length ≤ l.length + n.length * k
  | 0, l => by simp [Lib.replaceK]
  | k + 1, l => by
    rw [Lib.replaceK]
    split
    · omega
    · have := replaceK_len o n h k (l.drop ((Lib.index l o).toNat + o.length))
      rw [List.length_append, List.length_append, List.length_take]
      rw [List.length_drop] at this
      rw [Nat.mul_succ]
      omega

theorem plain_bd (l : List UInt8) : (plainL l).length ≤ 2 * l.length + 1 := by
  unfold plainL Lib.replaceAll Lib.replace Lib.replaceNum
  have hb := body_len l
  rw [if_neg (by decide), if_pos (.inl (by omega))]
  have h1 := replaceK_len [39, 39] [39] (by simp) (Lib.count (bodyL l) [39, 39]) (bodyL l)
  have h2 := Lib.count_le (bodyL l) [39, 39]
  simp at h1
  omega

set_option maxHeartbeats 2000000 in
theorem Unquote_any (s : ByteArray) (w : World) (hT : Pre4 w) (hs : s.size ≤ 400000) :
    Calls Tryz.prog 98 #[.string s] w fun e w' => e = .returned (.tuple #[.string (unquoteS s).1, .int .i64 (unquoteS s).2]) ∧ Below w.heap.size w w' := by
  have HP : ∀ W, Calls Tryz.prog 117 #[.string s, .string ⟨#[39]⟩] W fun e w' => e = .returned (.string (baL (Lib.trimPrefix s.data.toList [39]))) ∧ w' = W := fun W => Any.strings_TrimPrefix Tryz.laysTrimP s ⟨#[39]⟩ W
  have hpl : (Lib.trimPrefix s.data.toList [39]).length ≤ s.size := by
    unfold Lib.trimPrefix
    have : s.data.toList.length = s.size := by simp
    split
    · rw [List.length_drop]; omega
    · omega
  have HS : ∀ W, Calls Tryz.prog 116 #[.string (baL (Lib.trimPrefix s.data.toList [39])), .string ⟨#[39]⟩] W fun e w' => e = .returned (.string (baL (bodyL s.data.toList))) ∧ w' = W := fun W => by
    have := Any.strings_TrimSuffix Tryz.laysTrimS (baL (Lib.trimPrefix s.data.toList [39])) ⟨#[39]⟩ W (by rw [baL_size]; omega)
    rw [baL_list] at this
    exact this
  have hbl : (baL (bodyL s.data.toList)).size ≤ 1000000 := by
    rw [baL_size]
    have := body_len s.data.toList
    have e : s.data.toList.length = s.size := by simp
    omega
  have HR : ∀ W, Below w.heap.size w W → Calls Tryz.prog 103 #[.string (baL (bodyL s.data.toList)), .string ⟨#[39, 39]⟩, .string ⟨#[39]⟩] W fun e w' => e = .returned (.string (baL (plainL s.data.toList))) ∧ Below W.heap.size W w' := fun W hb => by
    have := repl_any (baL (bodyL s.data.toList)) ⟨#[39, 39]⟩ ⟨#[39]⟩ W (hT.below hb) hbl (by decide) (by decide)
    rw [baL_list] at this
    exact this
  have hpz : (baL (plainL s.data.toList)).size ≤ 1000000 := by
    rw [baL_size]
    have := plain_bd s.data.toList
    have e : s.data.toList.length = s.size := by simp
    omega
  have HQ : ∀ W, Below w.heap.size w W → Calls Tryz.prog 67 #[.string (baL (plainL s.data.toList))] W fun e w' => e = .returned (.string (quoteS (baL (plainL s.data.toList)))) ∧ Below W.heap.size W w' := fun W hb => Quote_any _ W (hT.below hb) hpz
  have hU : (quoteS (baL (plainL s.data.toList)) = s ∧ unquoteS s = (baL (plainL s.data.toList), 0)) ∨ (¬ quoteS (baL (plainL s.data.toList)) = s ∧ unquoteS s = (⟨#[]⟩, 3)) := by
    unfold unquoteS unquoteL quoteS
    rw [baL_list]
    by_cases h : quoteL (plainL s.data.toList) = s.data.toList
    · left
      rw [if_pos h, h]
      exact ⟨baL_data s, rfl⟩
    · right
      rw [if_neg h]
      refine ⟨fun e => h ?_, rfl⟩
      have h3 := congrArg (fun t : ByteArray => t.data.toList) e
      rw [baL_list] at h3
      exact h3
  have H1 := Lib.hid HP
  have H2 := Lib.hid HS
  have H3 := Lib.hid HR
  have H4 := Lib.hid HQ
  obtain ⟨t, ht⟩ : ∃ t, baL (Lib.trimPrefix s.data.toList [39]) = t := ⟨_, rfl⟩
  obtain ⟨b, hb⟩ : ∃ b, baL (bodyL s.data.toList) = b := ⟨_, rfl⟩
  obtain ⟨p, hp⟩ : ∃ p, baL (plainL s.data.toList) = p := ⟨_, rfl⟩
  rw [ht] at H1 H2
  rw [hb] at H2 H3
  rw [hp] at H3 H4 hU
  obtain ⟨q, hq⟩ : ∃ q, quoteS p = q := ⟨_, rfl⟩
  rw [hq] at H4 hU
  clear HP HS HR HQ hpl hbl hpz ht hb hp hq hT
  rcases hU with ⟨rfl, hU⟩ | ⟨hne, hU⟩
  · have HU := Lib.hid hU
    clear hU
    go_enter Tryz.func98, Tryz.ntmps98
    go_wp2_with fail
    refine (H1.out _).mono ?_
    rintro e w1 ⟨rfl, rfl⟩
    go_wp2_with fail
    refine (H2.out _).mono ?_
    rintro e w2 ⟨rfl, rfl⟩
    go_wp2_with fail
    refine (H3.out _ (Below.refl _ _)).mono ?_
    rintro e w3 ⟨rfl, b3⟩
    go_wp2_with fail
    refine (H4.out _ b3).mono ?_
    rintro e w4 ⟨rfl, b4⟩
    go_wp2
    go_ret2
    exact ⟨by rw [HU.out]; rfl, b3.trans (b4.mono b3.size)⟩
  · have HU := Lib.hid hU
    have qn2 : (q.toList == s.toList) = false := by have := neq_lists hne; simpa using this
    clear hU hne
    go_enter Tryz.func98, Tryz.ntmps98
    go_wp2_with fail
    refine (H1.out _).mono ?_
    rintro e w1 ⟨rfl, rfl⟩
    go_wp2_with fail
    refine (H2.out _).mono ?_
    rintro e w2 ⟨rfl, rfl⟩
    go_wp2_with fail
    refine (H3.out _ (Below.refl _ _)).mono ?_
    rintro e w3 ⟨rfl, b3⟩
    go_wp2_with fail
    refine (H4.out _ b3).mono ?_
    rintro e w4 ⟨rfl, b4⟩
    go_wp2
    go_ret2
    exact ⟨by rw [HU.out]; rfl, b3.trans (b4.mono b3.size)⟩

/-! Digits. -/
theorem Digits_any (n : Int) (w : World) (hT : Pre4 w) (h0 : -9223372036854775808 ≤ n) (h1 : n ≤ 9223372036854775807) :
    Calls Tryz.prog 66 #[.int .i64 n] w fun e w' => e = .returned (.string (baL (Lib.itoa n))) ∧ Below w.heap.size w w' := by
  have hF : Calls Tryz.prog 102 #[.int .i64 n, .int .i64 10] w fun e w' => e = .returned (.string (baL (Lib.itoa n))) ∧ ∃ k os, w' = Sort.grow (w.drewN k) os := Any.strconv_FormatInt_10 Tryz.laysFmt n h0 h1 w hT.pow
  obtain ⟨d, hd⟩ : ∃ d, baL (Lib.itoa n) = d := ⟨_, rfl⟩
  rw [hd] at hF ⊢
  have HF := Lib.hid hF
  clear hF hd hT
  go_enter Tryz.func66, Tryz.ntmps66
  go_wp2_with fail
  refine HF.out.mono ?_
  rintro e w1 ⟨rfl, k, os, rfl⟩
  have hb : Below w.heap.size w (Sort.grow (w.drewN k) os) := ⟨rfl, rfl, rfl, by first | (simp [Sort.grow]; done) | (simp [Sort.grow]; omega), fun i hi => by
    show ((w.drewN k).heap ++ os)[i]? = _
    rw [Array.getElem?_append_left (by show i < w.heap.size; omega)]
    rfl⟩
  obtain ⟨W, hW⟩ : ∃ W, Sort.grow (w.drewN k) os = W := ⟨_, rfl⟩
  rw [hW] at hb ⊢
  clear hW
  go_wp2
  go_ret
  exact ⟨rfl, hb⟩
end Go.Proofs.YtbnddpicpomakaaGreatDoor

/- The walks of runes.isDigits and Number. -/
set_option linter.unusedSimpArgs false
set_option linter.unusedVariables false
set_option maxRecDepth 100000
namespace Go.Proofs.YtbnddpicpomakaaGreatDoor
set_option linter.unusedSimpArgs false
open Go.RowKit

def digitsB (s : ByteArray) : Bool := decide (0 < s.size) && (List.range s.size).all fun i => decide (48 ≤ byteN s i ∧ byteN s i ≤ 57)

theorem digitsB_true {s : ByteArray} : digitsB s = true ↔ 0 < s.size ∧ ∀ i, i < s.size → 48 ≤ byteN s i ∧ byteN s i ≤ 57 := by
  unfold digitsB
  rw [Bool.and_eq_true, decide_eq_true_iff, List.all_eq_true]
  simp

theorem digitsB_false {s : ByteArray} {i : Nat} (h : i < s.size) (hb : ¬ (48 ≤ byteN s i ∧ byteN s i ≤ 57)) : digitsB s = false := by
  rw [Bool.eq_false_iff]
  intro hn
  exact hb ((digitsB_true.1 hn).2 i h)

theorem class3 (c : Nat) : classZ (c : Int) = 3 ↔ 48 ≤ c ∧ c ≤ 57 := by
  unfold classZ
  repeat' split
  all_goals omega

set_option maxHeartbeats 2000000 in
theorem isDigits_any (s : ByteArray) (w : World) (hs : s.size ≤ 1000000000) :
    Calls Tryz.prog 114 #[.string s] w fun e w' => e = .returned (.bool (digitsB s)) ∧ Below w.heap.size w w' := by
  go_enter Tryz.func114, Tryz.ntmps114
  go_wp2
  go_loopw [] (fun wr => ∃ pos : Nat, wr = w.iter s pos ∧ pos ≤ s.size ∧ Hid (∀ i, i < pos → 48 ≤ byteN s i ∧ byteN s i ≤ 57)) (fun wr => s.size - wr.iterPos w.heap.size)
  case atStart => exact ⟨0, rfl, by omega, by simp [Hid]⟩
  case round =>
    obtain ⟨pos, rfl, hpos, HI⟩ := hrel
    have HBE : Hid (∀ q, Below w.heap.size w (w.iter s q)) := fun q => (Below.refl _ w).alloc (Nat.le_refl _) _
    by_cases hp : pos < s.size
    · have hnx : ∀ ty, (Instr.next (.pointer (some ⟨w.heap.size, 0, none⟩)) true ty).run Tryz.prog (w.iter s pos) = _ := fun ty => run_next_any w s pos ty hp
      have hB := byteN_at s pos hp
      by_cases hd : 48 ≤ (s[pos]'hp).toNat ∧ (s[pos]'hp).toNat ≤ 57
      · have hdec := decode_ascii s pos hp (by omega)
        simp only [hdec] at hnx
        obtain ⟨c, hc⟩ : ∃ c, (s[pos]'hp).toNat = c := ⟨_, rfl⟩
        rw [hc] at hnx hB hd
        have HCl := Lib.hid (fun W => Class_any (c : Int) W)
        rw [(class3 c).2 hd] at HCl
        have HI2 : Hid (∀ i, i < pos + 1 → 48 ≤ byteN s i ∧ byteN s i ≤ 57) := by
          intro i hi
          by_cases h : i = pos
          · subst h; rw [hB]; exact hd
          · exact HI.out i (by omega)
        clear hdec hB hc hd HI
        go_wp2_with fail
        refine (HCl.out _).mono ?_
        rintro e w1 ⟨rfl, rfl⟩
        clear HCl
        go_wp2
        go_roundw
        case rel => exact ⟨pos + 1, rfl, by omega, HI2⟩
        case measure => simp; omega
      · have HN : Hid (digitsB s = false) := digitsB_false hp (by rw [hB]; exact hd)
        have hr3 : classZ (((Utf8.decode s pos).1 : Nat) : Int) ≠ 3 := by
          intro h
          rw [class3] at h
          by_cases hasc : (s[pos]'hp).toNat < 128
          · rw [decode_ascii s pos hp hasc] at h; exact hd h
          · have := (decode_high s pos hp (by omega)).1; omega
        obtain ⟨r, hr⟩ : ∃ r, (Utf8.decode s pos).1 = r := ⟨_, rfl⟩
        obtain ⟨z, hz⟩ : ∃ z, (Utf8.decode s pos).2 = z := ⟨_, rfl⟩
        rw [hr, hz] at hnx
        rw [hr] at hr3
        have HCl := Lib.hid (fun W => Class_any (r : Int) W)
        obtain ⟨k, hk⟩ : ∃ k, classZ (r : Int) = k := ⟨_, rfl⟩
        rw [hk] at HCl hr3
        have q3 : (k != 3) = true := by simp [hr3]
        clear hB hr hz HI hd hk hr3
        go_wp2_with fail
        refine (HCl.out _).mono ?_
        rintro e w1 ⟨rfl, rfl⟩
        clear HCl
        go_wp2
        go_ret
        exact ⟨by rw [HN.out]; rfl, HBE.out _⟩
    · have hnx : ∀ ty, (Instr.next (.pointer (some ⟨w.heap.size, 0, none⟩)) true ty).run Tryz.prog (w.iter s pos) = _ := fun ty => run_next_end w s pos ty hp
      by_cases h0 : s.size = 0
      · have HN : Hid (digitsB s = false) := by unfold digitsB; simp [h0, Hid]
        have he : s.toList = [] := by rw [ByteArray.toList_eq, Array.size_eq_zero_iff.1 (show s.data.size = 0 from h0)]
        clear HI h0
        go_wp2
        go_ret
        exact ⟨by rw [HN.out]; rfl, HBE.out _⟩
      · have HN : Hid (digitsB s = true) := digitsB_true.2 ⟨by omega, fun i hi => HI.out i (by omega)⟩
        have he : (s.toList == []) = false := by
          rw [ByteArray.toList_eq]
          rw [Bool.eq_false_iff]
          intro h
          rw [beq_iff_eq] at h
          apply h0
          have := congrArg List.length h
          simpa using this
        have he2 : ¬ s.toList = [] := by simpa using he
        have he3 : (!s.toList.isEmpty) = true := by simpa using he2
        clear HI h0
        go_wp2
        go_ret
        exact ⟨by rw [HN.out]; rfl, HBE.out _⟩

/-! The number of some digits. -/
def valL (l : List Nat) : Nat := l.foldl (fun n c => n * 10 + (c - 48)) 0
def valF (a : Nat) (l : List Nat) : Nat := l.foldl (fun n c => n * 10 + (c - 48)) a

theorem valF_mono : ∀ (l : List Nat) (a : Nat), a ≤ valF a l
  | [], a => Nat.le_refl _
  | c :: l, a => by
    have := valF_mono l (a * 10 + (c - 48))
    show a ≤ valF (a * 10 + (c - 48)) l
    omega

theorem parseM_val : ∀ (l : List UInt8) (acc : Nat), (∀ c ∈ l, 48 ≤ c.toNat ∧ c.toNat ≤ 57) → acc < 18446744073709551616 →
    (Lib.parseUintM 18446744073709551615 acc l = .ok (valF acc (l.map UInt8.toNat)) ∧ valF acc (l.map UInt8.toNat) < 18446744073709551616) ∨ (Lib.parseUintM 18446744073709551615 acc l = .range ∧ 18446744073709551616 ≤ valF acc (l.map UInt8.toNat))
  | [], acc, _, h => .inl ⟨rfl, h⟩
  | c :: l, acc, hd, h => by
    have hc := hd c (by simp)
    have e : valF acc ((c :: l).map UInt8.toNat) = valF (acc * 10 + (c.toNat - 48)) (l.map UInt8.toNat) := rfl
    have hm := valF_mono (l.map UInt8.toNat) (acc * 10 + (c.toNat - 48))
    rw [e, Lib.parseUintM, if_pos hc]
    by_cases h1 : 1844674407370955162 ≤ acc
    · rw [if_pos h1]; right; exact ⟨rfl, by omega⟩
    · rw [if_neg h1]
      by_cases h2 : 18446744073709551615 < acc * 10 + (c.toNat - 48)
      · rw [if_pos h2]; right; exact ⟨rfl, by omega⟩
      · rw [if_neg h2]
        exact parseM_val l _ (fun x hx => hd x (by simp [hx])) (by omega)

theorem parse_val (l : List UInt8) (hne : l ≠ []) (hd : ∀ c ∈ l, 48 ≤ c.toNat ∧ c.toNat ≤ 57) :
    (Lib.parseIntB 64 l = .ok ((valL (l.map UInt8.toNat) : Nat) : Int) ∧ valL (l.map UInt8.toNat) < 9223372036854775808) ∨ (Lib.parseIntB 64 l = .range ∧ 9223372036854775808 ≤ valL (l.map UInt8.toNat)) := by
  cases l with
  | nil => exact absurd rfl hne
  | cons c l =>
    have hc := hd c (by simp)
    have e : valL ((c :: l).map UInt8.toNat) = valF 0 ((c :: l).map UInt8.toNat) := rfl
    have hb : (2 : Nat) ^ 64 - 1 = 18446744073709551615 := by decide
    have hb2 : (2 : Nat) ^ (64 - 1) = 9223372036854775808 := by decide
    rw [e]
    unfold Lib.parseIntB
    simp only []
    rw [if_neg (by omega)]
    unfold Lib.parseUintB
    rw [if_neg (by simp), hb]
    rcases parseM_val (c :: l) 0 hd (by omega) with ⟨h1, h2⟩ | ⟨h1, h2⟩
    · rw [h1]
      simp only [hb2]
      by_cases h3 : 9223372036854775808 ≤ valF 0 ((c :: l).map UInt8.toNat)
      · rw [if_pos ⟨by omega, h3⟩]; right; exact ⟨rfl, h3⟩
      · rw [if_neg (by omega), if_neg (by omega), if_neg (by omega)]; left; exact ⟨rfl, by omega⟩
    · rw [h1]; right; exact ⟨rfl, by omega⟩

def numberV (s : ByteArray) : Int × Int := if digitsB s = false then (0, 3) else if 9223372036854775808 ≤ valL (bytesU s) then (0, 21) else (((valL (bytesU s) : Nat) : Int), 0)

set_option maxHeartbeats 1000000 in
theorem Number_any (s : ByteArray) (w : World) (hT : Pre5 w) (hs : s.size ≤ 1000000) :
    Calls Tryz.prog 96 #[.string s] w fun e w' => e = .returned (.tuple #[.int .i64 (numberV s).1, .int .i64 (numberV s).2]) ∧ Below w.heap.size w w' := by
  have HI := Lib.hid (fun W => isDigits_any s W (by omega))
  cases hd : digitsB s with
  | false =>
    have HN : Hid (numberV s = (0, 3)) := by unfold numberV; rw [if_pos hd]; rfl
    rw [hd] at HI
    clear hd hT
    go_enter Tryz.func96, Tryz.ntmps96
    go_wp2_with fail
    refine (HI.out _).mono ?_
    rintro e w1 ⟨rfl, b1⟩
    go_wp2
    go_ret2
    exact ⟨by rw [HN.out]; rfl, b1⟩
  | true =>
    have hN : numberV s = if 9223372036854775808 ≤ valL (bytesU s) then (0, 21) else (((valL (bytesU s) : Nat) : Int), 0) := by unfold numberV; rw [if_neg (by rw [hd]; simp)]
    obtain ⟨h0, hall⟩ := digitsB_true.1 hd
    have hbytes : ∀ c ∈ s.data.toList, 48 ≤ c.toNat ∧ c.toNat ≤ 57 := by
      intro c hc
      obtain ⟨i, hi, rfl⟩ := List.getElem_of_mem hc
      have hi2 : i < s.size := by simpa using hi
      have := hall i hi2
      rw [byteN_at s i hi2] at this
      exact this
    have hpv := parse_val s.data.toList (by
      intro h
      have := congrArg List.length h
      have e : s.data.toList.length = s.size := by simp
      rw [e, List.length_nil] at this; omega) hbytes
    have e : s.data.toList.map UInt8.toNat = bytesU s := rfl
    rw [e] at hpv
    rw [hd] at HI
    rcases hpv with ⟨h1, h2⟩ | ⟨h1, h2⟩
    · have HN : Hid (numberV s = (((valL (bytesU s) : Nat) : Int), 0)) := by rw [hN, if_neg (by omega)]; rfl
      have HP := Lib.hid (fun W => Any.strconv_ParseInt_10_at64_ok Tryz.laysParse s (by omega) _ h1 W)
      have HC : Hid (∀ W, Calls Tryz.prog 115 #[.string s, .int .i64 10, .int .i64 64] W fun e w' => e = .returned (.tuple #[.int .i64 ((valL (bytesU s) : Nat) : Int), .nilIface]) ∧ Below W.heap.size W w') := fun W => (HP.out W).mono fun e w' ⟨he, hw⟩ => ⟨he, by
        rcases hw with rfl | ⟨t, rfl⟩
        · exact Below.refl _ _
        · exact ⟨rfl, rfl, rfl, by rw [Lib.bytesWorld_size]; omega, fun k hk => Lib.bytesWorld_at_old W _ t k hk⟩⟩
      obtain ⟨v, hv⟩ : ∃ v, valL (bytesU s) = v := ⟨_, rfl⟩
      rw [hv] at HN HC
      clear hN h1 h2 HP hall hbytes hd hv hT e
      go_enter Tryz.func96, Tryz.ntmps96
      go_wp2_with fail
      refine (HI.out _).mono ?_
      rintro e w1 ⟨rfl, b1⟩
      go_wp2_with fail
      refine (HC.out _).mono ?_
      rintro e w2 ⟨rfl, b2⟩
      go_wp2
      go_ret2
      exact ⟨by rw [HN.out]; rfl, b1.trans (b2.mono b1.size)⟩
    · have HN : Hid (numberV s = (0, 21)) := by rw [hN, if_pos h2]; rfl
      have HP : Hid (∀ W, Below w.heap.size w W → ∃ te v, Calls Tryz.prog 115 #[.string s, .int .i64 10, .int .i64 64] W fun e w' => (∃ N, e = .returned (.tuple #[.int .i64 v, .iface te (.pointer (some ⟨N, 0, none⟩))])) ∧ Below W.heap.size W w') := fun W hb => by
        obtain ⟨ev, hv, hev⟩ := (hT.below hb).rng
        exact ⟨_, _, (Any.strconv_ParseInt_10_at64_range Tryz.laysParse s (by omega) h1 ev W hv hev).mono fun e w' ⟨N, he, _, _, hw⟩ => ⟨⟨N, he⟩, hw⟩⟩
      clear hN h1 h2 hall hbytes hd hT e
      go_enter Tryz.func96, Tryz.ntmps96
      go_wp2_with fail
      refine (HI.out _).mono ?_
      rintro e w1 ⟨rfl, b1⟩
      obtain ⟨te, v, hc⟩ := HP.out w1 b1
      go_wp2_with fail
      refine hc.mono ?_
      rintro e w2 ⟨⟨N, rfl⟩, b2⟩
      clear hc
      go_wp2
      go_ret2
      exact ⟨by rw [HN.out]; rfl, b1.trans (b2.mono b1.size)⟩
end Go.Proofs.YtbnddpicpomakaaGreatDoor

/- Rows of values of any kind, of one or more cells each: read, cut, and the call's own. -/
set_option linter.unusedSimpArgs false
set_option linter.unusedVariables false
set_option maxRecDepth 100000
namespace Go.Proofs.YtbnddpicpomakaaGreatDoor
open Go.RowKit

/-- The address leads to the cells vs, in blocks below number N. -/
def Arr (N : Nat) (w : World) (a : Option Addr) (vs : List Value) : Prop :=
  vs = [] ∨ ∃ b o, a = some ⟨b, o, none⟩ ∧ b < N ∧ ∀ (i : Nat) (v : Value), vs[i]? = some v → w.cell? ⟨b, o + i, none⟩ = some v

theorem Arr.nil (N : Nat) (w : World) (a : Option Addr) : Arr N w a [] := .inl rfl

theorem Arr.below {N : Nat} {w w' : World} {a : Option Addr} {l : List Value} (h : Arr N w a l) (hb : Below N w w') : Arr N w' a l := by
  rcases h with h2 | ⟨b, o, ha, hN, hc⟩
  · exact .inl h2
  · exact .inr ⟨b, o, ha, hN, fun i c hi => (hb.cell (p := ⟨b, o + i, none⟩) hN).trans (hc i c hi)⟩

theorem Arr.mono {N M : Nat} {w : World} {a : Option Addr} {l : List Value} (h : Arr N w a l) (hM : N ≤ M) : Arr M w a l := by
  rcases h with h2 | ⟨b, o, ha, hN, hc⟩
  · exact .inl h2
  · exact .inr ⟨b, o, ha, by omega, hc⟩

theorem Arr.later {N : Nat} {w w' : World} {a : Option Addr} {l : List Value} (h : Arr w.heap.size w a l) (hb : Below w.heap.size w w') : Arr w'.heap.size w' a l := (h.below hb).mono hb.size

/-- The cells from i on. -/
theorem Arr.at_ {N : Nat} {w : World} {a : Option Addr} {l : List Value} (h : Arr N w a l) (hne : l ≠ []) : ∃ b o, a = some ⟨b, o, none⟩ ∧ b < N ∧ ∀ (i : Nat) (v : Value), l[i]? = some v → w.cell? ⟨b, o + i, none⟩ = some v := by
  rcases h with h2 | h
  · exact absurd h2 hne
  · exact h

/-- Rows of z cells each. -/
def cellsOf {α : Type} (f : α → List Value) (l : List α) : List Value := l.flatMap f

theorem cellsOf_len {α : Type} (f : α → List Value) (z : Nat) (hf : ∀ x, (f x).length = z) (l : List α) : (cellsOf f l).length = l.length * z := by
  induction l with
  | nil => simp [cellsOf]
  | cons x r ih =>
    have e : cellsOf f (x :: r) = f x ++ cellsOf f r := rfl
    rw [e, List.length_append, hf, ih, List.length_cons, Nat.add_mul]; omega

theorem cellsOf_get {α : Type} (f : α → List Value) (z : Nat) (hf : ∀ x, (f x).length = z) : ∀ (l : List α) (i j : Nat) (x : α) (v : Value), l[i]? = some x → (f x)[j]? = some v → (cellsOf f l)[i * z + j]? = some v
  | [], i, _, x, _, h, _ => by simp at h
  | y :: r, 0, j, x, v, h, hv => by
    simp at h; subst h
    have e : cellsOf f (y :: r) = f y ++ cellsOf f r := rfl
    have hj := (List.getElem?_eq_some_iff.1 hv).1
    rw [e, Nat.zero_mul, Nat.zero_add, List.getElem?_append_left hj]; exact hv
  | y :: r, i + 1, j, x, v, h, hv => by
    have := cellsOf_get f z hf r i j x v (by simpa using h) hv
    have e : cellsOf f (y :: r) = f y ++ cellsOf f r := rfl
    rw [e, List.getElem?_append_right (by rw [hf, Nat.add_mul]; omega), hf]
    rw [← this]; congr 1; rw [Nat.add_mul]; omega

theorem cellsOf_take {α : Type} (f : α → List Value) (z : Nat) (hf : ∀ x, (f x).length = z) : ∀ (l : List α) (i : Nat), cellsOf f (l.take i) = (cellsOf f l).take (i * z)
  | [], i => by simp [cellsOf]
  | y :: r, 0 => by simp [cellsOf]
  | y :: r, i + 1 => by
    have e : cellsOf f (y :: r) = f y ++ cellsOf f r := rfl
    have e2 : cellsOf f ((y :: r).take (i + 1)) = f y ++ cellsOf f (r.take i) := rfl
    have h1 : (f y).take ((i + 1) * z) = f y := List.take_of_length_le (by rw [hf, Nat.add_mul]; omega)
    have h2 : (i + 1) * z - z = i * z := by rw [Nat.add_mul]; omega
    rw [e, e2, cellsOf_take f z hf r i, List.take_append, hf, h1, h2]

theorem cellsOf_drop {α : Type} (f : α → List Value) (z : Nat) (hf : ∀ x, (f x).length = z) : ∀ (l : List α) (i : Nat), cellsOf f (l.drop i) = (cellsOf f l).drop (i * z)
  | [], i => by simp [cellsOf]
  | y :: r, 0 => by simp [cellsOf]
  | y :: r, i + 1 => by
    have e : cellsOf f (y :: r) = f y ++ cellsOf f r := rfl
    have e2 : cellsOf f ((y :: r).drop (i + 1)) = cellsOf f (r.drop i) := rfl
    have h1 : (f y).drop ((i + 1) * z) = [] := List.drop_of_length_le (by rw [hf, Nat.add_mul]; omega)
    have h2 : (i + 1) * z - z = i * z := by rw [Nat.add_mul]; omega
    rw [e, e2, cellsOf_drop f z hf r i, List.drop_append, hf, h1, h2, List.nil_append]

theorem cellsOf_snoc {α : Type} (f : α → List Value) (l : List α) (x : α) : cellsOf f (l ++ [x]) = cellsOf f l ++ f x := by simp [cellsOf]

/-- 'b[k:m]' of such a slice. -/
theorem Arr.window {P : Program} {N : Nat} {w : World} {a : Option Addr} {l : List Value} (h : Arr N w a l) (t e : TypeId) (z : Nat) (ht : P.underlying t = some (.slice e)) (hz : ∀ w, (Go.sizeOf e).run P w = .ok z w)
    (len cap k m : Nat) (hlen : l.length = len * z) (hk : k ≤ m) (hm : m ≤ len) (hcap : len ≤ cap) (hz0 : 0 < z) :
    ∃ a', Arr N w a' ((l.drop (k * z)).take ((m - k) * z)) ∧ ∀ W, (Instr.slice t (.slice a len cap) (some (.int .i64 (k : Int))) (some (.int .i64 (m : Int))) none).run P W = .ok (.slice a' (m - k) (cap - k)) W := by
  have ht' : P.underlying t = some (.slice (P.elem t)) := by simp [Program.elem, ht]
  have hee : P.elem t = e := by simp [Program.elem, ht]
  refine ⟨if cap = k then a else a.map (·.add (k * z)), ?_, fun W => ?_⟩
  · rcases h with h2 | ⟨b, o, ha, hN, hc⟩
    · exact .inl (by simp [h2])
    · by_cases hkl : m = k
      · subst hkl; exact .inl (by simp)
      · right
        refine ⟨b, o + k * z, ?_, hN, fun i c hi => ?_⟩
        · rw [if_neg (by omega), ha]
          by_cases h0 : k = 0
          · subst h0; simp [Addr.add]
          · have : ¬ k * z = 0 := by have := Nat.mul_pos (show 0 < k by omega) hz0; omega
            simp [Addr.add]
            exact this
        · rw [List.getElem?_take] at hi
          split at hi
          · rw [List.getElem?_drop] at hi
            rw [Nat.add_assoc]; exact hc _ _ hi
          · simp at hi
  · have := run_slice_lh (P := P) W t a len cap ht' .i64 .i64 (k : Int) (m : Int) (by omega) (by omega) (by omega)
    rw [this, hee, hz W]
    simp [Result.andThen, sliced]

theorem own_below {w w' : World} {base N : Nat} {T : TypeId} {z : Nat} {v : Value} {n : Nat} {xs : List Value} (h : w.ownsRow base T z v n xs) (hN : w.heap.size ≤ N) (hb : Below N w w') : w'.ownsRow base T z v n xs := by
  obtain ⟨h1, h2⟩ := h
  refine ⟨h1, ?_⟩
  rcases h2 with h2 | ⟨g, cap, cur, hv, hg, hh, r⟩
  · exact .inl h2
  · refine .inr ⟨g, cap, cur, hv, hg, ?_, r⟩
    rw [hb.block g (by
      by_cases hlt : g < w.heap.size
      · omega
      · rw [Array.getElem?_eq_none (by omega)] at hh; simp at hh)]
    exact hh

theorem own_slice {w : World} {base : Nat} {T : TypeId} {z : Nat} {v : Value} {n : Nat} {xs : List Value} (h : w.ownsRow base T z v n xs) : ∃ a cap, v = .slice a n cap ∧ n ≤ cap ∧ cap ≤ 9223372036854775807 ∧ Arr w.heap.size w a xs := by
  obtain ⟨h1, h2⟩ := h
  rcases h2 with ⟨hv, hn⟩ | ⟨g, cap, cur, hv, hg, hh, hnc, hcm, hcs, hcur⟩
  · subst hn
    refine ⟨none, 0, hv, by omega, by omega, .inl ?_⟩
    exact List.length_eq_zero_iff.1 (by simpa using h1)
  · refine ⟨some ⟨g, 0, none⟩, cap, hv, hnc, by unfold maxLen at hcm; omega, .inr ⟨g, 0, rfl, ?_, ?_⟩⟩
    · by_cases hlt : g < w.heap.size
      · exact hlt
      · rw [Array.getElem?_eq_none (by omega)] at hh; simp at hh
    · intro i c hi
      have e1 : (cur.toList.take (n * z))[i]? = some c := by rw [hcur]; exact hi
      rw [List.getElem?_take] at e1
      split at e1
      · simp only [World.cell?, hh, Nat.zero_add]
        simpa using e1
      · simp at e1

/-- 'append(s, x)': x has just been laid in a block of its own. -/
theorem wpList_appN {P : Program} {ops : Array Oper} {rest : List Oper} {o : Oper} {a : Act} {Q : Exit → Act → World → Prop} (hgd : o.guard = none) (s x : Operand) (t : TypeId)
    (ho : o.op = .call { callee := .builtin .append, args := #[s, x], argTypes := #[t, t] })
    (base : Nat) (e : TypeId) (i : TypeInfo) (zr : Value) (z bytes : Nat) (ht : P.underlying t = some (.slice e)) (hi : P.info? e = some i) (hz : i.zero = some zr) (hzs : zr.cells.size = z)
    (hsize : i.size = z) (hz0 : 0 < z) (hby : i.bytes = bytes) (hb100 : bytes ≤ 100)
    (v : Value) (n : Nat) (l news : List Value) (w : World) (hown : w.ownsRow base e z v n l) (hs : a.eval s = v) (cs : Array Value) (hcs : cs = news.toArray) (hl : news.length = z) (h1 : ∀ u ∈ news, u.oneCell' = true)
    (hx : a.eval x = .slice (some ⟨w.heap.size, 0, none⟩) 1 1) (hlen : n < 1000000000000) (hbase : base ≤ w.heap.size)
    (h : ∀ v' w', w'.ownsRow base e z v' (n + 1) (l ++ news) → Below base w w' → w.heap.size < w'.heap.size → wpList P ops Q rest (a.put o.dst v') w') :
    wpList P ops Q (o :: rest) a (w.alloc (.cells cs e)) := by
  subst hcs
  refine wpList_append_own (w.alloc (.cells news.toArray e)) hgd s x t ho base e i zr z bytes ht hi hz hsize hby hzs hz0 v n _ hs (World.ownsRow.alloc hown _) ⟨w.heap.size, 0, none⟩ 1 1 news hx (by rw [hl]; omega) ?_ h1 ?_ ?_ ?_ ?_
  · intro j u hj
    have e0 : (⟨w.heap.size, 0, none⟩ : Addr).add j = ⟨w.heap.size, j, none⟩ := by
      unfold Addr.add; split <;> simp_all
    rw [e0, World.cell?_alloc_at _ _ _ _ rfl]
    simpa using hj
  · unfold maxLen; omega
  · have : (n + 1) * bytes ≤ 1000000000000 * 100 := Nat.mul_le_mul (by omega) hb100
    omega
  · simp; omega
  · intro v' w' hown' hgrow _
    refine h v' w' hown' ?_ ?_
    · exact ((Below.refl base w).alloc hbase _).grown hgrow (by simp; omega) (fun j hj => (World.ownsRow.lt hown j hj).1)
    · have := hgrow.size; simp at this; omega
end Go.Proofs.YtbnddpicpomakaaGreatDoor
