/- Several texts of one proof, one behind the other. -/
import Derived.Test.YtapbhhehnbfdfaaWPk8
import Derived.Shelf.Lay
import Derived.Shelf.LaySoft
import Derived.Test.YtapbhhehnbfdfaaProg
import Derived.Shelf.Sort.Plain
import Derived.Shelf.Slices.In.SortNone
import Derived.Shelf.Slices.CompactI
import Derived.Sort.OwnSortedInts
import Derived.Sort.Grow
set_option linter.unusedSimpArgs false
set_option linter.unusedVariables false

/- typing.Used: the walks of its closure and of typing.visit at it. -/
set_option linter.unusedSimpArgs false
set_option linter.unusedVariables false
set_option maxRecDepth 100000
namespace Go.Proofs.Ytapbhhehnbfdfaa
open Go.RowKit

/-- The slots of the columns of a node, as visit meets them. -/
def useL (x : Nx) : List Int := if x.lab.kd = 2 then [x.lab.sl] else []
def useN : Nx → List Int
  | .mk l args => useL (.mk l args) ++ args.attach.flatMap fun x => useN x.1
termination_by e => SizeOf.sizeOf e
decreasing_by exact Rose.size_arg x.2
theorem useN_eq (x : Nx) : useN x = useL x ++ x.args.flatMap useN := by
  obtain ⟨l, args⟩ := x
  rw [useN, Rose.args]
  congr 1
  rw [List.flatMap_def, List.flatMap_def, List.attach_map_val (f := useN)]
theorem useL_len (x : Nx) : (useL x).length ≤ 1 := by unfold useL; split <;> simp
theorem useN_len (x : Nx) : (useN x).length ≤ x.count := by
  induction x using Rose.ind with
  | h l args ih =>
    rw [useN_eq, Rose.count_eq, List.length_append]
    have h1 := useL_len (Rose.mk l args)
    have h2 : (args.flatMap useN).length ≤ (args.map Rose.count).sum := by
      clear h1
      induction args with
      | nil => simp
      | cons y r ih2 =>
        have := ih y List.mem_cons_self
        have := ih2 (fun z hz => ih z (List.mem_cons_of_mem _ hz))
        simp only [List.flatMap_cons, List.length_append, List.map_cons, List.sum_cons]; omega
    show _ + (args.flatMap useN).length ≤ 1 + (args.map Rose.count).sum
    omega
theorem useT_len (l : List Nx) (k : Nat) : ((l.take k).flatMap useN).length ≤ ((l.take k).map Rose.count).sum := by
  generalize l.take k = q
  induction q with
  | nil => simp
  | cons y r ih =>
    have := useN_len y
    simp only [List.flatMap_cons, List.length_append, List.map_cons, List.sum_cons]; omega

theorem own_blk {w : World} {base : Nat} {e : TypeId} {z n : Nat} {v : Value} {xs : List Value} (h : w.ownsRow base e z v n xs) {g : Nat} (hg : v.ownBlock = some g) : base ≤ g ∧ ∃ cur, Blk w g e cur := by
  rcases h.2 with ⟨rfl, _⟩ | ⟨g', cap, cur, rfl, hb, hh, _⟩
  · simp [Value.ownBlock] at hg
  · have : g' = g := by simpa [Value.ownBlock] using hg
    subst this
    exact ⟨hb, cur, hh⟩

abbrev rowZ (l : List Int) : List Value := l.map fun (c : Int) => Value.int .i64 c
/-- Using is under way: the variable in block G holds the row. -/
structure UseIn (G : Nat) (W : World) (cv : Value) (L : List Int) : Prop where
  var : Blk W G 84 #[cv]
  row : W.ownsRow (G + 1) 3 1 cv L.length (rowZ L)
theorem UseIn.lt {G : Nat} {W : World} {cv : Value} {L : List Int} (h : UseIn G W cv L) : G < W.heap.size := h.var.lt
theorem UseIn.keep {G : Nat} {W W' : World} {cv : Value} {L : List Int} (h : UseIn G W cv L) (hb : Below W.heap.size W W') : UseIn G W' cv L :=
  ⟨(hb.block G h.lt).trans h.var, own_below h.row (Nat.le_refl _) hb⟩
/-- What using comes to. -/
structure UseOut (G : Nat) (W : World) (L p : List Int) (W' : World) (cv' : Value) : Prop where
  inn : UseIn G W' cv' (L ++ p)
  bel : Below G W W'
  keep : ∀ (b : Nat) (T : TypeId) (cs : Array Value), G < b → T ≠ 3 → Blk W b T cs → Blk W' b T cs
def RetUse (G : Nat) (W : World) (L p : List Int) (e : Ending) (W' : World) : Prop := e = .returned (.tuple #[]) ∧ ∃ cv', UseOut G W L p W' cv'
theorem UseOut.none {G : Nat} {W W' : World} {cv : Value} {L : List Int} (h : UseIn G W cv L) (hb : Below W.heap.size W W') : UseOut G W L [] W' cv :=
  ⟨by rw [List.append_nil]; exact h.keep hb, hb.mono (Nat.le_of_lt h.lt), fun b T cs _ _ hB => (hb.block b hB.lt).trans hB⟩
theorem UseOut.trans {G : Nat} {W W1 W2 : World} {cv1 cv2 : Value} {L p q : List Int} (h : UseOut G W L p W1 cv1) (k : UseOut G W1 (L ++ p) q W2 cv2) : UseOut G W L (p ++ q) W2 cv2 :=
  ⟨by rw [← List.append_assoc]; exact k.inn, h.bel.trans k.bel, fun b T cs hb hT hB => k.keep b T cs hb hT (h.keep b T cs hb hT hB)⟩

theorem info_intZ : (Try.prog.info? 3).map (fun i => (i.zero, i.size, i.bytes)) = some (some (.int .i64 0), 1, 8) := by kernel_rfl

/-- The end of the closure: the row has grown and is stored. -/
theorem use_end {G : Nat} {W w0 w5 : World} {cv : Value} {L : List Int} {s : Int} {a5 : Option Addr} {c5 k : Nat} (hP : UseIn G W cv L) (hk : L.length = k) (h0 : Below W.heap.size W w0)
    (hown : w5.ownsRow (G + 1) 3 1 (.slice a5 (k + 1) c5) (k + 1) (rowZ L ++ [.int .i64 s])) (hc : Chg cv.ownBlock.toList w0 w5) :
    UseOut G W L [s] (w5.setCell ⟨G, 0, none⟩ (.slice a5 (k + 1) c5)) (.slice a5 (k + 1) c5) := by
  have hG := hP.lt
  have hs0 := h0.size
  have hnb : ∀ b T cs, T ≠ 3 → Blk W b T cs → b ∉ cv.ownBlock.toList := fun b T cs hT hB hm => by
    rw [Option.mem_toList] at hm
    obtain ⟨_, cur, hcur⟩ := own_blk hP.row hm
    exact hB.ne_ hcur hT rfl
  have hv5 : Blk w5 G 84 #[cv] := (hc.block G (by omega) (hnb G _ _ (by decide) hP.var)).trans ((h0.block G hG).trans hP.var)
  refine ⟨⟨hv5.set_ 0 _, ?_⟩, ?_, fun b T cs hb hT hB => ?_⟩
  · have hl : (L ++ [s]).length = k + 1 := by simp [hk]
    rw [hl]
    have e : rowZ (L ++ [s]) = rowZ L ++ [.int .i64 s] := by simp [rowZ]
    rw [e]
    exact own_keep hown fun g hg => Below.heap_setCell w5 ⟨G, 0, none⟩ _ g (by have := (own_blk hown hg).1; show g ≠ G; omega)
  · have h1 : Below G w0 w5 := hc.below (by omega) (fun g hg => by rw [Option.mem_toList] at hg; have := (own_blk hP.row hg).1; omega)
    exact ((h0.mono (Nat.le_of_lt hG)).trans h1).setCell (p := ⟨G, 0, none⟩) (Nat.le_refl G) _
  · have h5 : Blk w5 b T cs := (hc.block b (by have := hB.lt; omega) (hnb b T cs hT hB)).trans ((h0.block b hB.lt).trans hB)
    exact h5.far (by omega) _

theorem use_pre {G : Nat} {W w0 w5 : World} {cv v5 : Value} {L : List Int} {s : Int} {ac : Option Addr} {cc k : Nat} (hP : UseIn G W cv L) (hk : L.length = k) (h0 : Below W.heap.size W w0) (hcv : cv = .slice ac k cc)
    (hown : w5.ownsRow (G + 1) 3 1 v5 (k + 1) (rowZ L ++ [.int .i64 s])) (hc : Chg (Value.slice ac k cc).ownBlock.toList w0 w5) :
    ∃ a5 c5, v5 = .slice a5 (k + 1) c5 ∧ w5.cell? ⟨G, 0, none⟩ = some (.slice ac k cc) ∧ w5.frozen? ⟨G, 0, none⟩ = false ∧ UseOut G W L [s] (w5.setCell ⟨G, 0, none⟩ (.slice a5 (k + 1) c5)) (.slice a5 (k + 1) c5) := by
  obtain ⟨a5, c5, rfl, -, -, -⟩ := own_slice hown
  subst hcv
  have hG := hP.lt
  have hs0 := h0.size
  have hv5 : Blk w5 G 84 #[.slice ac k cc] := (hc.block G (by omega) (fun hm => by rw [Option.mem_toList] at hm; have := (own_blk hP.row hm).1; omega)).trans ((h0.block G hG).trans hP.var)
  exact ⟨a5, c5, rfl, (hv5.cell 0).trans rfl, hv5.frozen 0, use_end hP hk h0 hown hc⟩

end Go.Proofs.Ytapbhhehnbfdfaa

/- Contracts of Go's library, laid at this program. -/

/- slices.Sort and slices.Compact at a row of integers of the call's own; typing.Used. -/
set_option linter.unusedSimpArgs false
set_option linter.unusedVariables false
set_option maxRecDepth 100000
namespace Go.Proofs.Ytapbhhehnbfdfaa
open Go.RowKit Go.Sort

def sortZ (l : List Int) : List Int := l.mergeSort fun x y => decide (x ≤ y)
theorem sortZ_len (l : List Int) : (sortZ l).length = l.length := List.length_mergeSort l

theorem compact_le (l : List Int) : (Lib.compact l).length ≤ l.length := by
  unfold Lib.compact Lib.compactUpTo
  rw [List.length_map]
  exact Nat.le_trans (List.length_filter_le _ _) (by simp)
theorem own_basP {w : World} {base b0 : Nat} {e : TypeId} {z n : Nat} {v : Value} {xs : List Value} (h : w.ownsRow base e z v n xs) (hb : b0 ≤ base) : w.ownsRow b0 e z v n xs := by
  obtain ⟨h1, h2⟩ := h
  rcases h2 with h2 | ⟨g, cap, cur, hv, hg, r⟩
  · exact ⟨h1, .inl h2⟩
  · exact ⟨h1, .inr ⟨g, cap, cur, hv, by omega, r⟩⟩
theorem own_cut {w : World} {base : Nat} {e : TypeId} {n k cap : Nat} {a : Option Addr} {xs : List Value} (h : w.ownsRow base e 1 (.slice a n cap) n xs) (hk : k ≤ n) (ha : a ≠ none) : w.ownsRow base e 1 (.slice a k cap) k (xs.take k) := by
  obtain ⟨h1, h2⟩ := h
  rcases h2 with ⟨hv, hn⟩ | ⟨g, cap', cur, hv, hg, hh, hnc, hcm, hcs, hcur⟩
  · injection hv with h3; exact absurd h3 ha
  · injection hv with e1 e2 e3
    subst e1 e3
    refine ⟨by rw [List.length_take, h1]; omega, .inr ⟨g, cap, cur, rfl, hg, hh, by omega, hcm, hcs, ?_⟩⟩
    rw [← hcur, List.take_take]; congr 1; omega

/-- The slots that a node uses, in order. -/
def usedZ (x : Nx) : List Int := Lib.compact (sortZ (useN x))
/-- What Used hands back. -/
def RetUsed (W : World) (x : Nx) (e : Ending) (W' : World) : Prop := ∃ v, e = .returned v ∧ W'.ownsRow W.heap.size 3 1 v (usedZ x).length (rowZ (usedZ x)) ∧ Below W.heap.size W W'

end Go.Proofs.Ytapbhhehnbfdfaa

/- The walks of plan.isSafeBinary, isSafe, Safe (layer 24). -/
set_option linter.unusedSimpArgs false
set_option linter.unusedVariables false
set_option maxRecDepth 100000
namespace Go.Proofs.Ytapbhhehnbfdfaa
open Go.RowKit

def bs (l : List UInt8) : ByteArray := ⟨l.toArray⟩
theorem bs_eq (s : ByteArray) (l : List UInt8) : (s.toList == l) = decide (s = bs l) := by
  rw [Bool.eq_iff_iff, beq_iff_eq, decide_eq_true_eq]
  constructor
  · intro h
    have h2 : s.toList = (bs l).toList := by rw [h, ByteArray.toList_eq]; simp [bs]
    rw [ByteArray.toList_eq, ByteArray.toList_eq] at h2
    exact ByteArray.ext (Array.toList_inj.1 h2)
  · rintro rfl
    rw [ByteArray.toList_eq]; simp [bs]
def safeOps : List (List UInt8) := [[111, 114], [97, 110, 100], [61], [60, 62], [60], [60, 61], [62], [62, 61]]
def isSafeB (s : ByteArray) : Bool := safeOps.any fun l => s.toList == l

/-- Is a node safe, if its arguments are? -/
def isSafeN (l : NLb) (n : Nat) : Bool :=
  if l.kd = 1 ∨ l.kd = 2 then true
  else if l.kd = 3 then (l.op.toList == [110, 111, 116]) && decide (n = 1)
  else if l.kd = 5 then ((l.op.toList == [105, 115, 32, 110, 117, 108, 108]) || (l.op.toList == [105, 115, 32, 110, 111, 116, 32, 110, 117, 108, 108])) && decide (n = 1)
  else if l.kd = 4 then isSafeB l.op && decide (n = 2)
  else false

/-- Is a node safe? -/
def safeN (x : Nx) : Bool := Rose.allB isSafeN x
theorem safeN_eq (x : Nx) : safeN x = (isSafeN x.lab x.args.length && x.args.all safeN) := by
  unfold safeN
  rw [Rose.allB_eq]
end Go.Proofs.Ytapbhhehnbfdfaa

/- plan.isBelow, plan.isBinary; law 24's great and small. -/
set_option linter.unusedSimpArgs false
set_option linter.unusedVariables false
set_option maxRecDepth 100000
namespace Go.Proofs.Ytapbhhehnbfdfaa
open Go.RowKit

/-- Does a node use slots below f alone? -/
def lowZ (f : Int) (x : Nx) : Bool := !(usedZ x).any fun s => decide (f ≤ s)
/-- Is a node this operation of two arguments? -/
def binN (x : Nx) (op : List UInt8) : Bool := decide (x.lab.kd = 4) && (x.lab.op.toList == op) && decide (x.args.length = 2)
end Go.Proofs.Ytapbhhehnbfdfaa
