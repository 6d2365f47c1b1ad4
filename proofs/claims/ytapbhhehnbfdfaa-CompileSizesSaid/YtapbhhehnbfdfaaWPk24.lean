/- Several texts of one proof, one behind the other. -/
import Derived.Test.YtapbhhehnbfdfaaWPk23
import Derived.Great.BuildSlice
set_option linter.unusedSimpArgs false
set_option linter.unusedVariables false

/- law 24's small and great; the row of parts that Steps' closure grows. -/
set_option linter.unusedSimpArgs false
set_option linter.unusedVariables false
set_option maxRecDepth 100000
namespace Go.Proofs.Ytapbhhehnbfdfaa
open Go.RowKit

def smallZ (n : Int) : Bool := decide (-10000 < n) && decide (n < 10000)
/-- Is a node too much for a statement? -/
def great24 (x : Nx) : Bool := decide (200 < min x.count 3000) || greatN 24 x
theorem great24_count {x : Nx} (h : great24 x = false) : x.count ≤ 200 := by
  unfold great24 at h
  simp only [Bool.or_eq_false_iff, decide_eq_false_iff_not] at h
  omega
/-- The parts of conditions under way: the variable in block G holds the row; what the parts' arguments are lies below G. -/
structure PartsIn (G : Nat) (W : World) (n : Nat) (cv : Value) (L : List NM) : Prop where
  var : Blk W G 24 #[cv]
  row : W.ownsRow (G + 1) 26 8 cv L.length (cellsOf cellsNd L)
  kids : ∀ y ∈ L, NdAt G W n y
theorem PartsIn.lt {G : Nat} {W : World} {n : Nat} {cv : Value} {L : List NM} (h : PartsIn G W n cv L) : G < W.heap.size := h.var.lt
theorem PartsIn.keep {G : Nat} {W W' : World} {n : Nat} {cv : Value} {L : List NM} (h : PartsIn G W n cv L) (hb : Below W.heap.size W W') : PartsIn G W' n cv L :=
  ⟨(hb.block G h.lt).trans h.var, own_below h.row (Nat.le_refl _) hb, fun y hy => (h.kids y hy).below (hb.mono (Nat.le_of_lt h.lt))⟩
/-- What taking parts comes to. -/
structure Prt (G : Nat) (W : World) (n : Nat) (cv : Value) (L : List NM) (p : List Nx) (W' : World) (cv' : Value) (L' : List NM) : Prop where
  inn : PartsIn G W' n cv' L'
  list : L'.map (·.t) = L.map (·.t) ++ p
  chg : Chg (G :: cv.ownBlock.toList) W W'
  own : cv'.ownBlock = cv.ownBlock ∨ ∀ g, cv'.ownBlock = some g → W.heap.size ≤ g
def RetPrt (G : Nat) (W : World) (n : Nat) (cv : Value) (L : List NM) (p : List Nx) (e : Ending) (W' : World) : Prop :=
  e = .returned (.tuple #[]) ∧ ∃ cv' L', Prt G W n cv L p W' cv' L'
theorem below_chgN {w w' : World} {S : List Nat} (h : Below w.heap.size w w') : Chg S w w' := ⟨h.os, h.tape, h.output, h.size, fun k hk _ => h.block k hk⟩
theorem Prt.none {G : Nat} {W W' : World} {n : Nat} {cv : Value} {L : List NM} (h : PartsIn G W n cv L) (hb : Below W.heap.size W W') : Prt G W n cv L [] W' cv L :=
  ⟨h.keep hb, by simp, below_chgN hb, .inl rfl⟩
theorem Prt.trans {G : Nat} {W W1 W2 : World} {n : Nat} {cv cv1 cv2 : Value} {L L1 L2 : List NM} {p q : List Nx} (h : Prt G W n cv L p W1 cv1 L1) (k : Prt G W1 n cv1 L1 q W2 cv2 L2) : Prt G W n cv L (p ++ q) W2 cv2 L2 := by
  refine ⟨k.inn, by rw [k.list, h.list, List.append_assoc], h.chg.trans' ?_ k.chg, ?_⟩
  · intro b hb
    rcases List.mem_cons.1 hb with rfl | hb
    · exact .inl (by simp)
    · rw [Option.mem_toList] at hb
      rcases h.own with ho | ho
      · rw [ho] at hb; exact .inl (by simp [hb])
      · exact .inr (ho b hb)
  · have hs := h.chg.size
    rcases k.own with ko | ko
    · rw [ko]; exact h.own
    · exact .inr fun g hg => by have := ko g hg; omega
theorem Prt.len {G : Nat} {W W' : World} {n : Nat} {cv cv' : Value} {L L' : List NM} {p : List Nx} (h : Prt G W n cv L p W' cv' L') : L'.length = L.length + p.length := by
  have := congrArg List.length h.list
  simpa using this
theorem Prt.keepB {G : Nat} {W W' : World} {n : Nat} {cv cv' : Value} {L L' : List NM} {p : List Nx} (h : Prt G W n cv L p W' cv' L') {b : Nat} (hb : b < W.heap.size) (h1 : b ≠ G) (h2 : cv.ownBlock ≠ some b) : W'.heap[b]? = W.heap[b]? :=
  h.chg.block b hb (fun hm => by rcases List.mem_cons.1 hm with hm | hm; exact h1 hm; rw [Option.mem_toList] at hm; exact h2 hm)
theorem chg_below {G : Nat} {W W' : World} {n : Nat} {cv : Value} {L : List NM} (hP : PartsIn G W n cv L) (h : Chg (G :: cv.ownBlock.toList) W W') : Below G W W' :=
  h.below (Nat.le_of_lt hP.lt) (fun k hk => by
    rcases List.mem_cons.1 hk with hk | hk
    · omega
    · rw [Option.mem_toList] at hk; have := (hP.row.lt k hk).1; omega)
theorem Prt.below {G : Nat} {W W' : World} {n : Nat} {cv cv' : Value} {L L' : List NM} {p : List Nx} (h : Prt G W n cv L p W' cv' L') (hP : PartsIn G W n cv L) : Below G W W' := chg_below hP h.chg

theorem part_end {G : Nat} {W w5 W6 : World} {n g : Nat} {cv v5 : Value} {L : List NM} {y : NM} (hP : PartsIn G W n cv L) (hc5 : Chg cv.ownBlock.toList W w5) (hf5 : v5.ownBlock = cv.ownBlock ∨ ∀ q, v5.ownBlock = some q → W.heap.size ≤ q)
    (hy : NdAt G W n y) (hvg : v5.ownBlock = some g) (hc6 : Chg [G, g] w5 W6) (hvar : Blk W6 G 24 #[v5]) (hr : W6.ownsRow (G + 1) 26 8 v5 (L.length + 1) (cellsOf cellsNd L ++ cellsNd y)) :
    Prt G W n cv L [y.t] W6 v5 (L ++ [y]) := by
  have hchg : Chg (G :: cv.ownBlock.toList) W W6 := by
    refine (hc5.sub (fun k hk => List.mem_cons_of_mem _ hk)).trans' ?_ hc6
    intro b hb
    rcases List.mem_cons.1 hb with rfl | hb
    · exact .inl (by simp)
    · rw [List.mem_singleton.1 hb]
      rcases hf5 with hf | hf
      · rw [hf] at hvg; exact .inl (by simp [hvg])
      · exact .inr (hf g hvg)
  have hbel := chg_below hP hchg
  refine ⟨⟨hvar, ?_, fun z hz => ?_⟩, by simp, hchg, hf5⟩
  · rw [List.length_append]; exact (cellsOf_snoc cellsNd L y).symm ▸ hr
  · rcases List.mem_append.1 hz with hz | hz
    · exact (hP.kids z hz).below hbel
    · rw [List.mem_singleton.1 hz]; exact hy.below hbel

theorem one_Nd (z : NM) : ∀ u ∈ cellsNd z, u.oneCell' = true := by
  intro u hu; simp [cellsNd, cellsR, NLb.cells] at hu; rcases hu with rfl | rfl | rfl | rfl | rfl | rfl | rfl | rfl <;> rfl
abbrev zeroNd : List Value := [.int .i64 0, .string ⟨#[]⟩, .int .u8 0, .int .i64 0, .string ⟨#[]⟩, .int .i64 0, .int .u8 0, .slice none 0 0]
theorem one_ZN : ∀ u ∈ zeroNd, u.oneCell' = true := by
  intro u hu; simp only [List.mem_cons, List.not_mem_nil, or_false] at hu; rcases hu with rfl | rfl | rfl | rfl | rfl | rfl | rfl | rfl <;> rfl
theorem info_slN : (Try.prog.info? 24).map (·.size) = some 1 := by kernel_rfl

/-- Both orders of the two stores at the end. -/
theorem part_both {G : Nat} {W wa w5 : World} {n k : Nat} {cv v5 : Value} {ac : Option Addr} {cc : Nat} {S : List Nat} {L : List NM} {y : NM} (hP : PartsIn G W n cv L) (hcv : cv = .slice ac k cc) (hS : cv.ownBlock.toList = S) (hLk : L.length = k) (hWa : Below W.heap.size W wa) (hy : NdAt G W n y)
    (hown5 : w5.ownsRow (G + 1) 26 8 v5 (k + 1) (cellsOf cellsNd L ++ zeroNd)) (hc5 : Chg S wa w5) (hf5 : v5.ownBlock = (Value.slice ac k cc).ownBlock ∨ ∀ g, v5.ownBlock = some g → wa.heap.size ≤ g) :
    ∃ g cap R, v5 = .slice (some ⟨g, 0, none⟩) (k + 1) cap ∧ G < g ∧ k + 1 ≤ cap ∧
      (∀ V : World, V.heap[g]? = w5.heap[g]? → (storeVar 26 ⟨g, k * 8, none⟩ (.agg #[.int .i64 y.t.lab.kd, .string y.t.lab.op, .int .u8 y.t.lab.v.k, .int .i64 y.t.lab.v.n, .string y.t.lab.v.s, .int .i64 y.t.lab.sl, .int .u8 (y.t.lab.ty : Int), .slice y.a y.t.args.length y.cap])).run Try.prog V = .ok () (V.setRow g R)) ∧
      (∀ V : World, V.heap[G]? = w5.heap[G]? → (storeVar 24 ⟨G, 0, none⟩ v5).run Try.prog V = .ok () (V.setRow G #[v5])) ∧
      Prt G W n cv L [y.t] ((w5.setRow g R).setRow G #[v5]) v5 (L ++ [y]) ∧ Prt G W n cv L [y.t] ((w5.setRow G #[v5]).setRow g R) v5 (L ++ [y]) := by
  subst hS
  have hG := hP.lt
  have hsa := hWa.size
  have hll : (cellsOf cellsNd L).length = k * 8 := by rw [cellsOf_len cellsNd 8 cellsNd_len, hLk]
  obtain ⟨g, cap, R, rfl, hg1, hg2, hcap, hcm, hput, -⟩ := own_put (P := Try.prog) hown5 hll rfl (cellsNd y).toArray rfl info_ndS (by simpa using one_Nd y)
  have hGS : G ∉ cv.ownBlock.toList := fun hm => by rw [Option.mem_toList] at hm; have := (hP.row.lt G hm).1; omega
  have hvar5 : Blk w5 G 24 #[cv] := (hc5.block G (by omega) hGS).trans ((hP.keep hWa).var)
  have hcW : Chg cv.ownBlock.toList W w5 := (below_chgN hWa).trans hc5
  have hf : (Value.slice (some ⟨g, 0, none⟩) (k + 1) cap).ownBlock = cv.ownBlock ∨ ∀ q, (Value.slice (some ⟨g, 0, none⟩) (k + 1) cap).ownBlock = some q → W.heap.size ≤ q := by
    rw [hcv]
    rcases hf5 with h | h
    · exact .inl h
    · exact .inr fun q hq => by have := h q hq; omega
  have hr : ∀ V : World, V.heap[g]? = w5.heap[g]? → (V.setRow g R).ownsRow (G + 1) 26 8 (.slice (some ⟨g, 0, none⟩) (k + 1) cap) (L.length + 1) (cellsOf cellsNd L ++ cellsNd y) := fun V hV => by
    have := (hput V hV).2
    rw [hLk]; simpa using this
  have hvb : ∀ V : World, V.heap[G]? = w5.heap[G]? → V.heap[G]? = some (.cells #[cv] 24 (0, 0)) := fun V hV => hV.trans hvar5
  refine ⟨g, cap, R, rfl, by omega, hcap, fun V hV => (hput V hV).1, fun V hV => run_storeVar_one V G _ _ cv _ (hvb V hV) info_slN rfl, ?_, ?_⟩
  · refine part_end hP hcW hf hy rfl (((Chg.refl _ _).setRow (.inl (by simp)) _).setRow (.inl (by simp)) _) (Blk.setRow (old := #[cv]) (hvb _ (setRow_other w5 g G _ (by omega)))) ?_
    exact own_keep (hr w5 rfl) fun q hq => by
      have : q = g := by simpa [Value.ownBlock] using hq.symm
      subst this
      exact setRow_other _ G q _ (by omega)
  · refine part_end hP hcW hf hy rfl (((Chg.refl _ _).setRow (.inl (by simp)) _).setRow (.inl (by simp)) _) ?_ (hr _ (setRow_other w5 G g _ (by omega)))
    exact (setRow_other _ g G _ (by omega)).trans (Blk.setRow (old := #[cv]) (hvb w5 rfl))
end Go.Proofs.Ytapbhhehnbfdfaa

/- Steps' closure that appends a part; plan.eachPart at it. -/
set_option linter.unusedSimpArgs false
set_option linter.unusedVariables false
set_option maxRecDepth 100000
namespace Go.Proofs.Ytapbhhehnbfdfaa
open Go.RowKit

end Go.Proofs.Ytapbhhehnbfdfaa

/- plan.eachPart at Steps' closure. -/
set_option linter.unusedSimpArgs false
set_option linter.unusedVariables false
set_option maxRecDepth 100000
namespace Go.Proofs.Ytapbhhehnbfdfaa
open Go.RowKit

def isAnd (x : Nx) : Bool := binN x [97, 110, 100]
/-- The parts of a node. -/
def partN : Nx → List Nx
  | .mk l args => if isAnd (.mk l args) = true then args.attach.flatMap fun x => partN x.1 else [.mk l args]
termination_by e => SizeOf.sizeOf e
decreasing_by exact Rose.size_arg x.2
theorem partN_eq (x : Nx) : partN x = if isAnd x = true then x.args.flatMap partN else [x] := by
  obtain ⟨l, args⟩ := x
  rw [partN, Rose.args]
  split
  · rw [List.flatMap_def, List.flatMap_def, List.attach_map_val (f := partN)]
  · rfl
theorem partN_len (x : Nx) : (partN x).length ≤ x.count := by
  induction x using Rose.ind with
  | h l args ih =>
    have h0 := (Rose.mk l args).count_pos
    rw [partN_eq]
    split
    · rw [Rose.count_eq]
      have h2 : (args.flatMap partN).length ≤ (args.map Rose.count).sum := by
        rename_i hh
        clear h0 hh
        induction args with
        | nil => simp
        | cons y r ih2 =>
          have := ih y List.mem_cons_self
          have := ih2 (fun z hz => ih z (List.mem_cons_of_mem _ hz))
          simp only [List.flatMap_cons, List.length_append, List.map_cons, List.sum_cons]; omega
      show (args.flatMap partN).length ≤ 1 + (args.map Rose.count).sum
      omega
    · simpa using h0
theorem partT_len (l : List Nx) (k : Nat) : ((l.take k).flatMap partN).length ≤ ((l.take k).map Rose.count).sum := by
  generalize l.take k = q
  induction q with
  | nil => simp
  | cons y r ih =>
    have := partN_len y
    simp only [List.flatMap_cons, List.length_append, List.map_cons, List.sum_cons]; omega

end Go.Proofs.Ytapbhhehnbfdfaa

/- plan.Table.hasPaths. -/
set_option linter.unusedSimpArgs false
set_option linter.unusedVariables false
set_option maxRecDepth 100000
namespace Go.Proofs.Ytapbhhehnbfdfaa
open Go.RowKit

/-- A table of a query, and how it lies in memory. -/
structure PTb where
  fr : Int
  co : Int
  key : List Int
  idx : List Int
  now : Bool
structure PTm where
  t : PTb
  ka : Option Addr
  kc : Nat
  ia : Option Addr
  ic : Nat
abbrev PTm.cells (x : PTm) : List Value := [.int .i64 x.t.fr, .int .i64 x.t.co, .slice x.ka x.t.key.length x.kc, .slice x.ia x.t.idx.length x.ic, .bool x.t.now]
structure PTAt (N : Nat) (W : World) (x : PTm) : Prop where
  k : Arr N W x.ka (rowZ x.t.key)
  kl : x.t.key.length ≤ x.kc
  kc : x.kc ≤ 9223372036854775807
  i : Arr N W x.ia (rowZ x.t.idx)
  il : x.t.idx.length ≤ x.ic
  ic : x.ic ≤ 9223372036854775807
/-- Is a place no column of a table? -/
def lackZ (co s : Int) : Bool := decide (s < 0) || decide (co ≤ s)

/-- May rows of a table be found by its key or by an index? -/
def pathsZ (t : PTb) : Bool := t.now && decide (0 < t.key.length) && !t.key.any (lackZ t.co) && !t.idx.any (lackZ t.co)

end Go.Proofs.Ytapbhhehnbfdfaa

/- slices.Clone of nodes; an element of a row of one's own stored anew. -/
set_option linter.unusedSimpArgs false
set_option linter.unusedVariables false
set_option maxRecDepth 100000
namespace Go.Proofs.Ytapbhhehnbfdfaa
open Go.RowKit

def cellsNs (l : List NM) : List Value := cellsOf cellsNd l
theorem cellsNs_len (l : List NM) : (cellsNs l).length = l.length * 8 := cellsOf_len _ 8 cellsNd_len l
theorem one_Ns (l : List NM) : ∀ u ∈ cellsNs l, u.oneCell' = true := by
  intro u hu
  unfold cellsNs cellsOf at hu
  obtain ⟨c, _, hc⟩ := List.mem_flatMap.1 hu
  exact one_Nd c u hc

set_option maxRecDepth 100000 in
set_option maxHeartbeats 1000000 in
theorem cloneNs_any (l : List NM) (a : Option Addr) (n cap : Nat) (w : World) (hV : Arr w.heap.size w a (cellsNs l)) (hn : n = l.length) (hmax : n ≤ 1000000000) :
    Calls Try.prog 27 #[.slice a n cap] w (RetOwn w 26 8 (cellsNs l) n) := by
  obtain ⟨i0, hi, hz0, hz1, hz2⟩ := info_parts info_nd
  have q22 : ∀ (w : World) (a : Option Addr) (n c : Nat), (binOp .eql 24 (.slice a n c) (.slice none 0 0)).run Try.prog w = .ok (.bool a.isNone) w := fun w a n c => by simp [binOp, run_equal_slice_nil w _ _ a n c Try.underlying24]
  have HV := Lib.hid hV
  have hlen : (cellsNs l).length = n * 8 := by rw [cellsNs_len, hn]
  have HN := Lib.hid hlen
  have HO := Lib.hid (one_Ns l)
  cases a with
  | none =>
    have hvs : cellsNs l = [] := by
      rcases hV with h | ⟨b, o, h, _⟩
      · exact h
      · cases h
    have hn0 : n = 0 := by rw [hvs] at hlen; simp at hlen; omega
    subst hn0
    have HE : Hid (RetOwn w 26 8 (cellsNs l) 0 (.returned (.slice none 0 0)) w) := ⟨_, rfl, by rw [hvs]; exact World.ownsRow_nil _ _ _ _, Below.refl _ _⟩
    clear hV hlen hvs hn
    go_enter Try.func27, Try.ntmps27
    go_wp2
    go_ret
    exact HE.out
  | some ad =>
    have HB : Hid (Below w.heap.size w (w.alloc (.cells #[] 26))) := Below.box w _
    have HVa : Hid (Arr w.heap.size (w.alloc (.cells #[] 26)) (some ad) (cellsNs l)) := hV.below HB.out
    have hown : (w.alloc (.cells #[] 26)).ownsRow w.heap.size 26 8 (.slice (some ⟨w.heap.size, 0, none⟩) 0 0) 0 [] := ⟨by simp, .inr ⟨w.heap.size, 0, #[], rfl, Nat.le_refl _, heap_alloc_new _ _, by omega, by unfold maxLen; omega, by simp, by simp⟩⟩
    have HOwn := Lib.hid hown
    clear hV hlen hown hn
    go_enter Try.func27, Try.ntmps27
    go_wp2_with (at_builtin; refine wpList_appS rfl _ _ 24 rfl w.heap.size 26 i0 (.agg #[.int .i64 0, .string ⟨#[]⟩, .int .u8 0, .int .i64 0, .string ⟨#[]⟩, .int .i64 0, .int .u8 0, .slice none 0 0]) 8 96 Try.underlying24 hi hz0 rfl hz1 (by omega) hz2 (by omega) (.slice (some ⟨w.heap.size, 0, none⟩) 0 0) 0 [] (w.alloc (.cells #[] 26)) HOwn.out rfl w.heap.size (some ad) n cap (cellsNs l) HVa.out HN.out HO.out rfl (by omega) (by simp) ?_; intro v1 w1 hown1 hc1 hb1; have HO1 := Lib.hid hown1; have HB1 := Lib.hid hb1; clear hown1 hc1 hb1)
    go_ret
    exact ⟨_, rfl, by simpa using HO1.out, HB.out.trans HB1.out⟩

/-- An element of a row of one's own is stored anew. -/
theorem own_set {P : Program} {w : World} {base : Nat} {e : TypeId} {z n k : Nat} {v : Value} {l old r : List Value} (h : w.ownsRow base e z v n (l ++ old ++ r)) (hl : l.length = k * z) (ho : old.length = z) (hk : k < n) (hz : 0 < z) (cs : Array Value) (hc : cs.size = z) (hi : (P.info? e).map (·.size) = some z) (h1 : ∀ u ∈ cs.toList, u.oneCell' = true) :
    ∃ g cap R, v = .slice (some ⟨g, 0, none⟩) n cap ∧ base ≤ g ∧ g < w.heap.size ∧ n ≤ cap ∧
      (∀ W : World, W.heap[g]? = w.heap[g]? → (storeVar e ⟨g, k * z, none⟩ (.agg cs)).run P W = .ok () (W.setRow g R) ∧ (W.setRow g R).ownsRow base e z v n (l ++ cs.toList ++ r)) := by
  obtain ⟨h2, h3⟩ := h
  rcases h3 with ⟨_, h0⟩ | ⟨g, cap, cur, rfl, hg, hh, hnc, hcm, hcs, hcur⟩
  · omega
  · have hglt : g < w.heap.size := (Array.getElem?_eq_some_iff.1 hh).1
    have hkz : k * z + z ≤ n * z := by have := Nat.mul_le_mul_right z (show k + 1 ≤ n from hk); rw [Nat.add_mul] at this; omega
    have hfit : k * z + z ≤ cur.size := by rw [hcs]; have := Nat.mul_le_mul_right z hnc; omega
    have hrl : r.length = n * z - (k * z + z) := by simp only [List.length_append] at h2; omega
    have hlt : cur.toList.take (k * z) = l := by
      have h5 := congrArg (List.take (k * z)) hcur
      rw [List.take_take, Nat.min_eq_left (by omega), List.append_assoc, ← hl, List.take_left] at h5
      rw [← hl]; exact h5
    have hrt : (cur.toList.drop (k * z + z)).take (n * z - (k * z + z)) = r := by
      have h5 := congrArg (List.drop (k * z + z)) hcur
      rw [List.drop_take, List.drop_left' (by rw [List.length_append, hl, ho])] at h5
      exact h5
    refine ⟨g, cap, (cur.toList.take (k * z) ++ cs.toList ++ cur.toList.drop (k * z + cs.size)).toArray, rfl, hg, hglt, hnc, fun W hW => ?_⟩
    have hWg : W.heap[g]? = some (.cells cur e (0, 0)) := hW.trans hh
    refine ⟨run_storeVar_in W g (k * z) e e cur cs hWg (by rw [hi, hc]) (by rw [hc]; exact hfit) h1, ?_, .inr ⟨g, cap, _, rfl, hg, setRow_heap W g cur _ e _ hWg, hnc, hcm, ?_, ?_⟩⟩
    · simp only [List.length_append] at h2 ⊢
      simp only [Array.length_toList]
      omega
    · simp only [List.size_toArray, List.length_append, List.length_take, List.length_drop, Array.length_toList]
      omega
    · rw [hlt, hc, List.toList_toArray]
      have hll : (l ++ cs.toList).length = k * z + z := by rw [List.length_append, hl, Array.length_toList, hc]
      rw [List.take_append, hll, List.take_of_length_le (by rw [hll]; omega), hrt]
end Go.Proofs.Ytapbhhehnbfdfaa
