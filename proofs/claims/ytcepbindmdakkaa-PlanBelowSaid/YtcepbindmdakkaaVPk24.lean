/- Several texts of one proof, one behind the other. -/
import Derived.Test.YtcepbindmdakkaaVPk23
import Derived.Great.BuildSlice
set_option linter.unusedSimpArgs false
set_option linter.unusedVariables false

/- law 24's small and great; the row of parts that Steps' closure grows. -/
set_option linter.unusedSimpArgs false
set_option linter.unusedVariables false
set_option maxRecDepth 100000
namespace Go.Proofs.Ytcepbindmdakkaa
open Go.RowKit

def smallZ (n : Int) : Bool := decide (-10000 < n) && decide (n < 10000)
theorem small24_any (n : Int) (W : World) : Calls Try.prog 6 #[.int .i64 n] W fun e w' => e = .returned (.bool (smallZ n)) ∧ w' = W := by
  obtain ⟨b, hb⟩ : ∃ b, decide (-10000 < n) = b := ⟨_, rfl⟩
  have HV : Hid (smallZ n = (b && decide (n < 10000))) := by unfold smallZ; rw [hb]; exact rfl
  cases b
  all_goals
    go_enter Try.func6, Try.ntmps6
    go_wp2
    go_ret
    exact ⟨ret_b (by rw [HV.out]; rfl), rfl⟩

/-- Is a node too much for a statement? -/
def great24 (x : Nx) : Bool := decide (200 < min x.count 3000) || greatN 24 x
theorem great24_count {x : Nx} (h : great24 x = false) : x.count ≤ 200 := by
  unfold great24 at h
  simp only [Bool.or_eq_false_iff, decide_eq_false_iff_not] at h
  omega
set_option maxHeartbeats 2000000 in
theorem great24_any (n : Nat) (x : NM) (W : World) (h : NdAt W.heap.size W n x) :
    Calls Try.prog 7 #[x.nv] W fun e w' => e = .returned (.bool (great24 x.t)) ∧ Below W.heap.size W w' := by
  rw [NM.nv_eq]
  have HX := Lib.hid (Slot8.new W 36 (.int .i64 x.t.lab.kd) (.string x.t.lab.op) (.int .u8 x.t.lab.v.k) (.int .i64 x.t.lab.v.n) (.string x.t.lab.v.s) (.int .i64 x.t.lab.sl) (.int .u8 (x.t.lab.ty : Int)) (.slice x.a x.t.args.length x.cap))
  obtain ⟨w0, hw0⟩ : ∃ w0, W.alloc (.cells #[.int .i64 x.t.lab.kd, .string x.t.lab.op, .int .u8 x.t.lab.v.k, .int .i64 x.t.lab.v.n, .string x.t.lab.v.s, .int .i64 x.t.lab.sl, .int .u8 (x.t.lab.ty : Int), .slice x.a x.t.args.length x.cap] 36) = w0 := ⟨_, rfl⟩
  have HB0 : Hid (Below W.heap.size W w0) := by rw [← hw0]; exact (Below.refl _ W).alloc (Nat.le_refl _) _
  have hs0 : w0.heap.size = W.heap.size + 1 := by rw [← hw0]; simp
  rw [hw0] at HX
  have HZ := Lib.hid hs0
  have HC := Lib.hid (nCnt_any n x w0 0 (h.later HB0.out) (by omega))
  have HG := Lib.hid (fun V (hb : Below W.heap.size W V) => nGreat_any n x V 24 (h.later hb) (by omega))
  rw [NM.nv_eq] at HC HG
  obtain ⟨c, hc⟩ : ∃ c, min (0 + x.t.count) 3000 = c := ⟨_, rfl⟩
  obtain ⟨g, hg⟩ : ∃ g, greatN 24 x.t = g := ⟨_, rfl⟩
  obtain ⟨b, hb⟩ : ∃ b, decide (200 < c) = b := ⟨_, rfl⟩
  have HV : Hid (great24 x.t = (b || g)) := by unfold great24; rw [hg, ← hb, ← hc, Nat.zero_add]; exact rfl
  have q1 : decide ((200 : Int) < (c : Int)) = b := by rw [← hb, Bool.eq_iff_iff]; simp; omega
  rw [hc] at HC
  rw [hg] at HG
  clear hc hg hs0 h
  obtain ⟨x0, x1, x2, x3, x4, x5, x6, x7⟩ := HX.out
  cases b
  · have q2 : ¬ (200 < c) := by simpa using hb
    go_enter Try.func7, Try.ntmps7
    go_wp2_with fail
    refine HC.out.mono ?_
    rintro e w1 ⟨rfl, hb1⟩
    obtain ⟨y0, y1, y2, y3, y4, y5, y6, y7⟩ := HX.out.later (by have := HZ.out; omega) hb1
    have HB1 := Lib.hid (HB0.out.trans (hb1.mono HB0.out.size))
    clear HC hb1 x0 x1 x2 x3 x4 x5 x6 x7
    go_wp2_with fail
    refine (HG.out _ HB1.out).mono ?_
    rintro e w2 ⟨rfl, hb2⟩
    have HB2 := Lib.hid (HB1.out.trans (hb2.mono HB1.out.size))
    clear HG hb2 y0 y1 y2 y3 y4 y5 y6 y7
    go_wp2
    go_ret
    exact ⟨ret_b (by rw [HV.out]; rfl), HB2.out⟩
  · have q2 : 200 < c := by simpa using hb
    go_enter Try.func7, Try.ntmps7
    go_wp2_with fail
    refine HC.out.mono ?_
    rintro e w1 ⟨rfl, hb1⟩
    have HB1 := Lib.hid (HB0.out.trans (hb1.mono HB0.out.size))
    clear HC hb1 x0 x1 x2 x3 x4 x5 x6 x7
    go_wp2
    go_ret
    exact ⟨ret_b (by rw [HV.out]; rfl), HB1.out⟩

/-- The parts of conditions under way: the variable in block G holds the row; what the parts' arguments are lies below G. -/
structure PartsIn (G : Nat) (W : World) (n : Nat) (cv : Value) (L : List NM) : Prop where
  var : Blk W G 23 #[cv]
  row : W.ownsRow (G + 1) 36 8 cv L.length (cellsOf cellsNd L)
  kids : ∀ y ∈ L, NdAt G W n y
theorem PartsIn.lt {G : Nat} {W : World} {n : Nat} {cv : Value} {L : List NM} (h : PartsIn G W n cv L) : G < W.heap.size := h.var.lt
theorem PartsIn.keep {G : Nat} {W W' : World} {n : Nat} {cv : Value} {L : List NM} (h : PartsIn G W n cv L) (hb : Below W.heap.size W W') : PartsIn G W' n cv L :=
  ⟨(hb.block G h.lt).trans h.var, own_below h.row (Nat.le_refl _) hb, fun y hy => (h.kids y hy).below (hb.mono (Nat.le_of_lt h.lt))⟩
/-- What taking parts comes to. -/
structure Prt (G : Nat) (W : World) (n : Nat) (cv : Value) (L : List NM) (p : List Nx) (W' : World) (cv' : Value) (L' : List NM) : Prop where
  inn : PartsIn G W' n cv' L'
  list : L'.map (·.t) = L.map (·.t) ++ p
  chg : Chg (G :: cv.ownBlock.toList) W W'
  own : cv'.ownBlock = cv.ownBlock ∨ ∀ g, cv'.ownBlock = some g → W.heap.size ≤ g
def RetPrt (G : Nat) (W : World) (n : Nat) (cv : Value) (L : List NM) (p : List Nx) (e : Ending) (W' : World) : Prop :=
  e = .returned (.tuple #[]) ∧ ∃ cv' L', Prt G W n cv L p W' cv' L'
theorem below_chgN {w w' : World} {S : List Nat} (h : Below w.heap.size w w') : Chg S w w' := ⟨h.os, h.tape, h.output, h.size, fun k hk _ => h.block k hk⟩
theorem Prt.none {G : Nat} {W W' : World} {n : Nat} {cv : Value} {L : List NM} (h : PartsIn G W n cv L) (hb : Below W.heap.size W W') : Prt G W n cv L [] W' cv L :=
  ⟨h.keep hb, by simp, below_chgN hb, .inl rfl⟩
theorem Prt.trans {G : Nat} {W W1 W2 : World} {n : Nat} {cv cv1 cv2 : Value} {L L1 L2 : List NM} {p q : List Nx} (h : Prt G W n cv L p W1 cv1 L1) (k : Prt G W1 n cv1 L1 q W2 cv2 L2) : Prt G W n cv L (p ++ q) W2 cv2 L2 := by
  refine ⟨k.inn, by rw [k.list, h.list, List.append_assoc], h.chg.trans' ?_ k.chg, ?_⟩
  · intro b hb
    rcases List.mem_cons.1 hb with rfl | hb
    · exact .inl (by simp)
    · rw [Option.mem_toList] at hb
      rcases h.own with ho | ho
      · rw [ho] at hb; exact .inl (by simp [hb])
      · exact .inr (ho b hb)
  · have hs := h.chg.size
    rcases k.own with ko | ko
    · rw [ko]; exact h.own
    · exact .inr fun g hg => by have := ko g hg; omega
theorem Prt.len {G : Nat} {W W' : World} {n : Nat} {cv cv' : Value} {L L' : List NM} {p : List Nx} (h : Prt G W n cv L p W' cv' L') : L'.length = L.length + p.length := by
  have := congrArg List.length h.list
  simpa using this
theorem Prt.keepB {G : Nat} {W W' : World} {n : Nat} {cv cv' : Value} {L L' : List NM} {p : List Nx} (h : Prt G W n cv L p W' cv' L') {b : Nat} (hb : b < W.heap.size) (h1 : b ≠ G) (h2 : cv.ownBlock ≠ some b) : W'.heap[b]? = W.heap[b]? :=
  h.chg.block b hb (fun hm => by rcases List.mem_cons.1 hm with hm | hm; exact h1 hm; rw [Option.mem_toList] at hm; exact h2 hm)
theorem chg_below {G : Nat} {W W' : World} {n : Nat} {cv : Value} {L : List NM} (hP : PartsIn G W n cv L) (h : Chg (G :: cv.ownBlock.toList) W W') : Below G W W' :=
  h.below (Nat.le_of_lt hP.lt) (fun k hk => by
    rcases List.mem_cons.1 hk with hk | hk
    · omega
    · rw [Option.mem_toList] at hk; have := (hP.row.lt k hk).1; omega)
theorem Prt.below {G : Nat} {W W' : World} {n : Nat} {cv cv' : Value} {L L' : List NM} {p : List Nx} (h : Prt G W n cv L p W' cv' L') (hP : PartsIn G W n cv L) : Below G W W' := chg_below hP h.chg

theorem part_end {G : Nat} {W w5 W6 : World} {n g : Nat} {cv v5 : Value} {L : List NM} {y : NM} (hP : PartsIn G W n cv L) (hc5 : Chg cv.ownBlock.toList W w5) (hf5 : v5.ownBlock = cv.ownBlock ∨ ∀ q, v5.ownBlock = some q → W.heap.size ≤ q)
    (hy : NdAt G W n y) (hvg : v5.ownBlock = some g) (hc6 : Chg [G, g] w5 W6) (hvar : Blk W6 G 23 #[v5]) (hr : W6.ownsRow (G + 1) 36 8 v5 (L.length + 1) (cellsOf cellsNd L ++ cellsNd y)) :
    Prt G W n cv L [y.t] W6 v5 (L ++ [y]) := by
  have hchg : Chg (G :: cv.ownBlock.toList) W W6 := by
    refine (hc5.sub (fun k hk => List.mem_cons_of_mem _ hk)).trans' ?_ hc6
    intro b hb
    rcases List.mem_cons.1 hb with rfl | hb
    · exact .inl (by simp)
    · rw [List.mem_singleton.1 hb]
      rcases hf5 with hf | hf
      · rw [hf] at hvg; exact .inl (by simp [hvg])
      · exact .inr (hf g hvg)
  have hbel := chg_below hP hchg
  refine ⟨⟨hvar, ?_, fun z hz => ?_⟩, by simp, hchg, hf5⟩
  · rw [List.length_append]; exact (cellsOf_snoc cellsNd L y).symm ▸ hr
  · rcases List.mem_append.1 hz with hz | hz
    · exact (hP.kids z hz).below hbel
    · rw [List.mem_singleton.1 hz]; exact hy.below hbel

theorem one_Nd (z : NM) : ∀ u ∈ cellsNd z, u.oneCell' = true := by
  intro u hu; simp [cellsNd, cellsR, NLb.cells] at hu; rcases hu with rfl | rfl | rfl | rfl | rfl | rfl | rfl | rfl <;> rfl
abbrev zeroNd : List Value := [.int .i64 0, .string ⟨#[]⟩, .int .u8 0, .int .i64 0, .string ⟨#[]⟩, .int .i64 0, .int .u8 0, .slice none 0 0]
theorem one_ZN : ∀ u ∈ zeroNd, u.oneCell' = true := by
  intro u hu; simp only [List.mem_cons, List.not_mem_nil, or_false] at hu; rcases hu with rfl | rfl | rfl | rfl | rfl | rfl | rfl | rfl <;> rfl
theorem info_slN : (Try.prog.info? 23).map (·.size) = some 1 := by kernel_rfl

/-- Both orders of the two stores at the end. -/
theorem part_both {G : Nat} {W wa w5 : World} {n k : Nat} {cv v5 : Value} {ac : Option Addr} {cc : Nat} {S : List Nat} {L : List NM} {y : NM} (hP : PartsIn G W n cv L) (hcv : cv = .slice ac k cc) (hS : cv.ownBlock.toList = S) (hLk : L.length = k) (hWa : Below W.heap.size W wa) (hy : NdAt G W n y)
    (hown5 : w5.ownsRow (G + 1) 36 8 v5 (k + 1) (cellsOf cellsNd L ++ zeroNd)) (hc5 : Chg S wa w5) (hf5 : v5.ownBlock = (Value.slice ac k cc).ownBlock ∨ ∀ g, v5.ownBlock = some g → wa.heap.size ≤ g) :
    ∃ g cap R, v5 = .slice (some ⟨g, 0, none⟩) (k + 1) cap ∧ G < g ∧ k + 1 ≤ cap ∧
      (∀ V : World, V.heap[g]? = w5.heap[g]? → (storeVar 36 ⟨g, k * 8, none⟩ (.agg #[.int .i64 y.t.lab.kd, .string y.t.lab.op, .int .u8 y.t.lab.v.k, .int .i64 y.t.lab.v.n, .string y.t.lab.v.s, .int .i64 y.t.lab.sl, .int .u8 (y.t.lab.ty : Int), .slice y.a y.t.args.length y.cap])).run Try.prog V = .ok () (V.setRow g R)) ∧
      (∀ V : World, V.heap[G]? = w5.heap[G]? → (storeVar 23 ⟨G, 0, none⟩ v5).run Try.prog V = .ok () (V.setRow G #[v5])) ∧
      Prt G W n cv L [y.t] ((w5.setRow g R).setRow G #[v5]) v5 (L ++ [y]) ∧ Prt G W n cv L [y.t] ((w5.setRow G #[v5]).setRow g R) v5 (L ++ [y]) := by
  subst hS
  have hG := hP.lt
  have hsa := hWa.size
  have hll : (cellsOf cellsNd L).length = k * 8 := by rw [cellsOf_len cellsNd 8 cellsNd_len, hLk]
  obtain ⟨g, cap, R, rfl, hg1, hg2, hcap, hcm, hput, -⟩ := own_put (P := Try.prog) hown5 hll rfl (cellsNd y).toArray rfl info_ndS (by simpa using one_Nd y)
  have hGS : G ∉ cv.ownBlock.toList := fun hm => by rw [Option.mem_toList] at hm; have := (hP.row.lt G hm).1; omega
  have hvar5 : Blk w5 G 23 #[cv] := (hc5.block G (by omega) hGS).trans ((hP.keep hWa).var)
  have hcW : Chg cv.ownBlock.toList W w5 := (below_chgN hWa).trans hc5
  have hf : (Value.slice (some ⟨g, 0, none⟩) (k + 1) cap).ownBlock = cv.ownBlock ∨ ∀ q, (Value.slice (some ⟨g, 0, none⟩) (k + 1) cap).ownBlock = some q → W.heap.size ≤ q := by
    rw [hcv]
    rcases hf5 with h | h
    · exact .inl h
    · exact .inr fun q hq => by have := h q hq; omega
  have hr : ∀ V : World, V.heap[g]? = w5.heap[g]? → (V.setRow g R).ownsRow (G + 1) 36 8 (.slice (some ⟨g, 0, none⟩) (k + 1) cap) (L.length + 1) (cellsOf cellsNd L ++ cellsNd y) := fun V hV => by
    have := (hput V hV).2
    rw [hLk]; simpa using this
  have hvb : ∀ V : World, V.heap[G]? = w5.heap[G]? → V.heap[G]? = some (.cells #[cv] 23 (0, 0)) := fun V hV => hV.trans hvar5
  refine ⟨g, cap, R, rfl, by omega, hcap, fun V hV => (hput V hV).1, fun V hV => run_storeVar_one V G _ _ cv _ (hvb V hV) info_slN rfl, ?_, ?_⟩
  · refine part_end hP hcW hf hy rfl (((Chg.refl _ _).setRow (.inl (by simp)) _).setRow (.inl (by simp)) _) (Blk.setRow (old := #[cv]) (hvb _ (setRow_other w5 g G _ (by omega)))) ?_
    exact own_keep (hr w5 rfl) fun q hq => by
      have : q = g := by simpa [Value.ownBlock] using hq.symm
      subst this
      exact setRow_other _ G q _ (by omega)
  · refine part_end hP hcW hf hy rfl (((Chg.refl _ _).setRow (.inl (by simp)) _).setRow (.inl (by simp)) _) ?_ (hr _ (setRow_other w5 G g _ (by omega)))
    exact (setRow_other _ g G _ (by omega)).trans (Blk.setRow (old := #[cv]) (hvb w5 rfl))
end Go.Proofs.Ytcepbindmdakkaa

/- Steps' closure that appends a part; plan.eachPart at it. -/
set_option linter.unusedSimpArgs false
set_option linter.unusedVariables false
set_option maxRecDepth 100000
namespace Go.Proofs.Ytcepbindmdakkaa
open Go.RowKit

set_option maxHeartbeats 8000000 in
theorem partDo_any (G n : Nat) (x : NM) (W : World) (cv : Value) (L : List NM) (hP : PartsIn G W n cv L) (h : NdAt G W n x) (hL : L.length ≤ 1000000) :
    Calls Try.prog 18 #[.agg #[.int .i64 x.t.lab.kd, .string x.t.lab.op, .int .u8 x.t.lab.v.k, .int .i64 x.t.lab.v.n, .string x.t.lab.v.s, .int .i64 x.t.lab.sl, .int .u8 (x.t.lab.ty : Int), .slice x.a x.t.args.length x.cap], .pointer (some ⟨G, 0, none⟩)] W (RetPrt G W n cv L [x.t]) := by
  have HP := Lib.hid hP
  have HX := Lib.hid (Slot8.new W 36 (.int .i64 x.t.lab.kd) (.string x.t.lab.op) (.int .u8 x.t.lab.v.k) (.int .i64 x.t.lab.v.n) (.string x.t.lab.v.s) (.int .i64 x.t.lab.sl) (.int .u8 (x.t.lab.ty : Int)) (.slice x.a x.t.args.length x.cap))
  obtain ⟨w0, hw0⟩ : ∃ w0, W.alloc (.cells #[.int .i64 x.t.lab.kd, .string x.t.lab.op, .int .u8 x.t.lab.v.k, .int .i64 x.t.lab.v.n, .string x.t.lab.v.s, .int .i64 x.t.lab.sl, .int .u8 (x.t.lab.ty : Int), .slice x.a x.t.args.length x.cap] 36) = w0 := ⟨_, rfl⟩
  have HB0 : Hid (Below W.heap.size W w0) := by rw [← hw0]; exact (Below.refl _ W).alloc (Nat.le_refl _) _
  have hs0 : w0.heap.size = W.heap.size + 1 := by rw [← hw0]; simp
  rw [hw0] at HX
  obtain ⟨i0, hi, hz0, hz1, hz2⟩ := info_parts info_nd
  have HRow : Hid (W.ownsRow (G + 1) 36 8 cv L.length (cellsOf cellsNd L)) := hP.row
  have hGlt := hP.lt
  have HGl := Lib.hid hGlt
  obtain ⟨k, hk5⟩ : ∃ k, L.length = k := ⟨_, rfl⟩
  have HLk := Lib.hid hk5
  rw [hk5] at HRow hL
  obtain ⟨ac, cc, hcv, hcc, -, -⟩ := own_slice HRow.out
  have HCv := Lib.hid hcv
  obtain ⟨S, hS⟩ : ∃ S, cv.ownBlock.toList = S := ⟨_, rfl⟩
  have hGS : G ∉ cv.ownBlock.toList := fun hm => by rw [Option.mem_toList] at hm; have := (hP.row.lt G hm).1; omega
  have hBS : W.heap.size ∉ cv.ownBlock.toList := fun hm => by rw [Option.mem_toList] at hm; have := own_lt hP.row hm; omega
  rw [hS] at hGS hBS
  have HSv : Hid ((Value.slice ac k cc).ownBlock.toList = S) := by rw [← hcv]; exact hS
  have HSS := Lib.hid hS
  have HNx := Lib.hid h
  have l0 : ∀ V, Chg S w0.drew V → V.cell? ⟨G, 0, none⟩ = some (.slice ac k cc) := fun V hV => by rw [← HCv.out]; exact (hV.cell (b := G) (by show G < w0.heap.size; omega) hGS).trans (((HP.out.keep HB0.out).var.cell 0).trans rfl)
  have b0 : ∀ V, Chg S w0.drew V → V.cell? ⟨W.heap.size, 0, none⟩ = some (.int .i64 x.t.lab.kd) := fun V hV => (hV.cell (b := W.heap.size) (by show W.heap.size < w0.heap.size; omega) hBS).trans HX.out.c0
  have b1 : ∀ V, Chg S w0.drew V → V.cell? ⟨W.heap.size, 1, none⟩ = some (.string x.t.lab.op) := fun V hV => (hV.cell (b := W.heap.size) (by show W.heap.size < w0.heap.size; omega) hBS).trans HX.out.c1
  have b2 : ∀ V, Chg S w0.drew V → V.cell? ⟨W.heap.size, 2, none⟩ = some (.int .u8 x.t.lab.v.k) := fun V hV => (hV.cell (b := W.heap.size) (by show W.heap.size < w0.heap.size; omega) hBS).trans HX.out.c2
  have b3 : ∀ V, Chg S w0.drew V → V.cell? ⟨W.heap.size, 3, none⟩ = some (.int .i64 x.t.lab.v.n) := fun V hV => (hV.cell (b := W.heap.size) (by show W.heap.size < w0.heap.size; omega) hBS).trans HX.out.c3
  have b4 : ∀ V, Chg S w0.drew V → V.cell? ⟨W.heap.size, 4, none⟩ = some (.string x.t.lab.v.s) := fun V hV => (hV.cell (b := W.heap.size) (by show W.heap.size < w0.heap.size; omega) hBS).trans HX.out.c4
  have b5 : ∀ V, Chg S w0.drew V → V.cell? ⟨W.heap.size, 5, none⟩ = some (.int .i64 x.t.lab.sl) := fun V hV => (hV.cell (b := W.heap.size) (by show W.heap.size < w0.heap.size; omega) hBS).trans HX.out.c5
  have b6 : ∀ V, Chg S w0.drew V → V.cell? ⟨W.heap.size, 6, none⟩ = some (.int .u8 (x.t.lab.ty : Int)) := fun V hV => (hV.cell (b := W.heap.size) (by show W.heap.size < w0.heap.size; omega) hBS).trans HX.out.c6
  have b7 : ∀ V, Chg S w0.drew V → V.cell? ⟨W.heap.size, 7, none⟩ = some (.slice x.a x.t.args.length x.cap) := fun V hV => (hV.cell (b := W.heap.size) (by show W.heap.size < w0.heap.size; omega) hBS).trans HX.out.c7
  have HSz := Lib.hid hs0
  clear hP h hGlt hGS hBS hk5 hs0 hcv hS
  go_enter Try.func18, Try.ntmps18
  go_wp2_with fail
  refine wp_region_tail (S) [5,6,7] (.free 0 (.free 1 (.free 2 (.one 3 (.one 4 (.lasts 5 7 (.lasts 6 7 (.last 7 (.nil)) (.last 6 (.nil))) (.last 5 (.last 6 (.nil))))))))) (by kernel_rfl) (by kernel_rfl) (by kernel_rfl) (by kernel_rfl) ?_
  repeat (first | ((refine wpL_F rfl (by rfl) (fun w' hL => exec_load rfl rfl (l0 w' hL)) ?_); try simp only [Act.put, List.setIfInBounds_toArray, List.set_cons_zero, List.set_cons_succ]) | (refine wpL_F (v := ?_) rfl (by rfl) (fun w' hL => ?_) ?_; rotate_left; (solve | (go_simp; with_reducible rfl) | go_simp); try simp only [Act.put, List.setIfInBounds_toArray, List.set_cons_zero, List.set_cons_succ]) | (refine wpL_G rfl (by rfl) ?_; try simp only [Act.put, List.setIfInBounds_toArray, List.set_cons_zero, List.set_cons_succ]))
  refine wpL_C rfl (by rfl) ?_
  go_simp
  refine ⟨(Chg.refl _ _).alloc _, ?_⟩
  try simp only [Act.put, List.setIfInBounds_toArray, List.set_cons_zero, List.set_cons_succ]
  obtain ⟨wa, hwa⟩ : ∃ wa, (w0.alloc (.cells #[.int .i64 0, .string ⟨#[]⟩, .int .u8 0, .int .i64 0, .string ⟨#[]⟩, .int .i64 0, .int .u8 0, .slice none 0 0] 36)).drew = wa := ⟨_, rfl⟩
  try rw [hwa]
  have hWa : Below W.heap.size W wa := by rw [← hwa]; exact (HB0.out.alloc HB0.out.size _).drew
  have hbk : ∀ (j : Nat) u, zeroNd[j]? = some u → wa.cell? ⟨w0.heap.size, j, none⟩ = some u := fun j u hu => by
    rw [← hwa]
    show (w0.alloc _).cell? _ = _
    rw [World.cell?_alloc_at _ _ _ _ rfl]; simpa using hu
  have hrow1 : wa.ownsRow (G + 1) 36 8 (.slice ac k cc) k (cellsOf cellsNd L) := by rw [← HCv.out]; exact own_below HRow.out (Nat.le_refl _) hWa
  refine wpL_C rfl (by rfl) ?_
  refine wp_appG (.tmp 3) (.tmp 6) 23 rfl (G + 1) 36 i0 (.agg #[.int .i64 0, .string ⟨#[]⟩, .int .u8 0, .int .i64 0, .string ⟨#[]⟩, .int .i64 0, .int .u8 0, .slice none 0 0]) 8 96 1 Try.underlying23 hi hz0 rfl hz1 (by omega) hz2 (by omega) (.slice ac k cc) k _ zeroNd wa hrow1 rfl (w0.heap.size) 1 hbk rfl one_ZN rfl (by omega) (by have := HGl.out; have := hWa.size; omega) ?_
  intro v5 w5 hown5 hc5 hf5
  rw [HSv.out] at hc5
  refine ⟨hc5, ?_⟩
  try simp only [Act.put, List.setIfInBounds_toArray, List.set_cons_zero, List.set_cons_succ]
  have hPick := part_both HP.out HCv.out HSS.out HLk.out hWa HNx.out hown5 hc5 hf5
  obtain ⟨g, cap, R, hv5, hGg, hcap, hstore, hvar, hA, hB⟩ := hPick
  subst hv5
  have HA := Lib.hid hA
  have HB := Lib.hid hB
  have HS1 := Lib.hid (hstore w5 rfl)
  have HS2 := Lib.hid (hstore (w5.setRow G #[.slice (some ⟨g, 0, none⟩) (k + 1) cap]) (setRow_other w5 G g _ (by omega)))
  have HV1 := Lib.hid (hvar w5 rfl)
  have HV2 := Lib.hid (hvar (w5.setRow g R) (setRow_other w5 g G _ (by omega)))
  clear hbk hWa hrow1 hown5 hc5 hf5 hstore hvar hA hB l0 b0 b1 b2 b3 b4 b5 b6 b7
  refine wpL_lasts ?_ ?_
  · refine wpL_X rfl (by rfl) ?_
    refine wp_val (v := .pointer (some ⟨g, k * 8, none⟩)) (by go_simp; rw [if_pos (by omega)]) ?_
    try simp only [Act.put, List.setIfInBounds_toArray, List.set_cons_zero, List.set_cons_succ]
    refine wpL_lasts ?_ ?_
    · refine wpL_X rfl (by rfl) ?_
      refine wp_skp (exec_store rfl rfl rfl HS1.out) ?_
      try simp only [Act.put, List.setIfInBounds_toArray, List.set_cons_zero, List.set_cons_succ]
      refine wpL_X rfl (by rfl) ?_
      refine wp_skp (exec_store rfl rfl rfl HV2.out) ?_
      try simp only [Act.put, List.setIfInBounds_toArray, List.set_cons_zero, List.set_cons_succ]
      refine wpL_nil ?_
      try go_simp
      try simp only [NoPanic]
      try go_wp2
      exact bodyPost_ret (v := .tuple #[]) (by simp [results, Try.results18, go_sem]) rfl ⟨rfl, _, _, HA.out⟩
    · refine wpL_X rfl (by rfl) ?_
      refine wp_skp (exec_store rfl rfl rfl HV1.out) ?_
      try simp only [Act.put, List.setIfInBounds_toArray, List.set_cons_zero, List.set_cons_succ]
      refine wpL_X rfl (by rfl) ?_
      refine wp_skp (exec_store rfl rfl rfl HS2.out) ?_
      try simp only [Act.put, List.setIfInBounds_toArray, List.set_cons_zero, List.set_cons_succ]
      refine wpL_nil ?_
      try go_simp
      try simp only [NoPanic]
      try go_wp2
      exact bodyPost_ret (v := .tuple #[]) (by simp [results, Try.results18, go_sem]) rfl ⟨rfl, _, _, HB.out⟩
  · refine wpL_X rfl (by rfl) ?_
    refine wp_skp (exec_store rfl rfl rfl HV1.out) ?_
    try simp only [Act.put, List.setIfInBounds_toArray, List.set_cons_zero, List.set_cons_succ]
    refine wpL_X rfl (by rfl) ?_
    refine wp_val (v := .pointer (some ⟨g, k * 8, none⟩)) (by go_simp; rw [if_pos (by omega)]) ?_
    try simp only [Act.put, List.setIfInBounds_toArray, List.set_cons_zero, List.set_cons_succ]
    refine wpL_X rfl (by rfl) ?_
    refine wp_skp (exec_store rfl rfl rfl HS2.out) ?_
    try simp only [Act.put, List.setIfInBounds_toArray, List.set_cons_zero, List.set_cons_succ]
    refine wpL_nil ?_
    try go_simp
    try simp only [NoPanic]
    try go_wp2
    exact bodyPost_ret (v := .tuple #[]) (by simp [results, Try.results18, go_sem]) rfl ⟨rfl, _, _, HB.out⟩
end Go.Proofs.Ytcepbindmdakkaa

/- plan.eachPart at Steps' closure. -/
set_option linter.unusedSimpArgs false
set_option linter.unusedVariables false
set_option maxRecDepth 100000
namespace Go.Proofs.Ytcepbindmdakkaa
open Go.RowKit

def isAnd (x : Nx) : Bool := binN x [97, 110, 100]
/-- The parts of a node. -/
def partN : Nx → List Nx
  | .mk l args => if isAnd (.mk l args) = true then args.attach.flatMap fun x => partN x.1 else [.mk l args]
termination_by e => SizeOf.sizeOf e
decreasing_by exact Rose.size_arg x.2
theorem partN_eq (x : Nx) : partN x = if isAnd x = true then x.args.flatMap partN else [x] := by
  obtain ⟨l, args⟩ := x
  rw [partN, Rose.args]
  split
  · rw [List.flatMap_def, List.flatMap_def, List.attach_map_val (f := partN)]
  · rfl
theorem partN_len (x : Nx) : (partN x).length ≤ x.count := by
  induction x using Rose.ind with
  | h l args ih =>
    have h0 := (Rose.mk l args).count_pos
    rw [partN_eq]
    split
    · rw [Rose.count_eq]
      have h2 : (args.flatMap partN).length ≤ (args.map Rose.count).sum := by
        rename_i hh
        clear h0 hh
        induction args with
        | nil => simp
        | cons y r ih2 =>
          have := ih y List.mem_cons_self
          have := ih2 (fun z hz => ih z (List.mem_cons_of_mem _ hz))
          simp only [List.flatMap_cons, List.length_append, List.map_cons, List.sum_cons]; omega
      show (args.flatMap partN).length ≤ 1 + (args.map Rose.count).sum
      omega
    · simpa using h0
theorem partT_len (l : List Nx) (k : Nat) : ((l.take k).flatMap partN).length ≤ ((l.take k).map Rose.count).sum := by
  generalize l.take k = q
  induction q with
  | nil => simp
  | cons y r ih =>
    have := partN_len y
    simp only [List.flatMap_cons, List.length_append, List.map_cons, List.sum_cons]; omega

set_option maxHeartbeats 4000000 in
theorem eachPart_is (G N : Nat) : ∀ (n : Nat) (x : NM) (W : World) (cv : Value) (L : List NM), n ≤ N → PartsIn G W N cv L → NdAt G W n x → L.length + x.t.count ≤ 1000000 →
    Calls Try.prog 17 #[x.nv, .func (.func 18) #[] #[.pointer (some ⟨G, 0, none⟩)]] W (RetPrt G W N cv L (partN x.t))
  | 0, _, _, _, _, _, _, h, _ => h.elim
  | n + 1, x, W, cv, L, hn, hP, h, hlen => by
    rw [NM.nv_eq]
    have HA := Lib.hid h
    have hax := h.fair.2.1
    have hcx := h.fair.2.2
    have HPk := Lib.hid (partN_eq x.t)
    have hG := hP.lt
    have HGlt := Lib.hid hG
    have HP := Lib.hid hP
    have HLen := Lib.hid hlen
    have HXA : Hid (NdAt G W N x) := RoseAt.ups h hn
    have HDo := Lib.hid (fun V cv' L' hP' hX' hL' => partDo_any G N x V cv' L' hP' hX' hL')
    have HIs := Lib.hid (fun V => pBin_any x ⟨#[97, 110, 100]⟩ V)
    have IH : Hid (∀ (y : NM) (V : World) (cv' : Value) (L' : List NM), PartsIn G V N cv' L' → NdAt G V n y → L'.length + y.t.count ≤ 1000000 → Calls Try.prog 17 #[.agg #[.int .i64 y.t.lab.kd, .string y.t.lab.op, .int .u8 y.t.lab.v.k, .int .i64 y.t.lab.v.n, .string y.t.lab.v.s, .int .i64 y.t.lab.sl, .int .u8 (y.t.lab.ty : Int), .slice y.a y.t.args.length y.cap], .func (.func 18) #[] #[.pointer (some ⟨G, 0, none⟩)]] V (RetPrt G V N cv' L' (partN y.t))) := fun y V cv' L' h1 h2 h3 => by
      have := eachPart_is G N n y V cv' L' (by omega) h1 h2 h3
      rw [NM.nv_eq] at this; exact this
    have HX := Lib.hid (Slot8.new W 36 (.int .i64 x.t.lab.kd) (.string x.t.lab.op) (.int .u8 x.t.lab.v.k) (.int .i64 x.t.lab.v.n) (.string x.t.lab.v.s) (.int .i64 x.t.lab.sl) (.int .u8 (x.t.lab.ty : Int)) (.slice x.a x.t.args.length x.cap))
    obtain ⟨w0, hw0⟩ : ∃ w0, W.alloc (.cells #[.int .i64 x.t.lab.kd, .string x.t.lab.op, .int .u8 x.t.lab.v.k, .int .i64 x.t.lab.v.n, .string x.t.lab.v.s, .int .i64 x.t.lab.sl, .int .u8 (x.t.lab.ty : Int), .slice x.a x.t.args.length x.cap] 36) = w0 := ⟨_, rfl⟩
    have HB0 : Hid (Below W.heap.size W w0) := by rw [← hw0]; exact (Below.refl _ W).alloc (Nat.le_refl _) _
    have hs0 : w0.heap.size = W.heap.size + 1 := by rw [← hw0]; simp
    rw [hw0] at HX
    have HZ := Lib.hid hs0
    have hcvB : cv.ownBlock ≠ some W.heap.size := fun he => by have := own_lt hP.row he; omega
    have HCB := Lib.hid hcvB
    obtain ⟨b, hb⟩ : ∃ b, isAnd x.t = b := ⟨_, rfl⟩
    have HIsB : Hid (binN x.t (ByteArray.mk #[97, 110, 100]).toList = b) := by rw [← hb, isAnd, ByteArray.toList_eq]; exact rfl
    rw [HIsB.out] at HIs
    rw [hb] at HPk
    clear h hP hlen hG hs0 hcvB hb HIsB
    obtain ⟨x0, x1, x2, x3, x4, x5, x6, x7⟩ := HX.out
    cases b with
    | false =>
      go_enter Try.func17, Try.ntmps17
      go_wp2_with fail
      refine (HIs.out _).mono ?_
      rintro e w1 ⟨rfl, hb1⟩
      have HB1 := Lib.hid (HB0.out.trans (hb1.mono HB0.out.size))
      obtain ⟨y0, y1, y2, y3, y4, y5, y6, y7⟩ := HX.out.later (by have := HZ.out; omega) hb1
      have HY := Lib.hid (HDo.out w1 cv L (HP.out.keep HB1.out) (HXA.out.below (HB1.out.mono (Nat.le_of_lt HGlt.out))) (by have := HLen.out; have := x.t.count_pos; omega))
      have HE : Hid (partN x.t = [x.t]) := by rw [HPk.out, if_neg (by simp)]; exact rfl
      clear hb1 HIs HDo x0 x1 x2 x3 x4 x5 x6 x7
      go_wp2_with fail
      refine HY.out.mono ?_
      rintro e w2 ⟨rfl, cv2, L2, hp⟩
      have HR : Hid (Prt G W N cv L (partN x.t) w2 cv2 L2) := by
        have := (Prt.none HP.out HB1.out).trans hp
        rw [HE.out]; exact this
      clear hp HY y0 y1 y2 y3 y4 y5 y6 y7
      go_wp2
      exact bodyPost_ret (v := .tuple #[]) (by simp [results, Try.results17, go_sem]) rfl ⟨rfl, _, _, HR.out⟩
    | true =>
      have HPk : Hid (partN x.t = x.t.args.flatMap partN) := by rw [HPk.out, if_pos rfl]; exact rfl
      clear HDo
      obtain ⟨t, a, cap⟩ := x
      obtain ⟨m, hm⟩ : ∃ m, t.args.length = m := ⟨_, rfl⟩
      have HM := Lib.hid hm
      simp only at hax hcx HA HPk HLen HX HIs x0 x1 x2 x3 x4 x5 x6 x7 hw0 ⊢
      rw [hm] at hax HX HIs x7 hw0 ⊢
      clear hm
      go_enter Try.func17, Try.ntmps17
      go_wp2_with fail
      refine (HIs.out _).mono ?_
      rintro e w1 ⟨rfl, hb1⟩
      have HB1 := Lib.hid (HB0.out.trans (hb1.mono HB0.out.size))
      obtain ⟨y0, y1, y2, y3, y4, y5, y6, y7⟩ := HX.out.later (by have := HZ.out; omega) hb1
      clear hb1 HIs x0 x1 x2 x3 x4 x5 x6 x7
      go_wp2
      clear y0 y1 y2 y3 y4 y5 y6 y7
      go_loopw [15] (fun i wr => ∃ (k : Nat) (cv2 : Value) (L2 : List NM), k ≤ m ∧ i = .int .i64 (k : Int) ∧ Hid (Prt G W N cv L ((t.args.take k).flatMap partN) wr cv2 L2)) (fun i _ => m - (intOf i).toNat)
      case atStart => exact ⟨0, cv, L, by omega, rfl, by simpa [Hid] using Prt.none HP.out HB1.out⟩
      case round =>
        obtain ⟨k, cv2, L2, hk, rfl, HR⟩ := hrel
        by_cases hlt : k < m
        · have hkl : k < t.args.length := by rw [HM.out]; exact hlt
          obtain ⟨y, hy, hAy, b, o, hab, hbN, hKid⟩ := (HA.out.below (HR.out.below HP.out)).kid8 (k := k) hkl
          simp only at hab hy
          subst hab
          obtain ⟨y0, y1, y2, y3, y4, y5, y6, y7⟩ := hKid
          have hb1 : Below wr.heap.size wr (wr.alloc (.cells #[.int .i64 y.t.lab.kd, .string y.t.lab.op, .int .u8 y.t.lab.v.k, .int .i64 y.t.lab.v.n, .string y.t.lab.v.s, .int .i64 y.t.lab.sl, .int .u8 (y.t.lab.ty : Int), .slice y.a y.t.args.length y.cap] 36)) := (Below.refl _ wr).alloc (Nat.le_refl _) _
          have hGr : G ≤ wr.heap.size := Nat.le_of_lt HR.out.inn.lt
          have hcnt : L2.length + y.t.count ≤ 1000000 := by
            have h1 := HR.out.len
            have h3 := partT_len t.args k
            have h4 := HLen.out
            have h5 := sumN_take_succ hkl
            have h6 := sumN_take_le t.args (k + 1)
            have h7 := t.count_eq
            rw [hy]
            omega
          have HTk : Hid ((t.args.take (k + 1)).flatMap partN = (t.args.take k).flatMap partN ++ partN y.t) := by
            rw [List.take_succ_eq_append_getElem hkl, List.flatMap_append, ← hy]; simp [Hid]
          have HY2 := Lib.hid (IH.out y _ cv2 L2 (HR.out.inn.keep hb1) (hAy.below (hb1.mono hGr)) hcnt)
          have HB1' := Lib.hid hb1
          clear hy hAy hb1 hGr hcnt hkl HA IH
          go_wp2_with fail
          refine HY2.out.mono ?_
          rintro e w3 ⟨rfl, cv3, L3, hpk3⟩
          have HN : Hid (Prt G W N cv L ((t.args.take (k + 1)).flatMap partN) w3 cv3 L3) := by
            have := HR.out.trans ((Prt.none HR.out.inn HB1'.out).trans hpk3)
            rw [HTk.out]; exact this
          clear hpk3 HY2 HB1' y0 y1 y2 y3 y4 y5 y6 y7
          go_wp2
          go_roundw
          case rel => exact ⟨k + 1, cv3, L3, by omega, by go_num, HN.out⟩
          case measure => simp [intOf]; omega
        · have HFin : Hid (Prt G W N cv L (partN t) wr cv2 L2) := by
            have := HR.out
            rw [show k = m by omega, ← HM.out, List.take_length] at this
            rw [HPk.out]; exact this
          go_wp2
          exact bodyPost_ret (v := .tuple #[]) (by simp [results, Try.results17, go_sem]) rfl ⟨rfl, cv2, L2, HFin.out⟩
end Go.Proofs.Ytcepbindmdakkaa

/- plan.Table.hasPaths. -/
set_option linter.unusedSimpArgs false
set_option linter.unusedVariables false
set_option maxRecDepth 100000
namespace Go.Proofs.Ytcepbindmdakkaa
open Go.RowKit

/-- A table of a query, and how it lies in memory. -/
structure PTb where
  fr : Int
  co : Int
  key : List Int
  idx : List Int
  now : Bool
structure PTm where
  t : PTb
  ka : Option Addr
  kc : Nat
  ia : Option Addr
  ic : Nat
abbrev PTm.cells (x : PTm) : List Value := [.int .i64 x.t.fr, .int .i64 x.t.co, .slice x.ka x.t.key.length x.kc, .slice x.ia x.t.idx.length x.ic, .bool x.t.now]
structure PTAt (N : Nat) (W : World) (x : PTm) : Prop where
  k : Arr N W x.ka (rowZ x.t.key)
  kl : x.t.key.length ≤ x.kc
  kc : x.kc ≤ 9223372036854775807
  i : Arr N W x.ia (rowZ x.t.idx)
  il : x.t.idx.length ≤ x.ic
  ic : x.ic ≤ 9223372036854775807
/-- Is a place no column of a table? -/
def lackZ (co s : Int) : Bool := decide (s < 0) || decide (co ≤ s)

theorem lackDo_any (s co : Int) (B : Nat) (W : World) (h : W.cell? ⟨B, 1, none⟩ = some (.int .i64 co)) :
    Calls Try.prog 33 #[.int .i64 s, .pointer (some ⟨B, 0, none⟩)] W fun e w' => e = .returned (.bool (lackZ co s)) ∧ w' = W := by
  obtain ⟨b, hb⟩ : ∃ b, decide (s < 0) = b := ⟨_, rfl⟩
  have HV : Hid (lackZ co s = (b || decide (co ≤ s))) := by unfold lackZ; rw [hb]; exact rfl
  cases b
  all_goals
    go_enter Try.func33, Try.ntmps33
    go_wp2
    go_ret
    exact ⟨ret_b (by rw [HV.out]; rfl), rfl⟩

set_option maxHeartbeats 2000000 in
theorem idxL_any (co : Int) (B : Nat) (L : List Int) (a : Option Addr) (m cap : Nat) (w : World) (hA : Arr w.heap.size w a (rowZ L)) (hm : L.length = m) (hcap : m ≤ cap) (hcm : cap ≤ 9223372036854775807) (h : w.cell? ⟨B, 1, none⟩ = some (.int .i64 co)) :
    Calls Try.prog 42 #[.slice a m cap, .func (.func 33) #[] #[.pointer (some ⟨B, 0, none⟩)]] w fun e w' => ∃ r : Int, e = .returned (.int .i64 r) ∧ decide (0 ≤ r) = L.any (fun s => lackZ co s) ∧ w' = w := by
  have HA := Lib.hid hA
  have HCl := Lib.hid (fun s => lackDo_any s co B w h)
  have HM := Lib.hid hm
  clear hA h hm
  go_enter Try.func42, Try.ntmps42
  go_wp2
  go_loopw [8] (fun i wr => ∃ k : Nat, k ≤ m ∧ i = .int .i64 k ∧ Hid ((L.take k).any (fun s => lackZ co s) = false) ∧ wr = w) (fun i _ => m - (intOf i).toNat)
  case atStart => exact ⟨0, by omega, rfl, by simp [Hid], rfl⟩
  case round =>
    obtain ⟨k, hk, rfl, HI, rfl⟩ := hrel
    by_cases hlt : k < m
    · have hkl : k < L.length := by rw [HM.out]; exact hlt
      obtain ⟨s, hs⟩ : ∃ s, L[k] = s := ⟨_, rfl⟩
      rcases HA.out with h0 | ⟨b, o, rfl, hb, hc⟩
      · have : L = [] := by simpa [rowZ] using h0
        rw [this] at hkl; exact absurd hkl (by simp)
      have y0 : wr.cell? ⟨b, o + k, none⟩ = some (.int .i64 s) := hc k _ (by simp [rowZ, List.getElem?_eq_getElem hkl, hs])
      have HTk : Hid ((L.take (k + 1)).any (fun s => lackZ co s) = lackZ co s) := by
        rw [List.take_succ_eq_append_getElem hkl, List.any_append, HI.out, hs]; simp [Hid]
      have HTf : Hid (lackZ co s = true → L.any (fun s => lackZ co s) = true) := fun hf => by
        rw [List.any_eq_true]; exact ⟨_, List.getElem_mem hkl, by rw [hs]; exact hf⟩
      have HY := Lib.hid (HCl.out s)
      generalize lackZ co s = d at *
      clear hs hkl HI HCl HA hc
      go_wp2_with fail
      refine HY.out.mono ?_
      rintro e w2 ⟨rfl, rfl⟩
      clear HY
      cases d with
      | false =>
        go_wp2
        go_roundw
        case rel => exact ⟨k + 1, by omega, by go_num, HTk.out, by first | rfl | trivial⟩
        case measure => simp [intOf]; omega
      | true =>
        go_wp2
        go_ret
        exact ⟨k, rfl, by rw [HTf.out (by trivial)]; simp, rfl⟩
    · have HT : Hid (L.any (fun s => lackZ co s) = false) := by
        have := HI.out
        rwa [show k = m by omega, ← HM.out, List.take_length] at this
      go_wp2
      go_ret
      exact ⟨-1, rfl, by rw [HT.out]; rfl, rfl⟩

theorem conL_any (co : Int) (B : Nat) (L : List Int) (a : Option Addr) (m cap : Nat) (w : World) (hA : Arr w.heap.size w a (rowZ L)) (hm : L.length = m) (hcap : m ≤ cap) (hcm : cap ≤ 9223372036854775807) (h : w.cell? ⟨B, 1, none⟩ = some (.int .i64 co)) :
    Calls Try.prog 34 #[.slice a m cap, .func (.func 33) #[] #[.pointer (some ⟨B, 0, none⟩)]] w fun e w' => e = .returned (.bool (L.any (fun s => lackZ co s))) ∧ w' = w := by
  have HC := Lib.hid (idxL_any co B L a m cap w hA hm hcap hcm h)
  clear hA h hm
  generalize L.any (fun s => lackZ co s) = d at *
  go_enter Try.func34, Try.ntmps34
  go_wp2_with fail
  refine HC.out.mono ?_
  rintro e w1 ⟨r, rfl, hr, rfl⟩
  have HR := Lib.hid hr
  clear hr HC
  go_wp2
  go_ret
  exact ⟨ret_b HR.out, rfl⟩

/-- May rows of a table be found by its key or by an index? -/
def pathsZ (t : PTb) : Bool := t.now && decide (0 < t.key.length) && !t.key.any (lackZ t.co) && !t.idx.any (lackZ t.co)

set_option maxHeartbeats 2000000 in
theorem hasPaths_any (x : PTm) (W : World) (h : PTAt W.heap.size W x) :
    Calls Try.prog 19 #[.agg #[.int .i64 x.t.fr, .int .i64 x.t.co, .slice x.ka x.t.key.length x.kc, .slice x.ia x.t.idx.length x.ic, .bool x.t.now]] W fun e w' => e = .returned (.bool (pathsZ x.t)) ∧ Below W.heap.size W w' := by
  obtain ⟨⟨fr, co, key, idx, now⟩, ka, kc, ia, ic⟩ := x
  obtain ⟨h1, h2, h3, h4, h5, h6⟩ := h
  simp only at h1 h2 h3 h4 h5 h6 ⊢
  obtain ⟨w0, hw0⟩ : ∃ w0, W.alloc (.cells #[.int .i64 fr, .int .i64 co, .slice ka key.length kc, .slice ia idx.length ic, .bool now] 29) = w0 := ⟨_, rfl⟩
  have hV : Blk w0 W.heap.size 29 #[.int .i64 fr, .int .i64 co, .slice ka key.length kc, .slice ia idx.length ic, .bool now] := by rw [← hw0]; exact Blk.new W _ _
  have hb0 : Below W.heap.size W w0 := by rw [← hw0]; exact (Below.refl _ W).alloc (Nat.le_refl _) _
  have HB0 := Lib.hid hb0
  obtain ⟨m, hm⟩ : ∃ m, key.length = m := ⟨_, rfl⟩
  obtain ⟨q, hq⟩ : ∃ q, idx.length = q := ⟨_, rfl⟩
  have c1 : w0.cell? ⟨W.heap.size, 1, none⟩ = some (.int .i64 co) := (hV.cell 1).trans rfl
  have HK := Lib.hid (conL_any co W.heap.size key ka m kc w0 (h1.later (N := 0) hb0) hm (by omega) h3 c1)
  have HI := Lib.hid (conL_any co W.heap.size idx ia q ic w0 (h4.later (N := 0) hb0) hq (by omega) h6 c1)
  rw [hm] at hV hw0 ⊢
  rw [hq] at hV hw0 ⊢
  obtain ⟨d1, hd1⟩ : ∃ d, key.any (lackZ co) = d := ⟨_, rfl⟩
  obtain ⟨d2, hd2⟩ : ∃ d, idx.any (lackZ co) = d := ⟨_, rfl⟩
  obtain ⟨b, hb⟩ : ∃ b, decide (0 < m) = b := ⟨_, rfl⟩
  have HV : Hid (pathsZ ⟨fr, co, key, idx, now⟩ = (now && b && !d1 && !d2)) := by unfold pathsZ; simp only; rw [hd1, hd2, hm, hb]; exact rfl
  have hd1' : key.any (fun s => lackZ co s) = d1 := hd1
  have hd2' : idx.any (fun s => lackZ co s) = d2 := hd2
  rw [hd1'] at HK
  rw [hd2'] at HI
  have q1 : decide ((0 : Int) < (m : Int)) = b := by rw [← hb, Bool.eq_iff_iff]; simp
  have y2 := (hV.cell 2).trans rfl
  have y3 := (hV.cell 3).trans rfl
  have y4 := (hV.cell 4).trans rfl
  clear hV hb0 hm hq h1 h2 h3 h4 h5 h6 hd1 hd2 hd1' hd2' c1
  cases now with
  | false =>
    clear hb q1
    go_enter Try.func19, Try.ntmps19
    go_wp2
    go_ret
    exact ⟨ret_b (by rw [HV.out]; rfl), HB0.out⟩
  | true =>
    cases b with
    | false =>
      have hm0 : ¬ (0 < m) := by simpa using hb
      go_enter Try.func19, Try.ntmps19
      go_wp2
      go_ret
      exact ⟨ret_b (by rw [HV.out]; rfl), HB0.out⟩
    | true =>
      have hm0 : 0 < m := by simpa using hb
      cases d1 with
      | true =>
        go_enter Try.func19, Try.ntmps19
        go_wp2_with fail
        refine HK.out.mono ?_
        rintro e w1 ⟨rfl, rfl⟩
        go_wp2
        go_ret
        exact ⟨ret_b (by rw [HV.out]; rfl), HB0.out⟩
      | false =>
        go_enter Try.func19, Try.ntmps19
        go_wp2_with fail
        refine HK.out.mono ?_
        rintro e w1 ⟨rfl, rfl⟩
        go_wp2_with fail
        refine HI.out.mono ?_
        rintro e w2 ⟨rfl, rfl⟩
        go_wp2
        go_ret
        exact ⟨ret_b (by rw [HV.out]; rfl), HB0.out⟩
end Go.Proofs.Ytcepbindmdakkaa

/- slices.Clone of nodes; an element of a row of one's own stored anew. -/
set_option linter.unusedSimpArgs false
set_option linter.unusedVariables false
set_option maxRecDepth 100000
namespace Go.Proofs.Ytcepbindmdakkaa
open Go.RowKit

def cellsNs (l : List NM) : List Value := cellsOf cellsNd l
theorem cellsNs_len (l : List NM) : (cellsNs l).length = l.length * 8 := cellsOf_len _ 8 cellsNd_len l
theorem one_Ns (l : List NM) : ∀ u ∈ cellsNs l, u.oneCell' = true := by
  intro u hu
  unfold cellsNs cellsOf at hu
  obtain ⟨c, _, hc⟩ := List.mem_flatMap.1 hu
  exact one_Nd c u hc

set_option maxRecDepth 100000 in
set_option maxHeartbeats 1000000 in
theorem cloneNs_any (l : List NM) (a : Option Addr) (n cap : Nat) (w : World) (hV : Arr w.heap.size w a (cellsNs l)) (hn : n = l.length) (hmax : n ≤ 1000000000) :
    Calls Try.prog 65 #[.slice a n cap] w (RetOwn w 36 8 (cellsNs l) n) := by
  obtain ⟨i0, hi, hz0, hz1, hz2⟩ := info_parts info_nd
  have q22 : ∀ (w : World) (a : Option Addr) (n c : Nat), (binOp .eql 23 (.slice a n c) (.slice none 0 0)).run Try.prog w = .ok (.bool a.isNone) w := fun w a n c => by simp [binOp, run_equal_slice_nil w _ _ a n c Try.underlying23]
  have HV := Lib.hid hV
  have hlen : (cellsNs l).length = n * 8 := by rw [cellsNs_len, hn]
  have HN := Lib.hid hlen
  have HO := Lib.hid (one_Ns l)
  cases a with
  | none =>
    have hvs : cellsNs l = [] := by
      rcases hV with h | ⟨b, o, h, _⟩
      · exact h
      · cases h
    have hn0 : n = 0 := by rw [hvs] at hlen; simp at hlen; omega
    subst hn0
    have HE : Hid (RetOwn w 36 8 (cellsNs l) 0 (.returned (.slice none 0 0)) w) := ⟨_, rfl, by rw [hvs]; exact World.ownsRow_nil _ _ _ _, Below.refl _ _⟩
    clear hV hlen hvs hn
    go_enter Try.func65, Try.ntmps65
    go_wp2
    go_ret
    exact HE.out
  | some ad =>
    have HB : Hid (Below w.heap.size w (w.alloc (.cells #[] 36))) := Below.box w _
    have HVa : Hid (Arr w.heap.size (w.alloc (.cells #[] 36)) (some ad) (cellsNs l)) := hV.below HB.out
    have hown : (w.alloc (.cells #[] 36)).ownsRow w.heap.size 36 8 (.slice (some ⟨w.heap.size, 0, none⟩) 0 0) 0 [] := ⟨by simp, .inr ⟨w.heap.size, 0, #[], rfl, Nat.le_refl _, heap_alloc_new _ _, by omega, by unfold maxLen; omega, by simp, by simp⟩⟩
    have HOwn := Lib.hid hown
    clear hV hlen hown hn
    go_enter Try.func65, Try.ntmps65
    go_wp2_with (at_builtin; refine wpList_appS rfl _ _ 23 rfl w.heap.size 36 i0 (.agg #[.int .i64 0, .string ⟨#[]⟩, .int .u8 0, .int .i64 0, .string ⟨#[]⟩, .int .i64 0, .int .u8 0, .slice none 0 0]) 8 96 Try.underlying23 hi hz0 rfl hz1 (by omega) hz2 (by omega) (.slice (some ⟨w.heap.size, 0, none⟩) 0 0) 0 [] (w.alloc (.cells #[] 36)) HOwn.out rfl w.heap.size (some ad) n cap (cellsNs l) HVa.out HN.out HO.out rfl (by omega) (by simp) ?_; intro v1 w1 hown1 hc1 hb1; have HO1 := Lib.hid hown1; have HB1 := Lib.hid hb1; clear hown1 hc1 hb1)
    go_ret
    exact ⟨_, rfl, by simpa using HO1.out, HB.out.trans HB1.out⟩

/-- An element of a row of one's own is stored anew. -/
theorem own_set {P : Program} {w : World} {base : Nat} {e : TypeId} {z n k : Nat} {v : Value} {l old r : List Value} (h : w.ownsRow base e z v n (l ++ old ++ r)) (hl : l.length = k * z) (ho : old.length = z) (hk : k < n) (hz : 0 < z) (cs : Array Value) (hc : cs.size = z) (hi : (P.info? e).map (·.size) = some z) (h1 : ∀ u ∈ cs.toList, u.oneCell' = true) :
    ∃ g cap R, v = .slice (some ⟨g, 0, none⟩) n cap ∧ base ≤ g ∧ g < w.heap.size ∧ n ≤ cap ∧
      (∀ W : World, W.heap[g]? = w.heap[g]? → (storeVar e ⟨g, k * z, none⟩ (.agg cs)).run P W = .ok () (W.setRow g R) ∧ (W.setRow g R).ownsRow base e z v n (l ++ cs.toList ++ r)) := by
  obtain ⟨h2, h3⟩ := h
  rcases h3 with ⟨_, h0⟩ | ⟨g, cap, cur, rfl, hg, hh, hnc, hcm, hcs, hcur⟩
  · omega
  · have hglt : g < w.heap.size := (Array.getElem?_eq_some_iff.1 hh).1
    have hkz : k * z + z ≤ n * z := by have := Nat.mul_le_mul_right z (show k + 1 ≤ n from hk); rw [Nat.add_mul] at this; omega
    have hfit : k * z + z ≤ cur.size := by rw [hcs]; have := Nat.mul_le_mul_right z hnc; omega
    have hrl : r.length = n * z - (k * z + z) := by simp only [List.length_append] at h2; omega
    have hlt : cur.toList.take (k * z) = l := by
      have h5 := congrArg (List.take (k * z)) hcur
      rw [List.take_take, Nat.min_eq_left (by omega), List.append_assoc, ← hl, List.take_left] at h5
      rw [← hl]; exact h5
    have hrt : (cur.toList.drop (k * z + z)).take (n * z - (k * z + z)) = r := by
      have h5 := congrArg (List.drop (k * z + z)) hcur
      rw [List.drop_take, List.drop_left' (by rw [List.length_append, hl, ho])] at h5
      exact h5
    refine ⟨g, cap, (cur.toList.take (k * z) ++ cs.toList ++ cur.toList.drop (k * z + cs.size)).toArray, rfl, hg, hglt, hnc, fun W hW => ?_⟩
    have hWg : W.heap[g]? = some (.cells cur e (0, 0)) := hW.trans hh
    refine ⟨run_storeVar_in W g (k * z) e e cur cs hWg (by rw [hi, hc]) (by rw [hc]; exact hfit) h1, ?_, .inr ⟨g, cap, _, rfl, hg, setRow_heap W g cur _ e _ hWg, hnc, hcm, ?_, ?_⟩⟩
    · simp only [List.length_append] at h2 ⊢
      simp only [Array.length_toList]
      omega
    · simp only [List.size_toArray, List.length_append, List.length_take, List.length_drop, Array.length_toList]
      omega
    · rw [hlt, hc, List.toList_toArray]
      have hll : (l ++ cs.toList).length = k * z + z := by rw [List.length_append, hl, Array.length_toList, hc]
      rw [List.take_append, hll, List.take_of_length_le (by rw [hll]; omega), hrt]
end Go.Proofs.Ytcepbindmdakkaa
