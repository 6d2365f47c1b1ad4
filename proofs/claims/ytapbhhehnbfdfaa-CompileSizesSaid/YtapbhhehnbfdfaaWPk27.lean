/- Several texts of one proof, one behind the other. -/
import Derived.Test.YtapbhhehnbfdfaaWPk26
import Derived.WalkMore
set_option linter.unusedSimpArgs false
set_option linter.unusedVariables false

/- Package compile: Compile. -/
set_option linter.unusedSimpArgs false
set_option linter.unusedVariables false
set_option maxRecDepth 100000
namespace Go.Proofs.Ytapbhhehnbfdfaa
open Go.RowKit

/-- What Compile tells. -/
def compV (x : Nx) : Pg × Int :=
  match addV x ⟨[], []⟩ with
  | none => (⟨[], []⟩, 3)
  | some q => if (highV q).2 = true then (q, 0) else (⟨[], []⟩, 2)
def RetComp (w : World) (r : Pg × Int) (e : Ending) (w' : World) : Prop :=
  Below w.heap.size w w' ∧ ∃ y : PgM, y.p = r.1 ∧ e = .returned (.tuple #[.agg #[.slice y.ca y.p.cs.length y.cc, .slice y.ia y.p.code.length y.ic], .int .i64 r.2]) ∧ PgAt w' y
abbrev zeroPg : Array Value := #[.slice none 0 0, .slice none 0 0]
theorem info_pgS : (Try.prog.info? 36).map (·.size) = some 2 := by kernel_rfl
theorem WrIn.pg {lo : Nat} {W : World} {B M : Nat} {q : Pg} {cv iv : Value} (h : WrIn lo W B M q cv iv) : ∃ ca cc ia ic, cv = .slice ca q.cs.length cc ∧ iv = .slice ia q.code.length ic ∧ PgAt W ⟨q, ca, cc, ia, ic⟩ := by
  obtain ⟨ca, cc, h1, h2, h3, h4⟩ := own_slice h.crow
  obtain ⟨ia, ic, k1, k2, k3, k4⟩ := own_slice h.irow
  exact ⟨ca, cc, ia, ic, h1, k1, h4, h2, h3, k4, k2, k3⟩
/-- The end: a program is stored into the result's block and loaded. -/
theorem comp_end {w w2 : World} (r : Pg × Int) (hr : Blk w2 (w.heap.size + 1) 36 zeroPg) (hb : Below w.heap.size w w2) (y : PgM) (hy : y.p = r.1) (hP : ∀ W, Chg [w.heap.size + 1] w2 W → PgAt W y) :
    (storeVar 36 ⟨w.heap.size + 1, 0, none⟩ (.agg #[.slice y.ca y.p.cs.length y.cc, .slice y.ia y.p.code.length y.ic])).run Try.prog w2 = .ok () (w2.setRow (w.heap.size + 1) #[.slice y.ca y.p.cs.length y.cc, .slice y.ia y.p.code.length y.ic]) ∧
    (loadVar 36 ⟨w.heap.size + 1, 0, none⟩).run Try.prog (w2.setRow (w.heap.size + 1) #[.slice y.ca y.p.cs.length y.cc, .slice y.ia y.p.code.length y.ic]) = .ok (.agg #[.slice y.ca y.p.cs.length y.cc, .slice y.ia y.p.code.length y.ic]) (w2.setRow (w.heap.size + 1) #[.slice y.ca y.p.cs.length y.cc, .slice y.ia y.p.code.length y.ic]) ∧
    RetComp w r (.returned (.tuple #[.agg #[.slice y.ca y.p.cs.length y.cc, .slice y.ia y.p.code.length y.ic], .int .i64 r.2])) (w2.setRow (w.heap.size + 1) #[.slice y.ca y.p.cs.length y.cc, .slice y.ia y.p.code.length y.ic]) := by
  have hc : Chg [w.heap.size + 1] w2 (w2.setRow (w.heap.size + 1) #[.slice y.ca y.p.cs.length y.cc, .slice y.ia y.p.code.length y.ic]) := (Chg.refl _ _).setRow (.inl (by simp)) _
  exact ⟨run_storeVar_row _ _ _ 36 _ _ hr (by rw [info_pgS]; rfl) rfl (by simp [Value.oneCell']), run_loadVar_row _ _ _ 36 _ (0, 0) _ (Blk.setRow (new := #[.slice y.ca y.p.cs.length y.cc, .slice y.ia y.p.code.length y.ic]) hr) Try.underlying36 rfl (by rw [info_pgS]; rfl), hb.trans (hc.below hb.size (by simp)), y, hy, rfl, hP _ hc⟩
theorem PgAt.zero (W : World) : PgAt W ⟨⟨[], []⟩, none, 0, none, 0⟩ := ⟨.inl rfl, Nat.le_refl _, by show 0 ≤ 9223372036854775807; decide, .inl rfl, Nat.le_refl _, by show 0 ≤ 9223372036854775807; decide⟩
/-- Rows of a writer stay where a block is stored that is none of theirs. -/
theorem PgAt.of_own {lo : Nat} {W W' : World} {q : Pg} {ca ia : Option Addr} {cc ic g : Nat} (hc : W.ownsRow lo 23 3 (.slice ca q.cs.length cc) q.cs.length (cellsVl q.cs)) (hi : W.ownsRow lo 63 2 (.slice ia q.code.length ic) q.code.length (cellsIn q.code))
    (h : Chg [g] W W') (hg : g < lo) : PgAt W' ⟨q, ca, cc, ia, ic⟩ := by
  have h1 := own_keep hc fun b hb => h.block b (own_lt hc hb) (fun hm => by have := (hc.lt b hb).1; rw [List.mem_singleton] at hm; omega)
  have h2 := own_keep hi fun b hb => h.block b (own_lt hi hb) (fun hm => by have := (hi.lt b hb).1; rw [List.mem_singleton] at hm; omega)
  obtain ⟨ca2, cc2, e1, k1, k2, k3⟩ := own_slice h1
  obtain ⟨ia2, ic2, e2, l1, l2, l3⟩ := own_slice h2
  injection e1 with e1 _ e3
  injection e2 with e2 _ e4
  subst e1 e2 e3 e4
  exact ⟨k3, k1, k2, l3, l1, l2⟩

set_option maxHeartbeats 16000000 in
theorem compile_any (n : Nat) (x : NM) (w : World) (h : NdAt w.heap.size w n x) (hc : x.t.count ≤ 1000000) :
    Calls Try.prog 10 #[x.nv] w (RetComp w (compV x.t)) := by
  rw [NM.nv_eq]
  have HCt := Lib.hid hc
  obtain ⟨wp, hwp⟩ : ∃ wp, (w.alloc (.cells #[.int .i64 x.t.lab.kd, .string x.t.lab.op, .int .u8 x.t.lab.v.k, .int .i64 x.t.lab.v.n, .string x.t.lab.v.s, .int .i64 x.t.lab.sl, .int .u8 (x.t.lab.ty : Int), .slice x.a x.t.args.length x.cap] 26)).alloc (.cells zeroPg 36) = wp := ⟨_, rfl⟩
  have hsp : wp.heap.size = w.heap.size + 2 := by rw [← hwp]; simp
  have hbx : Blk wp w.heap.size 26 #[.int .i64 x.t.lab.kd, .string x.t.lab.op, .int .u8 x.t.lab.v.k, .int .i64 x.t.lab.v.n, .string x.t.lab.v.s, .int .i64 x.t.lab.sl, .int .u8 (x.t.lab.ty : Int), .slice x.a x.t.args.length x.cap] := by rw [← hwp]; exact (Blk.new w _ _).alloc _
  have hrs : Blk wp (w.heap.size + 1) 36 zeroPg := by
    rw [← hwp]
    have := Blk.new (w.alloc (.cells #[.int .i64 x.t.lab.kd, .string x.t.lab.op, .int .u8 x.t.lab.v.k, .int .i64 x.t.lab.v.n, .string x.t.lab.v.s, .int .i64 x.t.lab.sl, .int .u8 (x.t.lab.ty : Int), .slice x.a x.t.args.length x.cap] 26)) 36 zeroPg
    rw [show (w.alloc (.cells #[.int .i64 x.t.lab.kd, .string x.t.lab.op, .int .u8 x.t.lab.v.k, .int .i64 x.t.lab.v.n, .string x.t.lab.v.s, .int .i64 x.t.lab.sl, .int .u8 (x.t.lab.ty : Int), .slice x.a x.t.args.length x.cap] 26)).heap.size = w.heap.size + 1 by simp] at this
    exact this
  have hbp : Below w.heap.size w wp := by rw [← hwp]; exact ((Below.refl _ w).alloc (Nat.le_refl _) _).alloc (by simp) _
  have hmm := @run_makeMap Try.prog
  obtain ⟨w4, hw4⟩ : ∃ w4, (wp.alloc (.map #[] 0)).alloc (.cells #[.slice none 0 0, .slice none 0 0, .map (some (w.heap.size + 1 + 1))] 62) = w4 := ⟨_, rfl⟩
  have hM : MapV w4 (w.heap.size + 1 + 1) [] := by
    have h1 := MapV.new wp
    rw [hsp] at h1
    rw [← hw4]
    exact h1.keep (Below.heap_alloc _ _ _ (by simp; omega))
  have hBw : Blk w4 (w.heap.size + 1 + 1 + 1) 62 #[.slice none 0 0, .slice none 0 0, .map (some (w.heap.size + 1 + 1))] := by
    rw [← hw4]
    have := Blk.new (wp.alloc (.map #[] 0)) 62 #[.slice none 0 0, .slice none 0 0, .map (some (w.heap.size + 1 + 1))]
    rw [show (wp.alloc (.map #[] 0)).heap.size = w.heap.size + 1 + 1 + 1 by simp; omega] at this
    exact this
  have hb4 : Below wp.heap.size wp w4 := by rw [← hw4]; exact ((Below.refl _ wp).alloc (Nat.le_refl _) _).alloc (by simp) _
  have hWr : WrIn (w.heap.size + 2) w4 (w.heap.size + 1 + 1 + 1) (w.heap.size + 1 + 1) ⟨[], []⟩ (.slice none 0 0) (.slice none 0 0) := ⟨hBw, hM, World.ownsRow_nil _ _ _ _, World.ownsRow_nil _ _ _ _, by omega, by omega⟩
  have hbw4 : Below w.heap.size w w4 := hbp.trans (hb4.mono (by omega))
  have hNd : NdAt (w.heap.size + 2) w4 n x := (h.below hbw4).mono (by omega)
  have HAdd := Lib.hid (add_is (w.heap.size + 2) (w.heap.size + 1 + 1 + 1) (w.heap.size + 1 + 1) n x w4 ⟨[], []⟩ _ _ hNd hWr (by simpa using hc) (by simpa using hc))
  rw [NM.nv_eq] at HAdd
  have HWr := Lib.hid hWr
  have HBw4 := Lib.hid hbw4
  have HRs4 : Hid (Blk w4 (w.heap.size + 1) 36 zeroPg) := (hb4.block _ (by omega)).trans hrs
  have hbx4 : Blk w4 w.heap.size 26 #[.int .i64 x.t.lab.kd, .string x.t.lab.op, .int .u8 x.t.lab.v.k, .int .i64 x.t.lab.v.n, .string x.t.lab.v.s, .int .i64 x.t.lab.sl, .int .u8 (x.t.lab.ty : Int), .slice x.a x.t.args.length x.cap] := (hb4.block _ (by omega)).trans hbx
  have c0 := (hbx4.cell 0).trans rfl
  have c1 := (hbx4.cell 1).trans rfl
  have c2 := (hbx4.cell 2).trans rfl
  have c3 := (hbx4.cell 3).trans rfl
  have c4 := (hbx4.cell 4).trans rfl
  have c5 := (hbx4.cell 5).trans rfl
  have c6 := (hbx4.cell 6).trans rfl
  have c7 := (hbx4.cell 7).trans rfl
  have HCv : Hid (compV x.t = match addV x.t ⟨[], []⟩ with | none => (⟨[], []⟩, 3) | some q => if (highV q).2 = true then (q, 0) else (⟨[], []⟩, 2)) := rfl
  obtain ⟨r, hr⟩ : ∃ r, compV x.t = r := ⟨_, rfl⟩
  rw [hr] at HCv ⊢
  clear hM hBw hb4 hWr hbw4 hNd hbx4 hbx hrs hbp hr h hc
  go_enter Try.func10, Try.ntmps10
  go_upto_region 2 with fail
  try rw [hwp]
  try rw [hw4]
  clear hmm hwp hw4 hsp
  go_wp2_with fail
  refine HAdd.out.mono ?_
  rintro e w5 ⟨cv5, iv5, hO5, ⟨hno, rfl⟩ | ⟨q, hq, rfl, hI5⟩⟩
  · have hb5 : Below w.heap.size w w5 := HBw4.out.trans ((hO5.below HWr.out).mono (by omega))
    have hR5 : Blk w5 (w.heap.size + 1) 36 zeroPg := ((hO5.below HWr.out).block _ (by omega)).trans HRs4.out
    have hrr : r = (⟨[], []⟩, 3) := by rw [HCv.out, hno]
    subst hrr
    obtain ⟨h1, h2, h3⟩ := comp_end (⟨[], []⟩, 3) hR5 hb5 ⟨⟨[], []⟩, none, 0, none, 0⟩ rfl (fun W _ => PgAt.zero W)
    have HS : Hid ((storeVar 36 ⟨w.heap.size + 1, 0, none⟩ (.agg #[.slice none 0 0, .slice none 0 0])).run Try.prog w5 = .ok () (w5.setRow (w.heap.size + 1) #[.slice none 0 0, .slice none 0 0])) := h1
    have HL := Lib.hid h2
    have HE := Lib.hid h3
    clear h1 h2 h3 hb5 hR5 hno hO5 HAdd c0 c1 c2 c3 c4 c5 c6 c7
    go_wp2_with (first | (guard_target =~ wpList _ _ _ (Oper.mk _ (Op.store 36 _ _) _ _ _ _ :: _) _ _; refine wpList_skp rfl (exec_store rfl rfl rfl HS.out) ?_))
    exact bodyPost_ret (results_cell_tmp Try.results10 _ _ rfl rfl HL.out) rfl HE.out
  · have hbl := hO5.below HWr.out
    have hb5 : Below w.heap.size w w5 := HBw4.out.trans (hbl.mono (by omega))
    have hR5 : Blk w5 (w.heap.size + 1) 36 zeroPg := (hbl.block _ (by omega)).trans HRs4.out
    obtain ⟨ca, cc, ia, ic, hcv, hiv, hPg⟩ := hI5.pg
    subst hcv hiv
    have HB5 := Lib.hid hb5
    have HR5 := Lib.hid hR5
    have HI5 := Lib.hid hI5
    have p0 := ((hI5.box.cell 0).trans rfl : w5.cell? ⟨w.heap.size + 1 + 1 + 1, 0, none⟩ = some (.slice ca q.cs.length cc))
    have p1 := ((hI5.box.cell 1).trans rfl : w5.cell? ⟨w.heap.size + 1 + 1 + 1, 1, none⟩ = some (.slice ia q.code.length ic))
    have HRt := Lib.hid (codeRight_any ⟨q, ca, cc, ia, ic⟩ w5 hPg)
    have HCv2 : Hid (r = if (highV q).2 = true then (q, 0) else (⟨[], []⟩, 2)) := by show r = _; rw [HCv.out, hq]
    obtain ⟨b, hb⟩ : ∃ b, (highV q).2 = b := ⟨_, rfl⟩
    replace HRt : Hid (Calls Try.prog 23 #[.agg #[.slice ca q.cs.length cc, .slice ia q.code.length ic]] w5 fun e w' => e = .returned (.bool b) ∧ Below w5.heap.size w5 w') := by rw [← hb]; exact HRt.out
    rw [hb] at HCv2
    clear hbl hb5 hR5 hPg hI5 hO5 hq hb HAdd c0 c1 c2 c3 c4 c5 c6 c7 HCv
    go_wp2_with fail
    refine HRt.out.mono ?_
    rintro e w6 ⟨rfl, hb6⟩
    have hb6w : Below w.heap.size w w6 := HB5.out.trans (hb6.mono HB5.out.size)
    have hR6 : Blk w6 (w.heap.size + 1) 36 zeroPg := (hb6.block _ HR5.out.lt).trans HR5.out
    have hI6 := HI5.out.keep hb6
    clear hb6 HRt p0 p1
    cases b with
    | false =>
      have hrr : r = (⟨[], []⟩, 2) := by rw [HCv2.out]; rfl
      subst hrr
      obtain ⟨h1, h2, h3⟩ := comp_end (⟨[], []⟩, 2) hR6 hb6w ⟨⟨[], []⟩, none, 0, none, 0⟩ rfl (fun W _ => PgAt.zero W)
      have HS : Hid ((storeVar 36 ⟨w.heap.size + 1, 0, none⟩ (.agg #[.slice none 0 0, .slice none 0 0])).run Try.prog w6 = .ok () (w6.setRow (w.heap.size + 1) #[.slice none 0 0, .slice none 0 0])) := h1
      have HL := Lib.hid h2
      have HE := Lib.hid h3
      clear h1 h2 h3 hb6w hR6 hI6
      go_wp2_with (first | (guard_target =~ wpList _ _ _ (Oper.mk _ (Op.store 36 _ _) _ _ _ _ :: _) _ _; refine wpList_skp rfl (exec_store rfl rfl rfl HS.out) ?_))
      exact bodyPost_ret (results_cell_tmp Try.results10 _ _ rfl rfl HL.out) rfl HE.out
    | true =>
      have hrr : r = (q, 0) := by rw [HCv2.out]; rfl
      subst hrr
      obtain ⟨h1, h2, h3⟩ := comp_end (q, 0) hR6 hb6w ⟨q, ca, cc, ia, ic⟩ rfl (fun W hW => PgAt.of_own hI6.crow hI6.irow hW (by omega))
      have p0 := ((hI6.box.cell 0).trans rfl : w6.cell? ⟨w.heap.size + 1 + 1 + 1, 0, none⟩ = some (.slice ca q.cs.length cc))
      have p1 := ((hI6.box.cell 1).trans rfl : w6.cell? ⟨w.heap.size + 1 + 1 + 1, 1, none⟩ = some (.slice ia q.code.length ic))
      have HS : Hid ((storeVar 36 ⟨w.heap.size + 1, 0, none⟩ (.agg #[.slice ca q.cs.length cc, .slice ia q.code.length ic])).run Try.prog w6 = .ok () (w6.setRow (w.heap.size + 1) #[.slice ca q.cs.length cc, .slice ia q.code.length ic])) := h1
      have HL := Lib.hid h2
      have HE := Lib.hid h3
      clear h1 h2 h3 hb6w hR6 hI6
      go_wp2_with (first | (guard_target =~ wpList _ _ _ (Oper.mk _ (Op.store 36 _ _) _ _ _ _ :: _) _ _; refine wpList_skp rfl (exec_store rfl rfl rfl HS.out) ?_))
      exact bodyPost_ret (results_cell_tmp Try.results10 _ _ rfl rfl HL.out) rfl HE.out
end Go.Proofs.Ytapbhhehnbfdfaa

/- plan.Equal: its model. -/
set_option linter.unusedSimpArgs false
set_option linter.unusedVariables false
set_option maxRecDepth 100000
namespace Go.Proofs.Ytapbhhehnbfdfaa
open Go.RowKit

/-- Is x the column of this slot and y of slots below first? -/
def eqArg (slot first : Int) (x y : Nx) : Bool := decide (x.lab.kd = 2) && decide (x.lab.sl = slot) && lowZ first y
/-- What a part tells the slot to be equal to. -/
def eqPart (slot first : Int) (p : Nx) : Option Nx :=
  if binN p [61] = true then
    match p.args with
    | [x, y] => if eqArg slot first x y = true then some y else if eqArg slot first y x = true then some x else none
    | _ => none
  else none
def eqParts (slot first : Int) (l : List Nx) : Option Nx := l.findSome? (eqPart slot first)
theorem eqParts_snoc (slot first : Int) (l : List Nx) (p : Nx) (h : eqParts slot first l = none) : eqParts slot first (l ++ [p]) = eqPart slot first p := by
  unfold eqParts at h ⊢
  rw [List.findSome?_append, h]
  cases hq : eqPart slot first p <;> simp [hq]
theorem eqParts_hit (slot first : Int) (l : List Nx) (k : Nat) (hk : k < l.length) (t : Nx) (h : eqParts slot first (l.take k) = none) (hp : eqPart slot first l[k] = some t) : eqParts slot first l = some t := by
  have e : l = l.take k ++ (l[k] :: l.drop (k + 1)) := by rw [← List.drop_eq_getElem_cons hk, List.take_append_drop]
  have h2 : List.findSome? (eqPart slot first) (l.take k ++ (l[k] :: l.drop (k + 1))) = some t := by
    unfold eqParts at h
    rw [List.findSome?_append, h, List.findSome?_cons, hp]; rfl
  exact (congrArg (List.findSome? (eqPart slot first)) e).trans h2
/-- What Equal hands back. -/
def RetEq (w : World) (n : Nat) (o : Option Nx) (e : Ending) (w' : World) : Prop :=
  Below w.heap.size w w' ∧ ((o = none ∧ e = .returned (.tuple #[.agg zeroNdc, .bool false])) ∨
    ∃ (t : Nx) (y : NM), o = some t ∧ y.t = t ∧ e = .returned (.tuple #[.agg #[.int .i64 y.t.lab.kd, .string y.t.lab.op, .int .u8 y.t.lab.v.k, .int .i64 y.t.lab.v.n, .string y.t.lab.v.s, .int .i64 y.t.lab.sl, .int .u8 (y.t.lab.ty : Int), .slice y.a y.t.args.length y.cap], .bool true]) ∧ NdIn (fun b => w.heap.size ≤ b ∧ b < w'.heap.size) w' n y)
/-- A row of nodes that came in. -/
structure NsAt (N : Nat) (W : World) (n : Nat) (a : Option Addr) (cap : Nat) (L : List NM) : Prop where
  arr : Arr N W a (cellsNs L)
  kids : ∀ y ∈ L, NdAt N W n y
  hcap : L.length ≤ cap
  hmax : cap ≤ 9223372036854775807
theorem NsAt.later {W W' : World} {n : Nat} {a : Option Addr} {cap : Nat} {L : List NM} (h : NsAt W.heap.size W n a cap L) (hb : Below W.heap.size W W') : NsAt W'.heap.size W' n a cap L :=
  ⟨(h.arr.below hb).mono hb.size, fun y hy => (h.kids y hy).later hb, h.hcap, h.hmax⟩
/-- The k-th node's cells. -/
theorem NsAt.at_ {N : Nat} {W : World} {n : Nat} {a : Option Addr} {cap : Nat} {L : List NM} (h : NsAt N W n a cap L) {k : Nat} (hk : k < L.length) : ∃ b o, a = some ⟨b, o, none⟩ ∧ b < N ∧ KidNd W b (o + k * 8) L[k] := by
  obtain ⟨b, o, ha, hb, hc⟩ := h.arr.at_ (by intro h0; have := cellsNs_len L; rw [h0] at this; simp at this; omega)
  have g := fun (j : Nat) (v : Value) (hv : (cellsNd L[k])[j]? = some v) => hc _ _ (cellsOf_get cellsNd 8 cellsNd_len L k j L[k] v (List.getElem?_eq_getElem hk) hv)
  refine ⟨b, o, ha, hb, ?_, ?_, ?_, ?_, ?_, ?_, ?_, ?_⟩
  · simpa using g 0 _ rfl
  · simpa [Nat.add_assoc] using g 1 _ rfl
  · simpa [Nat.add_assoc] using g 2 _ rfl
  · simpa [Nat.add_assoc] using g 3 _ rfl
  · simpa [Nat.add_assoc] using g 4 _ rfl
  · simpa [Nat.add_assoc] using g 5 _ rfl
  · simpa [Nat.add_assoc] using g 6 _ rfl
  · simpa [Nat.add_assoc] using g 7 _ rfl
end Go.Proofs.Ytapbhhehnbfdfaa

/- The walk of plan.Equal. -/
set_option linter.unusedSimpArgs false
set_option linter.unusedVariables false
set_option maxRecDepth 100000
namespace Go.Proofs.Ytapbhhehnbfdfaa
open Go.RowKit


end Go.Proofs.Ytapbhhehnbfdfaa

/- A row of nodes of a call's own; plan.equals. -/
set_option linter.unusedSimpArgs false
set_option linter.unusedVariables false
set_option maxRecDepth 100000
namespace Go.Proofs.Ytapbhhehnbfdfaa
open Go.RowKit

/-- A row of nodes of the call's own, each with arguments in blocks of its own. -/
structure NdsIn (lo : Nat) (W : World) (n : Nat) (cv : Value) (L : List NM) : Prop where
  row : W.ownsRow lo 26 8 cv L.length (cellsNs L)
  kid : ∀ y ∈ L, NdIn (fun b => lo ≤ b ∧ b < W.heap.size ∧ cv.ownBlock ≠ some b) W n y
theorem NdsIn.nil (lo : Nat) (W : World) (n : Nat) : NdsIn lo W n (.slice none 0 0) [] := ⟨World.ownsRow_nil _ _ _ _, fun y hy => by cases hy⟩
theorem NdsIn.keep {lo : Nat} {W W' : World} {n : Nat} {cv : Value} {L : List NM} (h : NdsIn lo W n cv L) (hs : W.heap.size ≤ W'.heap.size) (hk : ∀ b, lo ≤ b → b < W.heap.size → W'.heap[b]? = W.heap[b]?) : NdsIn lo W' n cv L := by
  refine ⟨own_keep h.row fun g hg => hk g (h.row.lt g hg).1 (own_lt h.row hg), fun y hy => ?_⟩
  exact ((h.kid y hy).keep (fun b hb => hk b hb.1 hb.2.1)).imp fun b hb => ⟨hb.1, by omega, hb.2.2⟩
theorem NdsIn.later {lo : Nat} {W W' : World} {n : Nat} {cv : Value} {L : List NM} (h : NdsIn lo W n cv L) (hb : Below W.heap.size W W') : NdsIn lo W' n cv L :=
  h.keep hb.size fun b _ h2 => hb.block b h2
theorem NdsIn.base {lo lo2 : Nat} {W : World} {n : Nat} {cv : Value} {L : List NM} (h : NdsIn lo W n cv L) (hl : lo2 ≤ lo) : NdsIn lo2 W n cv L :=
  ⟨own_basP h.row hl, fun y hy => (h.kid y hy).imp fun b hb => ⟨by omega, hb.2⟩⟩
theorem NdsIn.add {lo : Nat} {W w2 w5 : World} {n : Nat} {cv v5 : Value} {L : List NM} {y : NM} (h : NdsIn lo W n cv L) (hs : W.heap.size ≤ w2.heap.size) (hk : ∀ b, lo ≤ b → b < W.heap.size → w2.heap[b]? = W.heap[b]?) (hlo : lo ≤ W.heap.size)
    (hy : NdIn (fun b => W.heap.size ≤ b ∧ b < w2.heap.size) w2 n y) (hr : w5.ownsRow lo 26 8 v5 (L.length + 1) (cellsNs L ++ cellsNd y)) {o : Obj} (hc : Chg cv.ownBlock.toList (w2.alloc o) w5) (hf : v5.ownBlock = cv.ownBlock ∨ ∀ g, v5.ownBlock = some g → w2.heap.size < g) :
    NdsIn lo w5 n v5 (L ++ [y]) := by
  have hsz := hc.size
  simp at hsz
  have hold : ∀ b, b < w2.heap.size → cv.ownBlock ≠ some b → w5.heap[b]? = w2.heap[b]? := fun b hb hn =>
    (hc.block b (by simp; omega) (by rw [Option.mem_toList]; exact hn)).trans (Below.heap_alloc w2 o b hb)
  have hown : ∀ g, cv.ownBlock = some g → g < W.heap.size := fun g hg => own_lt h.row hg
  refine ⟨by rw [List.length_append, cellsNs_snoc]; exact hr, fun z hz => ?_⟩
  rcases List.mem_append.1 hz with hz | hz
  · have hz2 := h.kid z hz
    refine (hz2.keep (w' := w5) (fun b hb => (hold b (by omega) hb.2.2).trans (hk b hb.1 hb.2.1))).imp fun b hb => ⟨hb.1, by omega, ?_⟩
    rcases hf with hf | hf
    · rw [hf]; exact hb.2.2
    · intro hg; have := hf b hg; omega
  · rw [List.mem_singleton.1 hz]
    refine (hy.keep (w' := w5) (fun b hb => hold b hb.2 (fun hg => by have := hown b hg; omega))).imp fun b hb => ⟨by omega, by omega, ?_⟩
    rcases hf with hf | hf
    · rw [hf]; intro hg; have := hown b hg; omega
    · intro hg; have := hf b hg; omega

/-- A node that a step may hold. -/
def goodN (fr : Int) (t : Nx) : Prop := lowZ fr t = true ∧ t.count ≤ 1000000
theorem eqPart_good {slot fr : Int} {p t : Nx} (h : eqPart slot fr p = some t) (hp : p.count ≤ 1000000) : goodN fr t := by
  unfold eqPart at h
  split at h
  · split at h
    · rename_i hxs
      rename_i x y
      have hx : x.count ≤ 1000000 := by
        have h7 := p.count_eq
        rw [hxs] at h7
        simp at h7; omega
      have hy : y.count ≤ 1000000 := by
        have h7 := p.count_eq
        rw [hxs] at h7
        simp at h7; omega
      split at h
      · rename_i he
        injection h with h
        subst h
        unfold eqArg at he
        simp only [Bool.and_eq_true] at he
        exact ⟨he.2, hy⟩
      · split at h
        · rename_i he
          injection h with h
          subst h
          unfold eqArg at he
          simp only [Bool.and_eq_true] at he
          exact ⟨he.2, hx⟩
        · cases h
    · cases h
  · cases h
theorem eqParts_good {slot fr : Int} {l : List Nx} {t : Nx} (h : eqParts slot fr l = some t) (hl : ∀ p ∈ l, p.count ≤ 1000000) : goodN fr t := by
  unfold eqParts at h
  obtain ⟨p, hp, hpt⟩ := List.exists_of_findSome?_eq_some h
  exact eqPart_good hpt (hl p hp)

/-- What equals hands back. -/
def RetEqs (w : World) (n m : Nat) (fr : Int) (I : List Int) (P : List Nx) (e : Ending) (w' : World) : Prop :=
  Below w.heap.size w w' ∧ ((e = .returned (.tuple #[.slice none 0 0, .bool false]) ∧ ∃ i ∈ I, eqParts (fr + i) fr P = none) ∨
    ∃ (cv : Value) (L : List NM), e = .returned (.tuple #[cv, .bool true]) ∧ NdsIn w.heap.size w' n cv L ∧ L.length = m ∧ ∀ y ∈ L, goodN fr y.t)

abbrev tabCs (x : PTm) : Array Value := #[.int .i64 x.t.fr, .int .i64 x.t.co, .slice x.ka x.t.key.length x.kc, .slice x.ia x.t.idx.length x.ic, .bool x.t.now]

end Go.Proofs.Ytapbhhehnbfdfaa

/- Package compile: leaf; an append onto a slice without room; the stack of nodes. -/
set_option linter.unusedSimpArgs false
set_option linter.unusedVariables false
set_option maxRecDepth 100000
namespace Go.Proofs.Ytapbhhehnbfdfaa
open Go.RowKit

section
variable {P : Program}
/-- 'append(s[:n:n], x..)': it always lies in a new block. -/
theorem wp_appN {o : Oper} {a : Act} {K : Act → World → Prop} {Q : Exit → Act → World → Prop} (s x : Operand) (t : TypeId)
    (ho : o.op = .call { callee := .builtin .append, args := #[s, x], argTypes := #[t, t] })
    (base : Nat) (e : TypeId) (i : TypeInfo) (zr : Value) (z bytes m : Nat) (ht : P.underlying t = some (.slice e)) (hi : P.info? e = some i) (hz : i.zero = some zr) (hzs : zr.cells.size = z)
    (hsize : i.size = z) (hz0 : 0 < z) (hby : i.bytes = bytes) (hb1000 : bytes ≤ 1000)
    (g n : Nat) (olds news : List Value) (w : World) (hlo : olds.length = n * z) (hg : g < w.heap.size) (holds : ∀ j v, olds[j]? = some v → w.cell? ⟨g, j, none⟩ = some v) (hs : a.eval s = .slice (some ⟨g, 0, none⟩) n n) (cs : Array Value) (hcs : cs = news.toArray) (hl : news.length = m * z) (hm : 0 < m)
    (hx : a.eval x = .slice (some ⟨w.heap.size, 0, none⟩) m m) (hlen : n + m < 100000000000) (hbase : base ≤ w.heap.size)
    (h : ∀ v' w', w'.ownsRow base e z v' (n + m) (olds ++ news) → Below (w.alloc (.cells cs e)).heap.size (w.alloc (.cells cs e)) w' → (∀ g', v'.ownBlock = some g' → w.heap.size < g') → K (a.put o.dst v') w') :
    o.wp P a (w.alloc (.cells cs e)) K Q := by
  subst hcs
  have hadd : ∀ (b j : Nat), (⟨b, 0, none⟩ : Addr).add j = ⟨b, j, none⟩ := fun b j => by unfold Addr.add; split <;> simp_all
  have hnews : ∀ j u, news[j]? = some u → (w.alloc (.cells news.toArray e)).cell? ((⟨w.heap.size, 0, none⟩ : Addr).add j) = some u := by
    intro j u hj
    rw [hadd, World.cell?_alloc_at _ _ _ _ rfl]
    simpa using hj
  have hal : Below w.heap.size w (w.alloc (.cells news.toArray e)) := (Below.refl _ w).alloc (Nat.le_refl _) _
  have holds2 : ∀ j u, olds[j]? = some u → (w.alloc (.cells news.toArray e)).cell? ((⟨g, 0, none⟩ : Addr).add j) = some u := by
    intro j u hj
    rw [hadd]
    exact (hal.cell (p := ⟨g, j, none⟩) hg).trans (holds j u hj)
  have h63 : n + m ≤ maxLen := by unfold maxLen; omega
  have hbs : (n + m) * i.bytes ≤ 140737488355328 := by
    rw [hby]
    have : (n + m) * bytes ≤ 100000000000 * 1000 := Nat.mul_le_mul (by omega) hb1000
    omega
  subst hsize
  have hr := run_append_grow (P := P) (w.alloc (.cells news.toArray e)) t o.type e i zr ht hi hz ⟨g, 0, none⟩ n n olds hlo holds2 ⟨w.heap.size, 0, none⟩ m m news hl hnews (by omega) (by omega) (growslice_fits (by omega) hbs)
  have hge := grownCap_ge (w.alloc (.cells news.toArray e)) (n + m) n e
  have hcm : grownCap (w.alloc (.cells news.toArray e)) (n + m) n e ≤ maxLen := grownCap_le_maxLen _ (n + m) n e h63
  unfold Oper.wp execOp
  simp only [ho, resolve, invoke, builtin, Sem.run_bind, Sem.run_pure, Result.andThen_ok, List.map_toArray, List.map_cons, List.map_nil, hs, hx, hr]
  have hlen2 : (olds ++ news).length = (n + m) * i.size := by rw [List.length_append, hlo, hl, Nat.add_mul]
  refine h _ _ ⟨hlen2, .inr ⟨(w.alloc (.cells news.toArray e)).heap.size, _, _, rfl, by simp; omega, heap_alloc_new (w.alloc (.cells news.toArray e)).drew _, hge, hcm, ?_, ?_⟩⟩ ?_ ?_
  · simp only [Array.size_append, List.size_toArray, size_zeroCells, hzs, hlo, hl, ← Nat.add_mul]
    congr 1
    omega
  · simp only [Array.toList_append, List.append_assoc]
    rw [← List.append_assoc, ← hlen2]
    exact List.take_left
  · exact (Below.refl _ (w.alloc (.cells news.toArray e))).drew.alloc (Nat.le_refl _) _
  · intro g' hg'
    simp [Value.ownBlock] at hg'
    omega
end

abbrev vl0 : Vl := ⟨0, 0, ⟨#[]⟩⟩
/-- The node of an instruction that pushes a constant or a slot. -/
def leafV (p : Pg) (x : Ins) : NLb := if x.op = 1 then ⟨1, ⟨#[]⟩, p.cs.getD x.ag.toNat vl0, 0, 0⟩ else ⟨2, ⟨#[]⟩, vl0, x.ag, 0⟩

set_option maxHeartbeats 8000000 in
theorem leaf_any (y : PgM) (x : Ins) (w : World) (hy : PgAt w y) (hx : x.op = 1 → 0 ≤ x.ag ∧ x.ag < (y.p.cs.length : Int)) :
    Calls Try.prog 29 #[.agg #[.slice y.ca y.p.cs.length y.cc, .slice y.ia y.p.code.length y.ic], .agg #[.int .i64 x.op, .int .i64 x.ag]] w fun e w' => e = .returned (.agg ((leafV y.p x).csN (.slice none 0 0))) ∧ Below w.heap.size w w' := by
  obtain ⟨⟨cs, code⟩, ca, cc, ia, ic⟩ := y
  obtain ⟨o, g⟩ := x
  simp only at hx ⊢
  have hcs := hy.c
  have hcl := hy.cl
  have hcc := hy.cc
  simp only at hcs hcl hcc
  obtain ⟨m, hm⟩ : ∃ m, cs.length = m := ⟨_, rfl⟩
  have HM := Lib.hid hm
  rw [hm] at hx hcl ⊢
  obtain ⟨w0, hw0⟩ : ∃ w0, ((w.alloc (.cells #[.slice ca m cc, .slice ia code.length ic] 36)).alloc (.cells #[.int .i64 o, .int .i64 g] 63)).alloc (.cells zeroNdc 26) = w0 := ⟨_, rfl⟩
  have hp0 : Blk w0 w.heap.size 36 #[.slice ca m cc, .slice ia code.length ic] := by rw [← hw0]; exact ((Blk.new w _ _).alloc _).alloc _
  have hi0 : Blk w0 (w.heap.size + 1) 63 #[.int .i64 o, .int .i64 g] := by
    rw [← hw0]
    have := (Blk.new (w.alloc (.cells #[.slice ca m cc, .slice ia code.length ic] 36)) 63 #[.int .i64 o, .int .i64 g]).alloc (.cells zeroNdc 26)
    rw [show (w.alloc (.cells #[.slice ca m cc, .slice ia code.length ic] 36)).heap.size = w.heap.size + 1 by simp] at this
    exact this
  have hr0 : Blk w0 (w.heap.size + 1 + 1) 26 zeroNdc := by
    rw [← hw0]
    have := Blk.new ((w.alloc (.cells #[.slice ca m cc, .slice ia code.length ic] 36)).alloc (.cells #[.int .i64 o, .int .i64 g] 63)) 26 zeroNdc
    rw [show ((w.alloc (.cells #[.slice ca m cc, .slice ia code.length ic] 36)).alloc (.cells #[.int .i64 o, .int .i64 g] 63)).heap.size = w.heap.size + 1 + 1 by simp] at this
    exact this
  have hb0 : Below w.heap.size w w0 := by rw [← hw0]; exact (((Below.refl _ w).alloc (Nat.le_refl _) _).alloc (by simp) _).alloc (by simp; omega) _
  have HEnd := Lib.hid (fun (l : NLb) => show _ ∧ _ ∧ Below w.heap.size w (w0.setRow (w.heap.size + 1 + 1) (l.csN (.slice none 0 0))) from
    ⟨run_storeVar_row (P := Try.prog) w0 (w.heap.size + 1 + 1) 26 26 zeroNdc (l.csN (.slice none 0 0)) hr0 (by rw [info_ndS]; rfl) rfl (by simp [Value.oneCell']),
     run_loadVar_row (P := Try.prog) _ _ _ 26 _ (0, 0) _ (Blk.setRow (new := l.csN (.slice none 0 0)) hr0) Try.underlying26 rfl (by rw [info_ndS]; rfl),
     hb0.trans (((Chg.refl _ w0).setRow (.inl (by simp)) _ : Chg [w.heap.size + 1 + 1] w0 _).below hb0.size (by simp; omega))⟩)
  have i0 := (hi0.cell 0).trans rfl
  have i1 := (hi0.cell 1).trans rfl
  have p0 := (hp0.cell 0).trans rfl
  by_cases k1 : o = 1
  · subst k1
    obtain ⟨hx0, hx1⟩ := hx rfl
    obtain ⟨k, rfl⟩ : ∃ k : Nat, g = (k : Int) := ⟨g.toNat, by omega⟩
    have hkm : k < m := by omega
    have hkl : k < cs.length := by rw [hm]; exact hkm
    obtain ⟨b, of, hab, -, y0, y1, y2⟩ := vlAt ((hcs.below hb0).mono hb0.size) hkl
    have hl : leafV ⟨cs, code⟩ ⟨1, (k : Int)⟩ = ⟨1, ⟨#[]⟩, cs[k], 0, 0⟩ := by
      unfold leafV
      rw [if_pos rfl]
      simp [hkl]
    rw [hl]
    generalize cs[k] = v at *
    subst hab
    obtain ⟨h1, h2, h3⟩ := HEnd.out ⟨1, ⟨#[]⟩, v, 0, 0⟩
    have HS := Lib.hid h1
    have HL := Lib.hid h2
    have HE := Lib.hid h3
    replace HS : Hid ((storeVar 26 ⟨w.heap.size + 1 + 1, 0, none⟩ (.agg #[.int .i64 1, .string ⟨#[]⟩, .int .u8 (v.k : Int), .int .i64 v.n, .string v.s, .int .i64 0, .int .u8 0, .slice none 0 0])).run Try.prog w0 = .ok () (w0.setRow (w.heap.size + 1 + 1) (NLb.csN ⟨1, ⟨#[]⟩, v, 0, 0⟩ (.slice none 0 0)))) := HS.out
    clear h1 h2 h3 HEnd hp0 hi0 hr0 hb0 hcs hx hl hkl hy hm
    go_enter Try.func29, Try.ntmps29
    go_wp2_with (first | (guard_target =~ wpList _ _ _ (Oper.mk _ (Op.store 26 _ _) _ _ _ _ :: _) _ _; refine wpList_skp rfl (exec_store rfl rfl rfl HS.out) ?_))
    exact bodyPost_ret (v := .agg (NLb.csN ⟨1, ⟨#[]⟩, v, 0, 0⟩ (.slice none 0 0))) (results_cell1x Try.results29 _ _ rfl HL.out) rfl ⟨rfl, HE.out⟩
  · have hl : leafV ⟨cs, code⟩ ⟨o, g⟩ = ⟨2, ⟨#[]⟩, vl0, g, 0⟩ := by unfold leafV; rw [if_neg k1]
    rw [hl]
    have q1 : (o == 1) = false := by simpa using k1
    obtain ⟨h1, h2, h3⟩ := HEnd.out ⟨2, ⟨#[]⟩, vl0, g, 0⟩
    have HS := Lib.hid h1
    have HL := Lib.hid h2
    have HE := Lib.hid h3
    replace HS : Hid ((storeVar 26 ⟨w.heap.size + 1 + 1, 0, none⟩ (.agg #[.int .i64 2, .string ⟨#[]⟩, .int .u8 0, .int .i64 0, .string ⟨#[]⟩, .int .i64 g, .int .u8 0, .slice none 0 0])).run Try.prog w0 = .ok () (w0.setRow (w.heap.size + 1 + 1) (NLb.csN ⟨2, ⟨#[]⟩, vl0, g, 0⟩ (.slice none 0 0)))) := HS.out
    clear h1 h2 h3 HEnd hp0 hi0 hr0 hb0 hcs hx hl hy hm k1
    go_enter Try.func29, Try.ntmps29
    go_wp2_with (first | (guard_target =~ wpList _ _ _ (Oper.mk _ (Op.store 26 _ _) _ _ _ _ :: _) _ _; refine wpList_skp rfl (exec_store rfl rfl rfl HS.out) ?_))
    exact bodyPost_ret (v := .agg (NLb.csN ⟨2, ⟨#[]⟩, vl0, g, 0⟩ (.slice none 0 0))) (results_cell1x Try.results29 _ _ rfl HL.out) rfl ⟨rfl, HE.out⟩

/-! The stack of nodes. -/
theorem RoseIn.up {α : Type} {F : α → Prop} {c : α → List Value} {p : Nat → Prop} {w : World} : ∀ {n : Nat} {x : RM α}, RoseIn F c p w n x → RoseIn F c p w (n + 1) x
  | 0, _, h => h.elim
  | _ + 1, _, ⟨h1, h2, h3, L, h4, h5, h6⟩ => ⟨h1, h2, h3, L, h4, h5, fun y hy => RoseIn.up (h6 y hy)⟩
theorem NdsIn.up {lo : Nat} {W : World} {n : Nat} {cv : Value} {L : List NM} (h : NdsIn lo W n cv L) : NdsIn lo W (n + 1) cv L := ⟨h.row, fun y hy => RoseIn.up (h.kid y hy)⟩
theorem NdIn.leaf {p : Nat → Prop} {w : World} {n : Nat} {l : NLb} (hl : l.fair) : NdIn p w (n + 1) ⟨.mk l [], none, 0⟩ := ⟨hl, Nat.le_refl _, by simp, [], rfl, .inl rfl, fun y hy => by cases hy⟩
/-- The last nodes of the stack become the arguments of a new one; the others are copied to a new block, with it. -/
theorem NdsIn.fold {lo at_ : Nat} {W w5 : World} {n g cap : Nat} {cv v5 : Value} {L : List NM} (h : NdsIn lo W n cv L) (hcv : cv = .slice (some ⟨g, 0, none⟩) L.length cap) (hat : at_ ≤ L.length) (hb : Below W.heap.size W w5) {l : NLb} (hl : l.fair) (hmx : L.length ≤ 1000000)
    (hrow : w5.ownsRow lo 26 8 v5 (at_ + 1) (cellsNs (L.take at_) ++ cellsNd ⟨.mk l ((L.drop at_).map (·.t)), some ⟨g, at_ * 8, none⟩, L.length - at_⟩)) (hv5 : ∀ g', v5.ownBlock = some g' → W.heap.size ≤ g') :
    NdsIn lo w5 (n + 1) v5 (L.take at_ ++ [⟨.mk l ((L.drop at_).map (·.t)), some ⟨g, at_ * 8, none⟩, L.length - at_⟩]) := by
  have hgo : cv.ownBlock = some g := by rw [hcv]; rfl
  have hgl : g < W.heap.size := own_lt h.row hgo
  have hglo : lo ≤ g := (h.row.lt g hgo).1
  have hs := hb.size
  refine ⟨?_, fun y hy => ?_⟩
  · rw [cellsNs_snoc, List.length_append, List.length_take, Nat.min_eq_left hat]; exact hrow
  · rcases List.mem_append.1 hy with hy | hy
    · refine RoseIn.up (((h.kid y (List.mem_of_mem_take hy)).keep (w' := w5) (fun b hb2 => hb.block b hb2.2.1)).imp fun b hb2 => ⟨hb2.1, by omega, fun e => ?_⟩)
      have := hv5 b e; omega
    · rw [List.mem_singleton.1 hy]
      refine ⟨hl, by simp [Rose.args], by show L.length - at_ ≤ _; omega, L.drop at_, rfl, ?_, fun z hz => ?_⟩
      · by_cases h0 : at_ < L.length
        · refine .inr ⟨g, at_ * 8, rfl, ⟨hglo, by omega, fun e => by have := hv5 g e; omega⟩, fun i v hi => ?_⟩
          have hc : cellsNs L = cellsNs (L.take at_) ++ cellsNs (L.drop at_) := by
            conv => lhs; rw [← List.take_append_drop at_ L]
            unfold cellsNs cellsOf; rw [List.flatMap_append]
          have hlt : (cellsNs (L.take at_)).length = at_ * 8 := by rw [cellsNs_len, List.length_take, Nat.min_eq_left hat]
          have hrow2 : W.ownsRow lo 26 8 (.slice (some ⟨g, 0, none⟩) L.length cap) L.length (cellsNs L) := by rw [← hcv]; exact h.row
          have hi2 : i < (cellsNs (L.drop at_)).length := (List.getElem?_eq_some_iff.1 hi).1
          have hi3 : at_ * 8 + i < L.length * 8 := by
            rw [cellsNs_len, List.length_drop] at hi2
            have : at_ * 8 + (L.length - at_) * 8 = L.length * 8 := by omega
            omega
          refine (hb.cell (p := ⟨g, at_ * 8 + i, none⟩) hgl).trans ?_
          rw [hrow2.cellAt (at_ * 8 + i) hi3, hc, List.getElem?_append_right (by omega), hlt, show at_ * 8 + i - at_ * 8 = i by omega]
          exact hi
        · left
          have : L.drop at_ = [] := List.drop_eq_nil_of_le (by omega)
          rw [this]; rfl
      · refine ((h.kid z (List.mem_of_mem_drop hz)).keep (w' := w5) (fun b hb2 => hb.block b hb2.2.1)).imp fun b hb2 => ⟨hb2.1, by omega, fun e => ?_⟩
        have := hv5 b e; omega
end Go.Proofs.Ytapbhhehnbfdfaa
