/- Several texts of one proof, one behind the other. -/
import Derived.Test.YtcepbindmdakkaaVPk25
set_option linter.unusedSimpArgs false
set_option linter.unusedVariables false

/- A table that comes in as an argument. -/
set_option linter.unusedSimpArgs false
set_option linter.unusedVariables false
set_option maxRecDepth 100000
namespace Go.Proofs.Ytcepbindmdakkaa
open Go.RowKit Go.ChangeShapes Go.WideShapes Go.Deep Go.Joins

/-- What the walk is told of a table that came in. -/
structure TbIn (w : World) (t : Tb) (m : TM) : Prop where
  hc : m.cl = t.cols.length
  hk : m.kl = t.key.length
  ccap : m.cl ≤ m.cc
  kcap : m.kl ≤ m.kc
  cmax : m.cl ≤ 9223372036854775807
  kmax : m.kl ≤ 9223372036854775807
  carr : Arr w.heap.size w m.ca (cellsO t.cols)
  karr : Arr w.heap.size w m.ka (cellsI t.key)
  nm : t.name.size ≤ 9223372036854775807
  per : t.per.size ≤ 9223372036854775807
  fr : -9223372036854775808 ≤ t.fr ∧ t.fr ≤ 9223372036854775807
  tt : -9223372036854775808 ≤ t.tt ∧ t.tt ≤ 9223372036854775807
  cfair : ∀ c ∈ t.cols, c.nm.size ≤ 9223372036854775807 ∧ c.kd < 256
  kfair : ∀ k ∈ t.key, -9223372036854775808 ≤ k ∧ k ≤ 9223372036854775807

end Go.Proofs.Ytcepbindmdakkaa

/- Nodes and tables of a query that come in as arguments. -/
set_option linter.unusedSimpArgs false
set_option linter.unusedVariables false
set_option maxRecDepth 100000
namespace Go.Proofs.Ytcepbindmdakkaa
open Go.RowKit Go.ChangeShapes Go.WideShapes Go.Deep Go.Joins

theorem cellsI_rowZ (l : List Int) : cellsI l = rowZ l := by
  induction l with
  | nil => rfl
  | cons a r ih => show Value.int .i64 a :: cellsI r = Value.int .i64 a :: rowZ r; rw [ih]

set_option maxRecDepth 100000 in
theorem trod_node {T S : TypeId} {f0 f1 f2 f3 f4 f5 : Field} (hT : Try.prog.underlying T = some (.struct #[f0, f1, f2, f3, f4, f5])) (hS : Try.prog.underlying S = some (.slice T)) (hC : Try.prog.cellsOf T = 8) (c4 : Try.prog.cellsOf S = 1)
    (e0 : f0.type = 3 ∧ f0.offset = 0) (e1 : f1.type = 9 ∧ f1.offset = 1) (e2 : f2.type = 34 ∧ f2.offset = 2) (e3 : f3.type = 3 ∧ f3.offset = 5) (e4 : f4.type = 5 ∧ f4.offset = 6) (e5 : f5.type = S ∧ f5.offset = 7)
    {H : Type} {enc : TypeId × Value → H} {w : World} : ∀ (fuel : Nat) (cs : List Value) (x : DataW H × List MemPlace), DataW.trod enc Try.prog w 0 (fun _ => true) true fuel T cs = some x →
    ∃ r : NM, cs = cellsNd r ∧ NdAt w.heap.size w fuel r := by
  intro fuel
  induction fuel using Nat.strongRecOn with
  | ind fuel ih =>
    intro cs x h
    obtain ⟨xs, n, rfl, rfl, hl, hlen, hf⟩ := DataW.trod_struct hT h
    rw [hC] at hl
    match cs, hl with
    | [v0, v1, v2, v3, v4, v5, v6, v7], _ =>
      match xs, hlen with
      | [y0, y1, y2, y3, y4, y5], _ =>
        have c1 : Try.prog.cellsOf 3 = 1 := by kernel_rfl
        have c2 : Try.prog.cellsOf 34 = 3 := by kernel_rfl
        have c3 : Try.prog.cellsOf 9 = 1 := by kernel_rfl
        have c5 : Try.prog.cellsOf 5 = 1 := by kernel_rfl
        have g0 : DataW.trod enc Try.prog w 0 (fun _ => true) true n 3 [v0] = some y0 := by have := hf 0 f0 rfl; rw [e0.1, e0.2, c1] at this; exact this
        have g1 : DataW.trod enc Try.prog w 0 (fun _ => true) true n 9 [v1] = some y1 := by have := hf 1 f1 rfl; rw [e1.1, e1.2, c3] at this; exact this
        have g2 : DataW.trod enc Try.prog w 0 (fun _ => true) true n 34 [v2, v3, v4] = some y2 := by have := hf 2 f2 rfl; rw [e2.1, e2.2, c2] at this; exact this
        have g3 : DataW.trod enc Try.prog w 0 (fun _ => true) true n 3 [v5] = some y3 := by have := hf 3 f3 rfl; rw [e3.1, e3.2, c1] at this; exact this
        have g4 : DataW.trod enc Try.prog w 0 (fun _ => true) true n 5 [v6] = some y4 := by have := hf 4 f4 rfl; rw [e4.1, e4.2, c5] at this; exact this
        have g5 : DataW.trod enc Try.prog w 0 (fun _ => true) true n S [v7] = some y5 := by have := hf 5 f5 rfl; rw [e5.1, e5.2, c4] at this; exact this
        obtain ⟨z0, q0, p0, w0⟩ := DataW.trod_int Try.underlying3 g0
        obtain ⟨s1, q1, p1, w1⟩ := DataW.trod_string Try.underlying9 g1
        obtain ⟨u0, u1, u2, n1, rfl, _, k0, k1, k2⟩ := trod_struct3 Try.underlying34 g2
        have m0 : DataW.trod enc Try.prog w 0 (fun _ => true) true n1 5 [v2] = some u0 := k0
        have m1 : DataW.trod enc Try.prog w 0 (fun _ => true) true n1 2 [v3] = some u1 := k1
        have m2 : DataW.trod enc Try.prog w 0 (fun _ => true) true n1 9 [v4] = some u2 := k2
        obtain ⟨b0, q2, p2, w2⟩ := DataW.trod_int Try.underlying5 m0
        obtain ⟨b1, q3, p3, w3⟩ := DataW.trod_int Try.underlying2 m1
        obtain ⟨s4, q4, p4, w4⟩ := DataW.trod_string Try.underlying9 m2
        obtain ⟨z5, q5, p5, w5⟩ := DataW.trod_int Try.underlying3 g3
        obtain ⟨b6, q6, p6, w6⟩ := DataW.trod_int Try.underlying5 g4
        simp only [List.cons.injEq, and_true] at q0 q1 q2 q3 q4 q5 q6
        subst q0 q1 q2 q3 q4 q5 q6
        obtain ⟨kk, rfl, hkk⟩ := nat_u8 w2
        obtain ⟨tt, rfl, htt⟩ := nat_u8 w6
        have HL : NLb.fair ⟨z0, s1, ⟨kk, b1, s4⟩, z5, tt⟩ := by
          unfold maxLen at w1 w4
          exact ⟨bd_i64 w0, by simp only; omega, hkk, bd_i64 w3, by simp only; omega, bd_i64 w5, htt⟩
        rcases DataW.trod_slice hS g5 with ⟨hcs, _⟩ | ⟨a, len, cap, elems, rest, n2, hn, hcs, hy5, hb, hlc, hcm, hel, hel2, -, -⟩
        · simp only [List.cons.injEq, and_true] at hcs
          subst hcs
          exact ⟨⟨.mk ⟨z0, s1, ⟨kk, b1, s4⟩, z5, tt⟩ [], none, 0⟩, rfl, HL, Nat.le_refl _, by simp, [], rfl, .inl rfl, fun y hy => by cases hy⟩
        · simp only [List.cons.injEq, and_true] at hcs
          subst hcs hn
          have hkid : ∀ i : Fin len, ∃ r : NM, NdAt w.heap.size w n2 r ∧ ∀ (j : Nat) (v : Value), (cellsNd r)[j]? = some v → w.cell? ((a.add (i.1 * 8)).add j) = some v := by
            intro i
            have hi := hel2 i.1 i.2
            rw [hC] at hi
            have hil : i.1 < elems.length := by rw [hel]; exact i.2
            rw [List.getElem?_eq_getElem hil] at hi
            obtain ⟨cs', hc', ht'⟩ := Option.bind_eq_some_iff.1 hi
            obtain ⟨_, hlen, hat⟩ := World.cells?_some hc'
            obtain ⟨r, rfl, hr⟩ := ih n2 (by omega) cs' _ ht'
            exact ⟨r, hr, fun j v hj => by rw [hat j (by have h9 := (List.getElem?_eq_some_iff.1 hj).1; rw [cellsNd_len] at h9; exact h9)]; exact hj⟩
          obtain ⟨L, h1, h2, h3⟩ := row_of cellsNd 8 (by omega) cellsNd_len (fun r => NdAt w.heap.size w n2 r) w a len hkid
          unfold maxLen at hcm
          refine ⟨⟨.mk ⟨z0, s1, ⟨kk, b1, s4⟩, z5, tt⟩ (L.map (·.t)), some a, cap⟩, ?_, HL, ?_, by simp only; omega, L, rfl, h2, fun y hy => RoseAt.up (h3 y hy)⟩
          · subst h1; simp [cellsNd, cellsR, NLb.cells, Rose.lab, Rose.args]
          · simp [Rose.args]; omega

set_option maxRecDepth 100000 in
theorem open_node24 {H : Type} {enc : TypeId × Value → H} {w : World} {r : Reach} {b0 : Nat} {v : Value} {d : DataW H} {p : List MemPlace} (hv : Value.okWide Try.prog w r b0 36 v) (h : DataW.Trod enc Try.prog w 0 (fun _ => true) true 36 v d p) :
    ∃ (x : NM) (n : Nat), v = x.nv ∧ NdAt w.heap.size w n x := by
  obtain ⟨cs, rfl, _⟩ := okWide_struct Try.underlying36 hv
  obtain ⟨fuel, hf⟩ := h
  obtain ⟨x, hx, hA⟩ := trod_node Try.underlying36 Try.underlying23 (by kernel_rfl) (by kernel_rfl) ⟨rfl, rfl⟩ ⟨rfl, rfl⟩ ⟨rfl, rfl⟩ ⟨rfl, rfl⟩ ⟨rfl, rfl⟩ ⟨rfl, rfl⟩ fuel cs.toList (d, p) hf
  refine ⟨x, fuel, ?_, hA⟩
  unfold NM.nv
  rw [← hx]

set_option maxRecDepth 100000 in
theorem open_nodes24 {H : Type} {enc : TypeId × Value → H} {w : World} {r : Reach} {b0 : Nat} {v : Value} {d : DataW H} {p : List MemPlace} (hv : Value.okWide Try.prog w r b0 23 v) (h : DataW.Trod enc Try.prog w 0 (fun _ => true) true 23 v d p) :
    ∃ (a : Option Addr) (len cap : Nat) (z : List NM) (n : Nat), v = .slice a len cap ∧ z.length = len ∧ NsAt w.heap.size w n a cap z := by
  obtain ⟨a, len, cap, rfl⟩ := okWide_slice Try.underlying23 hv
  obtain ⟨fuel, hf⟩ := h
  rcases open_slice Try.underlying23 hf with ⟨hcs, _⟩ | ⟨x, l, c, m, n, D, Pl, hcs, _, hl, hm, hmm, _, hi⟩
  · simp [Value.cells] at hcs
    obtain ⟨rfl, rfl, rfl⟩ := hcs
    exact ⟨none, 0, 0, [], 0, rfl, rfl, .inl rfl, by simp, by simp, by omega⟩
  · simp [Value.cells] at hcs
    obtain ⟨rfl, rfl, rfl⟩ := hcs
    have hC : Try.prog.cellsOf 36 = 8 := by kernel_rfl
    unfold maxLen at hm
    have hmc : m = cap := by simpa using hmm
    obtain ⟨L, h1, h2, h3⟩ := row_of cellsNd 8 (by omega) cellsNd_len (fun r => NdAt w.heap.size w n r) w x len (fun i => by
      obtain ⟨cs', hc', ht'⟩ := hi i.1 (by have := i.2; omega)
      rw [hC] at hc'
      obtain ⟨_, hlen, hat⟩ := World.cells?_some hc'
      obtain ⟨r, rfl, hr⟩ := trod_node Try.underlying36 Try.underlying23 (by kernel_rfl) (by kernel_rfl) ⟨rfl, rfl⟩ ⟨rfl, rfl⟩ ⟨rfl, rfl⟩ ⟨rfl, rfl⟩ ⟨rfl, rfl⟩ ⟨rfl, rfl⟩ n cs' _ ht'
      exact ⟨r, hr, fun j v hj => by rw [hat j (by have h9 := (List.getElem?_eq_some_iff.1 hj).1; rw [cellsNd_len] at h9; exact h9)]; exact hj⟩)
    exact ⟨some x, len, cap, L, n, rfl, h1, h2, h3, by omega, by omega⟩

/-- The cells of tables of a query. -/
def PTm.cl (x : PTm) : List Value := x.cells
structure PTf (w : World) (x : PTm) : Prop where
  at_ : PTAt w.heap.size w x
  fr : -9223372036854775808 ≤ x.t.fr ∧ x.t.fr ≤ 9223372036854775807
  co : -9223372036854775808 ≤ x.t.co ∧ x.t.co ≤ 9223372036854775807
  key : ∀ k ∈ x.t.key, -9223372036854775808 ≤ k ∧ k ≤ 9223372036854775807
  idx : ∀ k ∈ x.t.idx, -9223372036854775808 ≤ k ∧ k ≤ 9223372036854775807
theorem PTAt.later {w w' : World} {x : PTm} (h : PTAt w.heap.size w x) (hb : Below w.heap.size w w') : PTAt w'.heap.size w' x :=
  ⟨(h.k.below hb).mono hb.size, h.kl, h.kc, (h.i.below hb).mono hb.size, h.il, h.ic⟩
theorem PTf.later {w w' : World} {x : PTm} (h : PTf w x) (hb : Below w.heap.size w w') : PTf w' x :=
  ⟨h.at_.later hb, h.fr, h.co, h.key, h.idx⟩
def cellsPT (l : List PTm) : List Value := cellsOf PTm.cl l
theorem PTm.cl_len (x : PTm) : x.cl.length = 5 := rfl
/-- A row of tables of a query that came in. -/
structure PsIn (w : World) (a : Option Addr) (len cap : Nat) (L : List PTm) : Prop where
  hlen : L.length = len
  hcap : len ≤ cap
  hmax : cap ≤ 9223372036854775807
  arr : Arr w.heap.size w a (cellsPT L)
  tabs : ∀ x ∈ L, PTf w x
theorem PsIn.later {w w' : World} {a : Option Addr} {len cap : Nat} {L : List PTm} (h : PsIn w a len cap L) (hb : Below w.heap.size w w') : PsIn w' a len cap L :=
  ⟨h.hlen, h.hcap, h.hmax, (h.arr.below hb).mono hb.size, fun x hx => (h.tabs x hx).later hb⟩
/-- The cells of the k-th table. -/
structure Slot5T (w : World) (b o : Nat) (x : PTm) : Prop where
  c0 : w.cell? ⟨b, o, none⟩ = some (.int .i64 x.t.fr)
  c1 : w.cell? ⟨b, o + 1, none⟩ = some (.int .i64 x.t.co)
  c2 : w.cell? ⟨b, o + 2, none⟩ = some (.slice x.ka x.t.key.length x.kc)
  c3 : w.cell? ⟨b, o + 3, none⟩ = some (.slice x.ia x.t.idx.length x.ic)
  c4 : w.cell? ⟨b, o + 4, none⟩ = some (.bool x.t.now)
theorem PsIn.at_ {w : World} {a : Option Addr} {len cap : Nat} {L : List PTm} (h : PsIn w a len cap L) {k : Nat} (hk : k < L.length) : ∃ b o, a = some ⟨b, o, none⟩ ∧ b < w.heap.size ∧ Slot5T w b (o + k * 5) L[k] := by
  obtain ⟨b, o, ha, hb, hc⟩ := h.arr.at_ (by intro h0; have := cellsOf_len PTm.cl 5 PTm.cl_len L; unfold cellsPT at h0; rw [h0] at this; simp at this; omega)
  have g := fun (j : Nat) (v : Value) (hv : (PTm.cl L[k])[j]? = some v) => hc _ _ (cellsOf_get PTm.cl 5 PTm.cl_len L k j L[k] v (List.getElem?_eq_getElem hk) hv)
  refine ⟨b, o, ha, hb, ?_, ?_, ?_, ?_, ?_⟩
  · simpa using g 0 _ rfl
  · simpa [Nat.add_assoc] using g 1 _ rfl
  · simpa [Nat.add_assoc] using g 2 _ rfl
  · simpa [Nat.add_assoc] using g 3 _ rfl
  · simpa [Nat.add_assoc] using g 4 _ rfl

set_option maxRecDepth 100000 in
theorem open_tabs24 {H : Type} {enc : TypeId × Value → H} {w : World} {r : Reach} {b0 : Nat} {v : Value} {d : DataW H} {p : List MemPlace} (hv : Value.okWide Try.prog w r b0 22 v) (h : DataW.Trod enc Try.prog w 0 (fun _ => true) true 22 v d p) :
    ∃ (a : Option Addr) (len cap : Nat) (z : List PTm), v = .slice a len cap ∧ PsIn w a len cap z := by
  obtain ⟨a, len, cap, rfl⟩ := okWide_slice Try.underlying22 hv
  obtain ⟨fuel, hf⟩ := h
  rcases open_slice Try.underlying22 hf with ⟨hcs, _⟩ | ⟨x, l, c, m, n, D, Pl, hcs, _, hl, hm, hmm, _, hi⟩
  · simp [Value.cells] at hcs
    obtain ⟨rfl, rfl, rfl⟩ := hcs
    exact ⟨none, 0, 0, [], rfl, rfl, by omega, by omega, .inl rfl, by simp⟩
  · simp [Value.cells] at hcs
    obtain ⟨rfl, rfl, rfl⟩ := hcs
    have hC : Try.prog.cellsOf 29 = 5 := by kernel_rfl
    unfold maxLen at hm
    have hmc : m = cap := by simpa using hmm
    obtain ⟨L, h1, h2, h3⟩ := row_of PTm.cl 5 (by decide) PTm.cl_len (fun x => PTf w x) w x len (fun i => by
      obtain ⟨cs', hc', ht'⟩ := hi i.1 (by have := i.2; omega)
      rw [hC] at hc'
      obtain ⟨_, hlen, hat⟩ := World.cells?_some hc'
      obtain ⟨xs, n', _, hx, hl', hlen', hfin⟩ := DataW.trod_struct Try.underlying29 ht'
      match cs', hlen with
      | [v0, v1, v2, v3, v4], _ =>
        match xs, hlen' with
        | [y0, y1, y2, y3, y4], _ =>
          have g0 : DataW.trod enc Try.prog w 0 (fun _ => true) true n' 3 [v0] = some y0 := hfin 0 _ rfl
          have g1 : DataW.trod enc Try.prog w 0 (fun _ => true) true n' 3 [v1] = some y1 := hfin 1 _ rfl
          have g2 : DataW.trod enc Try.prog w 0 (fun _ => true) true n' 27 [v2] = some y2 := hfin 2 _ rfl
          have g3 : DataW.trod enc Try.prog w 0 (fun _ => true) true n' 27 [v3] = some y3 := hfin 3 _ rfl
          have g4 : DataW.trod enc Try.prog w 0 (fun _ => true) true n' 4 [v4] = some y4 := hfin 4 _ rfl
          obtain ⟨z0, e0, -, w0⟩ := DataW.trod_int Try.underlying3 g0
          obtain ⟨z1, e1, -, w1⟩ := DataW.trod_int Try.underlying3 g1
          obtain ⟨ka, kl, kc, ks, e2, k1, k2, k3, k4, k5⟩ := trod_nums g2
          obtain ⟨ia, il, ic, is, e3, i1, i2, i3, i4, i5⟩ := trod_nums g3
          obtain ⟨b4, e4, -⟩ := DataW.trod_bool Try.underlying4 g4
          simp only [List.cons.injEq, and_true] at e0 e1 e2 e3 e4
          subst e0 e1 e2 e3 e4 k1 i1
          rw [cellsI_rowZ] at k4 i4
          exact ⟨⟨⟨z0, z1, ks, is, b4⟩, ka, kc, ia, ic⟩, ⟨⟨k4, k2, k3, i4, i2, i3⟩, bd_i64 w0, bd_i64 w1, k5, i5⟩, fun j v hj => by rw [hat j (by have h9 := (List.getElem?_eq_some_iff.1 hj).1; rw [PTm.cl_len] at h9; exact h9)]; exact hj⟩)
    exact ⟨some x, len, cap, L, rfl, h1, hl, by omega, h2, h3⟩
end Go.Proofs.Ytcepbindmdakkaa

/- plan.Table.step. -/
set_option linter.unusedSimpArgs false
set_option linter.unusedVariables false
set_option maxRecDepth 100000
namespace Go.Proofs.Ytcepbindmdakkaa
open Go.RowKit

abbrev zeroStc : Array Value := #[.int .i64 0, .int .i64 0, .slice none 0 0]
theorem info_stS : (Try.prog.info? 45).map (·.size) = some 3 := by kernel_rfl
/-- What a step may be, of a table with so many columns in its key. -/
def okStep (fr : Int) (m : Nat) (kd : Int) (L : List Nx) : Prop :=
  (∀ y ∈ L, goodN fr y) ∧ ((kd = 0 ∧ L = []) ∨ (kd = 1 ∧ L.length = m) ∨ (kd = 2 ∧ L.length = 1))
def RetStep (w : World) (n m : Nat) (fr : Int) (K : List Int) (P : List Nx) (e : Ending) (w' : World) : Prop :=
  Below w.heap.size w w' ∧ ∃ (kd co : Int) (a : Option Addr) (len cap : Nat) (L : List NM), e = .returned (.agg #[.int .i64 kd, .int .i64 co, .slice a len cap]) ∧ NdsIn w.heap.size w' n (.slice a len cap) L ∧ L.length = len ∧ okStep fr m kd (L.map (·.t)) ∧
    ((∀ i ∈ K, (eqParts (fr + i) fr P).isSome = true) → kd = 1)

/-- The end: a step is stored into the result's block and loaded. -/
theorem step_end {w w0 w2 : World} {n m : Nat} {fr : Int} (HB0 : Below w.heap.size w w0) (hs0 : w0.heap.size = w.heap.size + 2) (hr : Blk w0 (w.heap.size + 1) 45 zeroStc) (hb2 : Below w0.heap.size w0 w2)
    (kd co : Int) (a : Option Addr) (len cap : Nat) (L : List NM) (hL : NdsIn w0.heap.size w2 n (.slice a len cap) L) (hl : L.length = len) (hok : okStep fr m kd (L.map (·.t))) (K : List Int) (P : List Nx) (hk1 : (∀ i ∈ K, (eqParts (fr + i) fr P).isSome = true) → kd = 1) :
    (storeVar 45 ⟨w.heap.size + 1, 0, none⟩ (.agg #[.int .i64 kd, .int .i64 co, .slice a len cap])).run Try.prog w2 = .ok () (w2.setRow (w.heap.size + 1) #[.int .i64 kd, .int .i64 co, .slice a len cap]) ∧
    (loadVar 45 ⟨w.heap.size + 1, 0, none⟩).run Try.prog (w2.setRow (w.heap.size + 1) #[.int .i64 kd, .int .i64 co, .slice a len cap]) = .ok (.agg #[.int .i64 kd, .int .i64 co, .slice a len cap]) (w2.setRow (w.heap.size + 1) #[.int .i64 kd, .int .i64 co, .slice a len cap]) ∧
    RetStep w n m fr K P (.returned (.agg #[.int .i64 kd, .int .i64 co, .slice a len cap])) (w2.setRow (w.heap.size + 1) #[.int .i64 kd, .int .i64 co, .slice a len cap]) := by
  have hr2 : Blk w2 (w.heap.size + 1) 45 zeroStc := (hb2.block _ (by omega)).trans hr
  have hc : Chg [w.heap.size + 1] w2 (w2.setRow (w.heap.size + 1) #[.int .i64 kd, .int .i64 co, .slice a len cap]) := (Chg.refl _ _).setRow (.inl (by simp)) _
  have hB2 := HB0.trans (hb2.mono HB0.size)
  refine ⟨run_storeVar_row _ _ _ 45 _ _ hr2 (by rw [info_stS]; rfl) rfl (by simp [Value.oneCell']), run_loadVar_row _ _ _ 45 _ (0, 0) _ (Blk.setRow (new := #[.int .i64 kd, .int .i64 co, .slice a len cap]) hr2) Try.underlying45 rfl (by rw [info_stS]; rfl), ?_⟩
  refine ⟨hB2.trans (hc.below hB2.size (by simp)), kd, co, a, len, cap, L, rfl, ?_, hl, hok, hk1⟩
  refine (hL.keep (by simp) fun b h1 h2 => hc.block b h2 (by simp; omega)).base (by omega)

set_option maxHeartbeats 8000000 in
theorem step_any (x : PTm) (n : Nat) (P : List NM) (a : Option Addr) (cap q : Nat) (w : World)
    (hx : PTAt w.heap.size w x) (hfr : -10000 < x.t.fr ∧ x.t.fr < 10000) (hk : ∀ i ∈ x.t.key, 0 ≤ i ∧ i < 10000) (hix : ∀ i ∈ x.t.idx, 0 ≤ i ∧ i < 10000) (hkm : x.t.key.length ≤ 1000000) (him : x.t.idx.length ≤ 1000000)
    (hP : NsAt w.heap.size w (n + 1) a cap P) (hq : P.length = q) (hc : ∀ y ∈ P, y.t.count ≤ 1000000) :
    Calls Try.prog 20 #[.agg #[.int .i64 x.t.fr, .int .i64 x.t.co, .slice x.ka x.t.key.length x.kc, .slice x.ia x.t.idx.length x.ic, .bool x.t.now], .slice a q cap] w (RetStep w n x.t.key.length x.t.fr x.t.key (P.map (·.t))) := by
  obtain ⟨m, hm⟩ : ∃ m, x.t.key.length = m := ⟨_, rfl⟩
  obtain ⟨g, hg⟩ : ∃ g, x.t.idx.length = g := ⟨_, rfl⟩
  obtain ⟨fr, hfr0⟩ : ∃ fr, x.t.fr = fr := ⟨_, rfl⟩
  obtain ⟨w0, hw0⟩ : ∃ w0, (w.alloc (.cells (tabCs x) 29)).alloc (.cells zeroStc 45) = w0 := ⟨_, rfl⟩
  have HB0 : Hid (Below w.heap.size w w0) := by rw [← hw0]; exact ((Below.refl _ w).alloc (Nat.le_refl _) _).alloc (by simp) _
  have HS0 : Hid (w0.heap.size = w.heap.size + 2) := by rw [← hw0]; simp [Hid]
  have HV : Hid (Blk w0 w.heap.size 29 (tabCs x)) := by rw [← hw0]; exact (Blk.new w _ _).alloc _
  have HR : Hid (Blk w0 (w.heap.size + 1) 45 zeroStc) := by
    rw [← hw0]
    have := Blk.new (w.alloc (.cells (tabCs x) 29)) 45 zeroStc
    rw [show (w.alloc (.cells (tabCs x) 29)).heap.size = w.heap.size + 1 by simp] at this
    exact this
  have HEK := Lib.hid (fun (V : World) (hb : Below w.heap.size w V) => equals_any x x.t.key x.ka x.kc m n P a cap q V hfr hk ((hx.later hb).k) hm (by rw [← hm]; exact hx.kl) (by omega) (hP.later hb) hq hc)
  have HEI := Lib.hid (fun (s : Int) (o : Nat) (V : World) (hb : Below w.heap.size w V) (hs : 0 ≤ s ∧ s < 10000) (hV : Arr V.heap.size V (some ⟨o, 0, none⟩) (rowZ [s])) => equals_any x [s] (some ⟨o, 0, none⟩) 1 1 n P a cap q V hfr (by simpa using hs) hV rfl (by omega) (by omega) (hP.later hb) hq hc)
  have HIx := Lib.hid hix
  have HIa := Lib.hid (fun (V : World) (hb : Below w.heap.size w V) => (hx.later hb).i)
  have hic := hx.il
  have hic2 := hx.ic
  have HG := Lib.hid hg
  have HM := Lib.hid hm
  rw [hg] at hic him
  simp only [tabCs] at hw0 HV
  rw [hfr0, hm, hg] at hw0 HV HEK HEI
  rw [hfr0, hm, hg]
  obtain ⟨co, hco⟩ : ∃ co, x.t.co = co := ⟨_, rfl⟩
  obtain ⟨now, hnow⟩ : ∃ now, x.t.now = now := ⟨_, rfl⟩
  obtain ⟨ka, hka⟩ : ∃ ka, x.ka = ka := ⟨_, rfl⟩
  obtain ⟨kc, hkc⟩ : ∃ kc, x.kc = kc := ⟨_, rfl⟩
  obtain ⟨ia, hia⟩ : ∃ ia, x.ia = ia := ⟨_, rfl⟩
  obtain ⟨ic, hicc⟩ : ∃ ic, x.ic = ic := ⟨_, rfl⟩
  rw [hco, hnow, hka, hkc, hia, hicc] at hw0 HV HEK HEI
  rw [hco, hnow, hka, hkc, hia, hicc]
  rw [hia] at HIa
  rw [hicc] at hic hic2
  generalize x.t.idx = IX at *
  clear hx hk hix hfr hkm hP hq hc hm hg hfr0 hco hnow hka hkc hia hicc
  have c0 := (HV.out.cell 0).trans rfl
  have c1 := (HV.out.cell 1).trans rfl
  have c2 := (HV.out.cell 2).trans rfl
  have c3 := (HV.out.cell 3).trans rfl
  have c4 := (HV.out.cell 4).trans rfl
  go_enter Try.func20, Try.ntmps20
  go_wp2_with fail
  refine (HEK.out w0 HB0.out).mono ?_
  rintro e w1 ⟨hb1, ⟨rfl, hno⟩ | ⟨cv, L, rfl, hN, hL, hG⟩⟩
  · have HB1 := Lib.hid hb1
    have HNk : Hid ((∀ i ∈ x.t.key, (eqParts (fr + i) fr (P.map (·.t))).isSome = true) → False) := fun h => by
      obtain ⟨i, hi, hn⟩ := hno
      have := h i hi
      rw [hn] at this; cases this
    clear hb1 hno c0 c1 c2 c3 c4 HEK
    have HVl := Lib.hid (fun (V : World) (hb : Below w0.heap.size w0 V) => (hb.block w.heap.size (by have := HS0.out; omega)).trans HV.out)
    have d3 : w1.cell? ⟨w.heap.size, 3, none⟩ = some (.slice ia g ic) := (Blk.cell (HVl.out w1 HB1.out) 3).trans rfl
    go_wp2
    clear d3
    go_loopw [25] (fun i wr => ∃ k : Nat, k ≤ g ∧ i = .int .i64 (k : Int) ∧ Hid (Below w0.heap.size w0 wr)) (fun i _ => g - (intOf i).toNat)
    case atStart => exact ⟨0, by omega, rfl, HB1.out⟩
    case round =>
      obtain ⟨k, hk, rfl, HBr⟩ := hrel
      have HBw := Lib.hid (HB0.out.trans (HBr.out.mono HB0.out.size))
      by_cases hlt : k < g
      · have hkl : k < IX.length := by rw [HG.out]; exact hlt
        obtain ⟨s, hs⟩ : ∃ s, IX[k] = s := ⟨_, rfl⟩
        have hsb := HIx.out s (by rw [← hs]; exact List.getElem_mem hkl)
        rcases HIa.out wr HBw.out with h0 | ⟨b, o, hab, hbN, hcc⟩
        · have : IX = [] := by simpa [rowZ] using h0
          rw [this] at hkl; exact absurd hkl (by simp)
        subst hab
        have y0 : wr.cell? ⟨b, o + k, none⟩ = some (.int .i64 s) := hcc k _ (by simp [rowZ, List.getElem?_eq_getElem hkl, hs])
        have hBk : Blk wr w.heap.size 29 _ := HVl.out wr HBr.out
        have c0 := (hBk.cell 0).trans rfl
        have c1 := (hBk.cell 1).trans rfl
        have c2 := (hBk.cell 2).trans rfl
        have c3 := (hBk.cell 3).trans rfl
        have c4 := (hBk.cell 4).trans rfl
        obtain ⟨w2, hw2⟩ : ∃ w2, wr.alloc (.cells #[.int .i64 s] 3) = w2 := ⟨_, rfl⟩
        have hA2 : Arr w2.heap.size w2 (some ⟨wr.heap.size, 0, none⟩) (rowZ [s]) := .inr ⟨wr.heap.size, 0, rfl, by rw [← hw2]; simp, fun i v hi => by
          cases i with
          | zero => simp at hi; subst hi; rw [← hw2]; exact (Blk.cell (Blk.new wr 3 #[.int .i64 s]) 0).trans rfl
          | succ i => simp at hi⟩
        have hb2 : Below wr.heap.size wr w2 := by rw [← hw2]; exact (Below.refl _ wr).alloc (Nat.le_refl _) _
        have HBw2 := Lib.hid (HBr.out.trans (hb2.mono HBr.out.size))
        have HY := Lib.hid (HEI.out s wr.heap.size w2 (HB0.out.trans (HBw2.out.mono HB0.out.size)) hsb hA2)
        clear hs hkl hcc HEI HIx HIa hbN hBk hA2 hb2 hsb
        go_wp2_with fail
        refine HY.out.mono ?_
        rintro e w3 ⟨hb3, ⟨rfl, -⟩ | ⟨cv, L, rfl, hN, hL, hG⟩⟩
        · have HB3 := Lib.hid (HBw2.out.trans (hb3.mono HBw2.out.size))
          clear hb3 HY y0 c0 c1 c2 c3 c4
          go_wp2
          go_roundw
          case rel => exact ⟨k + 1, by omega, by go_num, HB3.out⟩
          case measure => simp [intOf]; omega
        · have hB3 := HBw2.out.trans (hb3.mono HBw2.out.size)
          obtain ⟨av, cc, hcv, -, -, -⟩ := own_slice hN.row
          rw [hL] at hcv
          subst hcv
          obtain ⟨h1, h2, h3⟩ := step_end (n := n) (m := m) (fr := fr) HB0.out HS0.out HR.out hB3 2 s av 1 cc L (hN.base (HBw2.out.size)) hL ⟨fun y hy => (by obtain ⟨z, hz, rfl⟩ := List.mem_map.1 hy; exact hG z hz), .inr (.inr ⟨rfl, by simpa using hL⟩)⟩ x.t.key (P.map (·.t)) (fun h => (HNk.out h).elim)
          have HS := Lib.hid h1
          have HL := Lib.hid h2
          have HF := Lib.hid h3
          clear h1 h2 h3 hb3 hB3 hN hL hG HY y0 c0 c1 c2 c3 c4
          go_wp2_with (first | (guard_target =~ wpList _ _ _ (Oper.mk _ (Op.store 45 _ _) _ _ _ _ :: _) _ _; refine wpList_skp rfl (exec_store rfl rfl rfl HS.out) ?_))
          exact bodyPost_ret (v := .agg #[.int .i64 2, .int .i64 s, .slice av 1 cc]) (results_cell1x Try.results20 _ _ rfl HL.out) rfl HF.out
      · obtain ⟨h1, h2, h3⟩ := step_end (n := n) (m := m) (fr := fr) HB0.out HS0.out HR.out HBr.out 0 0 none 0 0 [] (NdsIn.nil _ _ _) rfl ⟨fun y hy => (by cases hy), .inl ⟨rfl, rfl⟩⟩ x.t.key (P.map (·.t)) (fun h => (HNk.out h).elim)
        have HS := Lib.hid h1
        have HL := Lib.hid h2
        have HF := Lib.hid h3
        clear h1 h2 h3
        go_wp2_with (first | (guard_target =~ wpList _ _ _ (Oper.mk _ (Op.store 45 _ _) _ _ _ _ :: _) _ _; refine wpList_skp rfl (exec_store rfl rfl rfl HS.out) ?_))
        exact bodyPost_ret (v := .agg #[.int .i64 0, .int .i64 0, .slice none 0 0]) (results_cell1x Try.results20 _ _ rfl HL.out) rfl HF.out
  · obtain ⟨av, cc, hcv, -, -, -⟩ := own_slice hN.row
    rw [hL] at hcv
    subst hcv
    obtain ⟨h1, h2, h3⟩ := step_end (n := n) (m := m) (fr := fr) HB0.out HS0.out HR.out hb1 1 0 av m cc L hN hL ⟨fun y hy => (by obtain ⟨z, hz, rfl⟩ := List.mem_map.1 hy; exact hG z hz), .inr (.inl ⟨rfl, by simpa using hL⟩)⟩ x.t.key (P.map (·.t)) (fun _ => rfl)
    have HS := Lib.hid h1
    have HL := Lib.hid h2
    have HF := Lib.hid h3
    clear h1 h2 h3 hb1 hN hL hG c0 c1 c2 c3 c4 HEK HEI
    go_wp2_with (first | (guard_target =~ wpList _ _ _ (Oper.mk _ (Op.store 45 _ _) _ _ _ _ :: _) _ _; refine wpList_skp rfl (exec_store rfl rfl rfl HS.out) ?_))
    exact bodyPost_ret (v := .agg #[.int .i64 1, .int .i64 0, .slice av m cc]) (results_cell1x Try.results20 _ _ rfl HL.out) rfl HF.out
end Go.Proofs.Ytcepbindmdakkaa

/- Steps of a query in memory; what plan.Steps hands back. -/
set_option linter.unusedSimpArgs false
set_option linter.unusedVariables false
set_option maxRecDepth 100000
namespace Go.Proofs.Ytcepbindmdakkaa
open Go.RowKit

/-- A step, with the place of its nodes. -/
structure StM where
  kd : Int
  co : Int
  a : Option Addr
  cap : Nat
  L : List NM
def cellsS3 (x : StM) : List Value := [.int .i64 x.kd, .int .i64 x.co, .slice x.a x.L.length x.cap]
theorem cellsS3_len (x : StM) : (cellsS3 x).length = 3 := rfl
abbrev zeroSt : StM := ⟨0, 0, none, 0, []⟩
def StIn (p : Nat → Prop) (W : World) (n : Nat) (x : StM) : Prop :=
  ArrIn p W x.a (cellsNs x.L) ∧ (∀ y ∈ x.L, NdIn p W n y) ∧ x.L.length ≤ x.cap ∧ x.cap ≤ 9223372036854775807
theorem StIn.imp {p q : Nat → Prop} (h : ∀ b, p b → q b) {W : World} {n : Nat} {x : StM} (hx : StIn p W n x) : StIn q W n x :=
  ⟨hx.1.imp h, fun y hy => (hx.2.1 y hy).imp h, hx.2.2⟩
theorem StIn.keep {p : Nat → Prop} {W W' : World} (h : ∀ b, p b → W'.heap[b]? = W.heap[b]?) {n : Nat} {x : StM} (hx : StIn p W n x) : StIn p W' n x :=
  ⟨hx.1.keep h, fun y hy => (hx.2.1 y hy).keep h, hx.2.2⟩
theorem StIn.zero (p : Nat → Prop) (W : World) (n : Nat) : StIn p W n zeroSt := ⟨.inl rfl, (fun y hy => by cases hy), Nat.le_refl _, by show (0 : Nat) ≤ _; omega⟩
theorem StIn.at_ {W : World} {n : Nat} {x : StM} (hx : StIn (fun b => b < W.heap.size) W n x) : NsAt W.heap.size W n x.a x.cap x.L :=
  ⟨hx.1.arr, fun y hy => (hx.2.1 y hy).at_, hx.2.2.1, hx.2.2.2⟩
theorem NdsIn.st {lo : Nat} {W : World} {n : Nat} {a : Option Addr} {len cap : Nat} {L : List NM} (h : NdsIn lo W n (.slice a len cap) L) (kd co : Int) :
    StIn (fun b => lo ≤ b ∧ b < W.heap.size) W n ⟨kd, co, a, cap, L⟩ := by
  refine ⟨?_, fun y hy => (h.kid y hy).imp fun b hb => ⟨hb.1, hb.2.1⟩, ?_⟩
  · obtain ⟨h1, h2⟩ := h.row
    rcases h2 with ⟨hv, hn⟩ | ⟨g, cap', cur, hv, hg, hh, hnc, hcm, hcs, hcur⟩
    · have hL : L = [] := List.length_eq_zero_iff.1 hn
      subst hL
      exact .inl rfl
    · injection hv with e1 e2 e3
      subst e1
      refine .inr ⟨g, 0, rfl, ⟨hg, (Array.getElem?_eq_some_iff.1 hh).1⟩, fun i u hi => ?_⟩
      have e1 : (cur.toList.take (L.length * 8))[i]? = some u := by rw [hcur]; exact hi
      rw [List.getElem?_take] at e1
      split at e1
      · simp only [World.cell?, hh, Nat.zero_add]
        simpa using e1
      · simp at e1
  · obtain ⟨a2, c2, hcv, h3, h4, -⟩ := own_slice h.row
    injection hcv with e1 e2 e3
    subst e3
    exact ⟨h3, h4⟩

/-- What is known of a table's step. -/
def okAt (sf : Bool) (P : List Nx) (t : PTm) (x : StM) : Prop :=
  okStep t.t.fr t.t.key.length x.kd (x.L.map (·.t)) ∧ (sf = false → x.kd = 0) ∧ (sf = true → pathsZ t.t = true → (∀ i ∈ t.t.key, (eqParts (t.t.fr + i) t.t.fr P).isSome = true) → x.kd = 1)
/-- Steps under way: those of the first k tables stand in the row. -/
structure StepsIn (sf : Bool) (P : List Nx) (lo : Nat) (W : World) (n q k : Nat) (v : Value) (T : List PTm) (D : List StM) : Prop where
  row : W.ownsRow lo 45 3 v q (cellsOf cellsS3 D ++ cellsOf cellsS3 (List.replicate (q - k) zeroSt))
  len : D.length = k
  kid : ∀ x ∈ D, StIn (fun b => lo ≤ b ∧ b < W.heap.size ∧ v.ownBlock ≠ some b) W n x
  ok : ∀ (i : Nat) (t : PTm) (x : StM), T[i]? = some t → D[i]? = some x → okAt sf P t x
theorem StepsIn.later {sf : Bool} {P : List Nx} {lo : Nat} {W W' : World} {n q k : Nat} {v : Value} {T : List PTm} {D : List StM} (h : StepsIn sf P lo W n q k v T D) (hb : Below W.heap.size W W') : StepsIn sf P lo W' n q k v T D :=
  ⟨own_below h.row (Nat.le_refl _) hb, h.len, fun x hx => ((h.kid x hx).keep (fun b hb2 => hb.block b hb2.2.1)).imp fun b hb2 => ⟨hb2.1, Nat.lt_of_lt_of_le hb2.2.1 hb.size, hb2.2.2⟩, h.ok⟩
theorem okStep_zero (fr : Int) (m : Nat) : okStep fr m 0 [] := ⟨(fun y hy => by cases hy), .inl ⟨rfl, rfl⟩⟩
theorem ok_snoc {sf : Bool} {P : List Nx} {T : List PTm} {D : List StM} {k : Nat} {z : StM} (hl : D.length = k) (h : ∀ (i : Nat) (t : PTm) (x : StM), T[i]? = some t → D[i]? = some x → okAt sf P t x)
    (hz : ∀ t, T[k]? = some t → okAt sf P t z) : ∀ (i : Nat) (t : PTm) (x : StM), T[i]? = some t → (D ++ [z])[i]? = some x → okAt sf P t x := by
  intro i t x ht hx
  by_cases hi : i < D.length
  · rw [List.getElem?_append_left hi] at hx
    exact h i t x ht hx
  · rw [List.getElem?_append_right (by omega)] at hx
    by_cases hik : i = k
    · subst hik
      rw [show i - D.length = 0 by omega] at hx
      simp at hx
      subst hx
      exact hz t ht
    · rw [List.getElem?_eq_none (by simp; omega)] at hx
      cases hx
theorem rep_split (q k : Nat) (h : k < q) : List.replicate (q - k) zeroSt = zeroSt :: List.replicate (q - (k + 1)) zeroSt := by
  rw [show q - k = (q - (k + 1)) + 1 by omega, List.replicate_succ]
/-- A table of which all rows are to be found. -/
theorem StepsIn.skip {sf : Bool} {P : List Nx} {lo : Nat} {W : World} {n q k : Nat} {v : Value} {T : List PTm} {D : List StM} (h : StepsIn sf P lo W n q k v T D) (hk : k < q) (hz : ∀ t, T[k]? = some t → okAt sf P t zeroSt) : StepsIn sf P lo W n q (k + 1) v T (D ++ [zeroSt]) := by
  refine ⟨?_, by rw [List.length_append, h.len]; rfl, fun x hx => ?_, ok_snoc h.len h.ok hz⟩
  · have := h.row
    rw [rep_split q k hk] at this
    rw [cellsOf_snoc]
    simpa [cellsOf] using this
  · rcases List.mem_append.1 hx with hx | hx
    · exact h.kid x hx
    · rw [List.mem_singleton.1 hx]; exact StIn.zero _ _ _
/-- A step is stored. -/
theorem StepsIn.put {sf : Bool} {P : List Nx} {lo : Nat} {W w2 : World} {n q k : Nat} {v : Value} {T : List PTm} {D : List StM} (h : StepsIn sf P lo W n q k v T D) (hk : k < q) (hlo : lo ≤ W.heap.size) (hb : Below W.heap.size W w2) (z : StM)
    (hz : StIn (fun b => W.heap.size ≤ b ∧ b < w2.heap.size) w2 n z) (hok : ∀ t, T[k]? = some t → okAt sf P t z) :
    ∃ g cap R, v = .slice (some ⟨g, 0, none⟩) q cap ∧ lo ≤ g ∧ q ≤ cap ∧ Chg [g] w2 (w2.setRow g R) ∧
      (storeVar 45 ⟨g, k * 3, none⟩ (.agg #[.int .i64 z.kd, .int .i64 z.co, .slice z.a z.L.length z.cap])).run Try.prog w2 = .ok () (w2.setRow g R) ∧ StepsIn sf P lo (w2.setRow g R) n q (k + 1) v T (D ++ [z]) := by
  have hrow := own_below h.row (Nat.le_refl _) hb
  rw [rep_split q k hk] at hrow
  have e0 : cellsOf cellsS3 (zeroSt :: List.replicate (q - (k + 1)) zeroSt) = cellsS3 zeroSt ++ cellsOf cellsS3 (List.replicate (q - (k + 1)) zeroSt) := rfl
  rw [e0, ← List.append_assoc] at hrow
  obtain ⟨g, cap, R, hv, hg, hglt, hcap, hput⟩ := own_set (P := Try.prog) hrow (by rw [cellsOf_len cellsS3 3 cellsS3_len, h.len]) (cellsS3_len zeroSt) hk (by omega) (cellsS3 z).toArray rfl info_stS (by simp [cellsS3, Value.oneCell'])
  obtain ⟨h1, h2⟩ := hput w2 rfl
  have hgW : g < W.heap.size := by
    have := own_lt h.row (g := g) (by rw [hv]; rfl)
    exact this
  refine ⟨g, cap, R, hv, hg, hcap, (Chg.refl _ _).setRow (.inl (by simp)) _, h1, ?_, by rw [List.length_append, h.len]; rfl, fun x hx => ?_, ok_snoc h.len h.ok hok⟩
  · rw [cellsOf_snoc]; simpa using h2
  · have hsz := hb.size
    rcases List.mem_append.1 hx with hx | hx
    · refine ((h.kid x hx).keep (W' := w2.setRow g R) (fun b hb2 => (setRow_other _ g b _ (fun e => hb2.2.2 (by rw [hv, e]; rfl))).trans (hb.block b hb2.2.1))).imp fun b hb2 => ⟨hb2.1, by simp; omega, hb2.2.2⟩
    · rw [List.mem_singleton.1 hx]
      refine (hz.keep (W' := w2.setRow g R) (fun b hb2 => setRow_other _ g b _ (by omega))).imp fun b hb2 => ⟨by omega, by simp; exact hb2.2, ?_⟩
      rw [hv]
      intro he
      have : g = b := by simpa [Value.ownBlock] using he
      omega
theorem info_st : (Try.prog.info? 45).map (fun i => (i.zero, i.size, i.bytes)) = some (some (.agg #[.int .i64 0, .int .i64 0, .slice none 0 0]), 3, 40) := by kernel_rfl
theorem made3 (q : Nat) (hq : q ≤ 6) : madeCells (Value.agg #[.int .i64 0, .int .i64 0, .slice none 0 0]).cells (q * 3) = (cellsOf cellsS3 (List.replicate q zeroSt)).toArray := by
  rcases (show q = 0 ∨ q = 1 ∨ q = 2 ∨ q = 3 ∨ q = 4 ∨ q = 5 ∨ q = 6 by omega) with rfl | rfl | rfl | rfl | rfl | rfl | rfl <;> kernel_rfl
theorem made_steps (q : Nat) (hq : q ≤ 6) (V : World) : (Instr.makeSlice 40 (.int .i64 (q : Int)) (.int .i64 (q : Int))).run Try.prog V = .ok (.slice (some ⟨V.heap.size, 0, none⟩) q q) (V.alloc (.cells (cellsOf cellsS3 (List.replicate q zeroSt)).toArray 45)) := by
  obtain ⟨i0, hi, hz0, hz1, hz2⟩ := info_parts info_st
  have hr := run_make (P := Try.prog) V 40 45 i0 _ Try.underlying40 hi hz0 .i64 .i64 (q : Int) (q : Int) (by omega) (Int.le_refl _) (by rw [hz2]; omega) (by omega)
  simp only [Int.toNat_natCast, hz1] at hr
  rw [made3 q hq] at hr
  exact hr
theorem StepsIn.base {sf : Bool} {P : List Nx} {lo lo2 : Nat} {W : World} {n q k : Nat} {v : Value} {T : List PTm} {D : List StM} (h : StepsIn sf P lo W n q k v T D) (hl : lo2 ≤ lo) : StepsIn sf P lo2 W n q k v T D :=
  ⟨own_basP h.row hl, h.len, fun x hx => (h.kid x hx).imp fun b hb => ⟨by omega, hb.2⟩, h.ok⟩
theorem StepsIn.new (sf : Bool) (P : List Nx) (V : World) (n q : Nat) (hq : q ≤ 6) (T : List PTm) : StepsIn sf P V.heap.size (V.alloc (.cells (cellsOf cellsS3 (List.replicate q zeroSt)).toArray 45)) n q 0 (.slice (some ⟨V.heap.size, 0, none⟩) q q) T [] := by
  have hl : (cellsOf cellsS3 (List.replicate q zeroSt)).length = q * 3 := by rw [cellsOf_len cellsS3 3 cellsS3_len, List.length_replicate]
  refine ⟨⟨by simp [cellsOf] at hl ⊢; omega, .inr ⟨V.heap.size, q, (cellsOf cellsS3 (List.replicate q zeroSt)).toArray, rfl, Nat.le_refl _, heap_alloc_new _ _, Nat.le_refl _, by unfold maxLen; omega, by simpa using hl, ?_⟩⟩, rfl, fun x hx => (by cases hx), fun i t x _ hx => (by simp at hx)⟩
  show ((cellsOf cellsS3 (List.replicate q zeroSt)).toArray.toList).take (q * 3) = _
  rw [List.toList_toArray, ← hl, List.take_length]; rfl
/-- What Steps hands back. -/
def RetSteps (sf : Bool) (P : List Nx) (w : World) (n : Nat) (T : List PTm) (e : Ending) (w' : World) : Prop :=
  ∃ (v : Value) (D : List StM), e = .returned v ∧ StepsIn sf P w.heap.size w' n T.length T.length v T D ∧ Below w.heap.size w w'
end Go.Proofs.Ytcepbindmdakkaa

/- The walk of plan.Steps. -/
set_option linter.unusedSimpArgs false
set_option linter.unusedVariables false
set_option maxRecDepth 100000
namespace Go.Proofs.Ytcepbindmdakkaa
open Go.RowKit

theorem partN_count (x : Nx) : ∀ y ∈ partN x, y.count ≤ x.count := by
  induction x using Rose.ind with
  | h l args ih =>
    intro y hy
    rw [partN_eq] at hy
    split at hy
    · have h0 : (Rose.mk l args).count = 1 + (args.map Rose.count).sum := Rose.count_eq _
      obtain ⟨z, hz, hyz⟩ := List.mem_flatMap.1 hy
      have h1 := ih z hz y hyz
      have h2 : z.count ≤ (args.map Rose.count).sum := mem_le_sum (List.mem_map_of_mem hz)
      omega
    · rw [List.mem_singleton.1 hy]; exact Nat.le_refl _
theorem PartsIn.ns {G : Nat} {W : World} {n : Nat} {cv : Value} {L : List NM} (h : PartsIn G W n cv L) : ∃ a cap, cv = .slice a L.length cap ∧ NsAt W.heap.size W n a cap L := by
  obtain ⟨a, cap, hcv, h1, h2, h3⟩ := own_slice h.row
  exact ⟨a, cap, hcv, h3, fun y hy => (h.kids y hy).mono (Nat.le_of_lt h.lt), h1, h2⟩
theorem NsAt.up {N : Nat} {W : World} {n : Nat} {a : Option Addr} {cap : Nat} {L : List NM} (h : NsAt N W n a cap L) : NsAt N W (n + 1) a cap L :=
  ⟨h.arr, fun y hy => RoseAt.up (h.kids y hy), h.hcap, h.hmax⟩
/-- The parts of conditions, and whether all are safe. -/
def condParts (l : List Nx) : List Nx := l.flatMap fun y => if y.lab.kd = 0 then [] else partN y
def condSafe (l : List Nx) : Bool := l.all fun y => decide (y.lab.kd = 0) || safeN y
theorem condParts_snoc (l : List Nx) (y : Nx) : condParts (l ++ [y]) = condParts l ++ (if y.lab.kd = 0 then [] else partN y) := by unfold condParts; simp
theorem condSafe_snoc (l : List Nx) (y : Nx) : condSafe (l ++ [y]) = (condSafe l && (decide (y.lab.kd = 0) || safeN y)) := by unfold condSafe; simp
/-- The parts of conditions, and what is known of them. -/
structure PartsOk (G : Nat) (W0 W : World) (n k : Nat) (cv : Value) (L : List NM) (C : List Nx) : Prop where
  list : L.map (·.t) = condParts (C.take k)
  inn : PartsIn G W (n + 1) cv L
  len : L.length ≤ 200 * k
  cnt : ∀ y ∈ L, y.t.count ≤ 200
  bel : Below G W0 W
theorem PartsOk.keep {C : List Nx} {G : Nat} {W0 W W' : World} {n k : Nat} {cv : Value} {L : List NM} (h : PartsOk G W0 W n k cv L C) (hb : Below W.heap.size W W') : PartsOk G W0 W' n k cv L C :=
  ⟨h.list, h.inn.keep hb, h.len, h.cnt, h.bel.trans (hb.mono (Nat.le_of_lt h.inn.lt))⟩
theorem PartsOk.add {C : List Nx} {G : Nat} {W0 W W' : World} {n k : Nat} {cv cv' : Value} {L L' : List NM} {x : Nx} (h : PartsOk G W0 W n k cv L C) (hx : x.count ≤ 200) (hp : Prt G W (n + 1) cv L (partN x) W' cv' L') (hk : k < C.length) (hxk : C[k] = x) (hkd : x.lab.kd ≠ 0) : PartsOk G W0 W' n (k + 1) cv' L' C := by
  refine ⟨by rw [hp.list, h.list, List.take_succ_eq_append_getElem hk, hxk, condParts_snoc, if_neg hkd], hp.inn, ?_, fun y hy => ?_, h.bel.trans (hp.below h.inn)⟩
  · have h1 := hp.len
    have h2 := partN_len x
    have h3 := h.len
    omega
  · have h1 : y.t ∈ L'.map (·.t) := List.mem_map_of_mem hy
    rw [hp.list] at h1
    rcases List.mem_append.1 h1 with h1 | h1
    · obtain ⟨z, hz, he⟩ := List.mem_map.1 h1
      rw [← he]; exact h.cnt z hz
    · exact Nat.le_trans (partN_count x _ h1) hx

/-- Small enough for the statement. -/
def smallT (x : PTm) : Prop := x.t.key.length ≤ 20 ∧ x.t.idx.length ≤ 20 ∧ (-10000 < x.t.fr ∧ x.t.fr < 10000) ∧ (-10000 < x.t.co ∧ x.t.co < 10000)
theorem paths_small {x : PTm} (hs : smallT x) (h : pathsZ x.t = true) : (∀ i ∈ x.t.key, 0 ≤ i ∧ i < 10000) ∧ (∀ i ∈ x.t.idx, 0 ≤ i ∧ i < 10000) := by
  unfold pathsZ at h
  simp only [Bool.and_eq_true, Bool.not_eq_true', List.any_eq_false] at h
  obtain ⟨⟨_, h1⟩, h2⟩ := h
  have h4 := hs.2.2.2
  refine ⟨fun i hi => ?_, fun i hi => ?_⟩
  · have := h1 i hi
    unfold lackZ at this
    simp at this; omega
  · have := h2 i hi
    unfold lackZ at this
    simp at this; omega

set_option maxHeartbeats 16000000 in
theorem steps_any (T : List PTm) (ta : Option Addr) (tc q : Nat) (n : Nat) (C : List NM) (ca : Option Addr) (cc r : Nat) (w : World)
    (hT : PsIn w ta q tc T) (hsm : ∀ x ∈ T, smallT x) (hq : q ≤ 6) (hC : NsAt w.heap.size w n ca cc C) (hr : C.length = r) (hr6 : r ≤ 6) (hcnt : ∀ y ∈ C, y.t.count ≤ 200) :
    Calls Try.prog 9 #[.slice ta q tc, .slice ca r cc] w (RetSteps (condSafe (C.map (·.t))) (condParts (C.map (·.t))) w n T) := by
  have HT := Lib.hid hT
  have HC := Lib.hid hC
  have HSm := Lib.hid hsm
  have HCn := Lib.hid hcnt
  have HRl := Lib.hid hr
  have hcap := hC.hcap
  have hmax := hC.hmax
  rw [hr] at hcap
  have hcap2 := hT.hcap
  have hmax2 := hT.hmax
  have HQl := Lib.hid hT.hlen
  obtain ⟨w0, hw0⟩ : ∃ w0, w.alloc (.cells #[.slice none 0 0] 23) = w0 := ⟨_, rfl⟩
  have HB0 : Hid (Below w.heap.size w w0) := by rw [← hw0]; exact (Below.refl _ w).alloc (Nat.le_refl _) _
  have HP0 : Hid (PartsOk w.heap.size w0 w0 n 0 (.slice none 0 0) [] (C.map (·.t))) := by
    refine ⟨rfl, ⟨by rw [← hw0]; exact Blk.new w _ _, World.ownsRow_nil _ _ _ _, fun y hy => (by cases hy)⟩, by simp, fun y hy => (by cases hy), Below.refl _ _⟩
  clear hT hC hsm hcnt hr
  go_enter Try.func9, Try.ntmps9
  go_wp2
  go_loopw [6, 14] (fun sv iv wr => ∃ (k : Nat) (sb : Bool) (cv : Value) (L : List NM), k ≤ r ∧ sv = .bool sb ∧ iv = .int .i64 (k : Int) ∧ Hid (PartsOk w.heap.size w0 wr n k cv L (C.map (·.t))) ∧ Hid (sb = condSafe ((C.map (·.t)).take k))) (fun _ iv _ => r - (intOf iv).toNat)
  case atStart => exact ⟨0, true, _, [], by omega, rfl, rfl, HP0.out, rfl⟩
  case round =>
    obtain ⟨k, sb, cv, L, hk, rfl, rfl, HP, HSb⟩ := hrel
    have HBw : Hid (Below w.heap.size w wr) := HB0.out.trans HP.out.bel
    have HGl : Hid (w.heap.size < wr.heap.size) := HP.out.inn.lt
    by_cases hlt : k < r
    · have hkl : k < C.length := by rw [HRl.out]; exact hlt
      obtain ⟨y, hy⟩ : ∃ y, C[k] = y := ⟨_, rfl⟩
      have hAr := HC.out.later HBw.out
      obtain ⟨b, o, hab, -, hKid⟩ := hAr.at_ hkl
      rw [hy] at hKid
      have hmem : y ∈ C := by rw [← hy]; exact List.getElem_mem hkl
      have HNd : Hid (NdAt w.heap.size wr n y) := (HC.out.kids y hmem).below HBw.out
      have hyc := HCn.out y hmem
      have HYc := Lib.hid hyc
      subst hab
      obtain ⟨y0, y1, y2, y3, y4, y5, y6, y7⟩ := hKid
      have HX := Lib.hid (Slot8.new wr 36 (.int .i64 y.t.lab.kd) (.string y.t.lab.op) (.int .u8 y.t.lab.v.k) (.int .i64 y.t.lab.v.n) (.string y.t.lab.v.s) (.int .i64 y.t.lab.sl) (.int .u8 (y.t.lab.ty : Int)) (.slice y.a y.t.args.length y.cap))
      obtain ⟨w1, hw1⟩ : ∃ w1, wr.alloc (.cells #[.int .i64 y.t.lab.kd, .string y.t.lab.op, .int .u8 y.t.lab.v.k, .int .i64 y.t.lab.v.n, .string y.t.lab.v.s, .int .i64 y.t.lab.sl, .int .u8 (y.t.lab.ty : Int), .slice y.a y.t.args.length y.cap] 36) = w1 := ⟨_, rfl⟩
      have HB1 : Hid (Below wr.heap.size wr w1) := by rw [← hw1]; exact (Below.refl _ wr).alloc (Nat.le_refl _) _
      have HS1 : Hid (w1.heap.size = wr.heap.size + 1) := by rw [← hw1]; simp [Hid]
      rw [hw1] at HX
      obtain ⟨bz, hbz⟩ : ∃ bz, (y.t.lab.kd == 0) = bz := ⟨_, rfl⟩
      have HSf := Lib.hid (fun (V : World) (hb : Below wr.heap.size wr V) => safe_is n y V ((HNd.out.below (hb.mono (Nat.le_of_lt HGl.out))).mono (Nat.le_trans (Nat.le_of_lt HGl.out) hb.size)))
      have HEp := Lib.hid (fun (V : World) (hb : Below wr.heap.size wr V) => eachPart_is w.heap.size (n + 1) n y V cv L (by omega) (HP.out.inn.keep hb) (HNd.out.below (hb.mono (Nat.le_of_lt HGl.out))) (by have := HP.out.len; omega))
      rw [NM.nv_eq] at HEp
      obtain ⟨sv2, hsv2⟩ : ∃ b, safeN y.t = b := ⟨_, rfl⟩
      rw [hsv2] at HSf
      have hkt : k < (C.map (·.t)).length := by simpa using hkl
      have hyt : (C.map (·.t))[k] = y.t := by rw [List.getElem_map, hy]
      have HKt := Lib.hid hkt
      have HYt : Hid (∀ h : k < (C.map (·.t)).length, (C.map (·.t))[k] = y.t) := fun h => hyt
      have HTs : Hid ((C.map (·.t)).take (k + 1) = (C.map (·.t)).take k ++ [y.t]) := by rw [List.take_succ_eq_append_getElem hkt, hyt]; exact rfl
      have HSv : Hid (safeN y.t = sv2) := hsv2
      have HBz : Hid (bz = decide (y.t.lab.kd = 0)) := by rw [← hbz, Bool.eq_iff_iff]; simp [Hid]
      clear hy hkl hmem hAr hyc hsv2 hkt hyt
      obtain ⟨x0, x1, x2, x3, x4, x5, x6, x7⟩ := HX.out
      cases bz with
      | true =>
        clear HSf HEp
        go_wp2
        go_roundw
        case rel =>
          have hkd : y.t.lab.kd = 0 := by have := HBz.out; simpa using this
          exact ⟨k + 1, sb, cv, L, by omega, rfl, by go_num, ⟨by rw [HP.out.list, HTs.out, condParts_snoc, if_pos hkd, List.append_nil], (HP.out.keep HB1.out).inn, by have := HP.out.len; omega, HP.out.cnt, (HP.out.keep HB1.out).bel⟩, by rw [HTs.out, condSafe_snoc, ← HSb.out, hkd]; simp [Hid]⟩
        case measure => simp [intOf]; omega
      | false =>
        have HKd : Hid (y.t.lab.kd ≠ 0) := by have := HBz.out; show _ ≠ _; simpa using this
        cases sb with
        | true =>
          go_wp2_with fail
          refine (HSf.out _ HB1.out).mono ?_
          rintro e w2 ⟨rfl, hb2⟩
          have HB2 : Hid (Below wr.heap.size wr w2) := HB1.out.trans (hb2.mono HB1.out.size)
          have HX2 := Lib.hid (HX.out.later (by have := HS1.out; omega) hb2)
          clear hb2 x0 x1 x2 x3 x4 x5 x6 x7 y0 y1 y2 y3 y4 y5 y6 y7 HSf hw1
          obtain ⟨x0, x1, x2, x3, x4, x5, x6, x7⟩ := HX2.out
          go_wp2_with fail
          refine (HEp.out _ HB2.out).mono ?_
          rintro e w3 ⟨rfl, cv3, L3, hp3⟩
          have HN := Lib.hid ((HP.out.keep HB2.out).add HYc.out hp3 HKt.out (HYt.out HKt.out) HKd.out)
          clear hp3 HEp x0 x1 x2 x3 x4 x5 x6 x7
          go_wp2
          go_roundw
          case rel => exact ⟨k + 1, sv2, cv3, L3, by omega, rfl, by go_num, HN.out, by have h1 := HKd.out; show _ = _; rw [HTs.out, condSafe_snoc, ← HSb.out, HSv.out]; simp [h1]⟩
          case measure => simp [intOf]; omega
        | false =>
          clear HSf
          go_wp2_with fail
          refine (HEp.out _ HB1.out).mono ?_
          rintro e w3 ⟨rfl, cv3, L3, hp3⟩
          have HN := Lib.hid ((HP.out.keep HB1.out).add HYc.out hp3 HKt.out (HYt.out HKt.out) HKd.out)
          clear hp3 HEp x0 x1 x2 x3 x4 x5 x6 x7
          go_wp2
          go_roundw
          case rel => exact ⟨k + 1, false, cv3, L3, by omega, rfl, by go_num, HN.out, by show _ = _; rw [HTs.out, condSafe_snoc, ← HSb.out]; simp⟩
          case measure => simp [intOf]; omega
    · obtain ⟨wa, rfl⟩ : ∃ wa, wa = wr := ⟨wr, rfl⟩
      have HTk : Hid ((C.map (·.t)).take k = C.map (·.t)) := by rw [List.take_of_length_le (by rw [List.length_map, HRl.out]; omega)]; exact rfl
      have HSf : Hid (condSafe (C.map (·.t)) = sb) := by rw [← HTk.out]; exact HSb.out.symm
      have HPl : Hid (L.map (·.t) = condParts (C.map (·.t))) := by have := HP.out.list; rwa [HTk.out] at this
      obtain ⟨PP, hPP⟩ : ∃ PP, condParts (C.map (·.t)) = PP := ⟨_, rfl⟩
      rw [hPP] at HPl
      have HPP := Lib.hid hPP
      clear hPP
      obtain ⟨w1, hw1⟩ : ∃ w1, wa.alloc (.cells (cellsOf cellsS3 (List.replicate q zeroSt)).toArray 45) = w1 := ⟨_, rfl⟩
      have hmk : (Instr.makeSlice 40 (.int .i64 (q : Int)) (.int .i64 (q : Int))).run Try.prog wa = .ok (.slice (some ⟨wa.heap.size, 0, none⟩) q q) w1 := by rw [made_steps q hq wa, hw1]
      have HSt0 : Hid (StepsIn sb PP wa.heap.size w1 n q 0 (.slice (some ⟨wa.heap.size, 0, none⟩) q q) T []) := by rw [← hw1]; exact StepsIn.new sb PP wa n q hq T
      have HB1 : Hid (Below wa.heap.size wa w1) := by rw [← hw1]; exact (Below.refl _ wa).alloc (Nat.le_refl _) _
      clear hw1
      go_wp2
      clear hmk
      go_loopw [35] (fun iv wr => ∃ (k : Nat) (D : List StM), k ≤ q ∧ iv = .int .i64 (k : Int) ∧ Hid (StepsIn sb PP wa.heap.size wr n q k (.slice (some ⟨wa.heap.size, 0, none⟩) q q) T D) ∧ Hid (Below wa.heap.size wa wr)) (fun iv _ => q - (intOf iv).toNat)
      case atStart => exact ⟨0, [], by omega, rfl, HSt0.out, HB1.out⟩
      case round =>
        clear HSt0 HB1
        obtain ⟨j, D, hj, rfl, HD, HBr⟩ := hrel
        have HBw2 : Hid (Below w.heap.size w wr) := HBw.out.trans (HBr.out.mono (Nat.le_of_lt HGl.out))
        by_cases hjl : j < q
        · have hkl : j < T.length := by rw [HQl.out]; exact hjl
          obtain ⟨x, hx⟩ : ∃ x, T[j] = x := ⟨_, rfl⟩
          have HTr := Lib.hid (HT.out.later HBw2.out)
          obtain ⟨b, o, hab, -, hSl⟩ := HTr.out.at_ hkl
          rw [hx] at hSl
          have hmem : x ∈ T := by rw [← hx]; exact List.getElem_mem hkl
          have HXt := Lib.hid (HTr.out.tabs x hmem)
          have HXs := Lib.hid (HSm.out x hmem)
          have HTj : Hid (∀ t, T[j]? = some t → t = x) := fun t ht => by
            rw [List.getElem?_eq_getElem hkl, hx] at ht; injection ht with ht; exact ht.symm
          subst hab
          obtain ⟨t0, t1, t2, t3, t4⟩ := hSl
          obtain ⟨w3, hw3⟩ : ∃ w3, wr.alloc (.cells #[.int .i64 x.t.fr, .int .i64 x.t.co, .slice x.ka x.t.key.length x.kc, .slice x.ia x.t.idx.length x.ic, .bool x.t.now] 29) = w3 := ⟨_, rfl⟩
          have HV3 : Hid (Blk w3 wr.heap.size 29 (tabCs x)) := by rw [← hw3]; exact Blk.new wr _ _
          have HB3 : Hid (Below wr.heap.size wr w3) := by rw [← hw3]; exact (Below.refl _ wr).alloc (Nat.le_refl _) _
          have HS3 : Hid (w3.heap.size = wr.heap.size + 1) := by rw [← hw3]; simp [Hid]
          clear hx hkl hmem HTr
          have c0 := (HV3.out.cell 0).trans rfl
          have c1 := (HV3.out.cell 1).trans rfl
          have c2 := (HV3.out.cell 2).trans rfl
          have c3 := (HV3.out.cell 3).trans rfl
          have c4 := (HV3.out.cell 4).trans rfl
          cases sb with
          | false =>
            have HN := Lib.hid ((HD.out.later HB3.out).skip hjl (fun t _ => ⟨okStep_zero _ _, fun _ => rfl, fun h => (by cases h)⟩))
            have HBn : Hid (Below wa.heap.size wa w3) := HBr.out.trans (HB3.out.mono HBr.out.size)
            go_wp2
            go_roundw
            case rel => exact ⟨j + 1, _, by omega, by go_num, HN.out, HBn.out⟩
            case measure => simp [intOf]; omega
          | true =>
            have HPa := Lib.hid (hasPaths_any x w3 (HXt.out.at_.later HB3.out))
            obtain ⟨pb, hpb⟩ : ∃ pb, pathsZ x.t = pb := ⟨_, rfl⟩
            rw [hpb] at HPa
            have HPb := Lib.hid hpb
            clear hpb
            go_wp2_with fail
            refine HPa.out.mono ?_
            rintro e w4 ⟨rfl, hb4⟩
            have HB4 : Hid (Below wr.heap.size wr w4) := HB3.out.trans (hb4.mono HB3.out.size)
            have HV4 : Hid (Blk w4 wr.heap.size 29 (tabCs x)) := (hb4.block _ (by have := HS3.out; omega)).trans HV3.out
            clear hb4 HPa c0 c1 c2 c3 c4 t0 t1 t2 t3 t4
            have HBa4 : Hid (Below wa.heap.size wa w4) := HBr.out.trans (HB4.out.mono HBr.out.size)
            cases pb with
            | false =>
              have HN := Lib.hid ((HD.out.later HB4.out).skip hjl (fun t ht => ⟨okStep_zero _ _, fun h => (by cases h), fun _ h => by rw [HTj.out t ht, HPb.out] at h; cases h⟩))
              go_wp2
              go_roundw
              case rel => exact ⟨j + 1, _, by omega, by go_num, HN.out, HBa4.out⟩
              case measure => simp [intOf]; omega
            | true =>
              obtain ⟨hk1, hk2⟩ := paths_small HXs.out HPb.out
              have HK1 := Lib.hid hk1
              have HK2 := Lib.hid hk2
              have hPt := (HP.out.keep HBa4.out)
              obtain ⟨pa, pc, hcv, hNs⟩ := hPt.inn.ns
              have hG4 : w4.cell? ⟨w.heap.size, 0, none⟩ = some cv := (hPt.inn.var.cell 0).trans rfl
              obtain ⟨lp, hlp⟩ : ∃ lp, L.length = lp := ⟨_, rfl⟩
              rw [hlp] at hcv
              rw [hcv] at hG4
              have HY := Lib.hid (step_any x n L pa pc lp w4 (HXt.out.at_.later HB4.out) HXs.out.2.2.1 hk1 hk2 (by have := HXs.out.1; omega) (by have := HXs.out.2.1; omega) hNs hlp (fun y hy => by have := hPt.cnt y hy; omega))
              have b0 := (HV4.out.cell 0).trans rfl
              have b1 := (HV4.out.cell 1).trans rfl
              have b2 := (HV4.out.cell 2).trans rfl
              have b3 := (HV4.out.cell 3).trans rfl
              have b4 := (HV4.out.cell 4).trans rfl
              clear hk1 hk2 hPt hcv hlp hNs
              go_wp2_with fail
              refine HY.out.mono ?_
              rintro e w5 ⟨hb5, kd, co, sa, sl, sc, L5, rfl, hN5, hL5, hok5, hkd5⟩
              have hb5' : Below wr.heap.size wr w5 := HB4.out.trans (hb5.mono HB4.out.size)
              have hz5 : StIn (fun b => wr.heap.size ≤ b ∧ b < w5.heap.size) w5 n ⟨kd, co, sa, sc, L5⟩ := (hN5.st kd co).imp fun b hb => ⟨Nat.le_trans HB4.out.size hb.1, hb.2⟩
              obtain ⟨g, cap', R, hv', hg', -, hch, hput, hin⟩ := HD.out.put hjl HBr.out.size hb5' ⟨kd, co, sa, sc, L5⟩ hz5 (fun t ht => by rw [HTj.out t ht]; exact ⟨hok5, fun h => (by cases h), fun _ _ h => hkd5 (by rw [HPl.out]; exact h)⟩)
              injection hv' with e1 e2 e3
              injection e1 with e1
              injection e1 with e1
              subst e1
              simp only [hL5] at hput
              have HSt := Lib.hid hput
              have HN := Lib.hid hin
              have HBn : Hid (Below wa.heap.size wa (w5.setRow wa.heap.size R)) := (HBr.out.trans (hb5'.mono HBr.out.size)).trans (hch.below (Nat.le_trans HBr.out.size hb5'.size) (by simp))
              clear hput hin hb5 hb5' hz5 hN5 hok5 hkd5 hL5 e2 e3 hch hg' b0 b1 b2 b3 b4 hG4 HY
              go_wp2_with (first | (guard_target =~ wpList _ _ _ (Oper.mk _ (Op.store 45 _ _) _ _ _ _ :: _) _ _; refine wpList_skp rfl (exec_store rfl rfl rfl HSt.out) ?_))
              go_roundw
              case rel => exact ⟨j + 1, _, by omega, by go_num, HN.out, HBn.out⟩
              case measure => simp [intOf]; omega
        · have hje : j = q := by omega
          subst hje
          have HRt : Hid (RetSteps (condSafe (C.map (·.t))) (condParts (C.map (·.t))) w n T (.returned (.slice (some ⟨wa.heap.size, 0, none⟩) j j)) wr) := by
            rw [HSf.out, HPP.out]
            refine ⟨_, D, rfl, ?_, HBw2.out⟩
            rw [HQl.out]
            exact HD.out.base (Nat.le_of_lt HGl.out)
          go_wp2
          go_ret
          exact HRt.out
end Go.Proofs.Ytcepbindmdakkaa
