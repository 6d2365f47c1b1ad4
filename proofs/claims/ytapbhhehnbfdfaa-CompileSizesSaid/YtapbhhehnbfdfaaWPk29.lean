/- Several texts of one proof, one behind the other. -/
import Derived.Test.YtapbhhehnbfdfaaWPk28
set_option linter.unusedSimpArgs false
set_option linter.unusedVariables false

/- An expression that comes in as an argument. -/
set_option linter.unusedSimpArgs false
set_option linter.unusedVariables false
set_option maxRecDepth 100000
namespace Go.Proofs.Ytapbhhehnbfdfaa
open Go.RowKit Go.ChangeShapes Go.WideShapes Go.Deep Go.Joins

theorem weights_all_mem {H : Type} {P : Program} {e : TypeId} : ∀ {l : List (DataW H)} {d : DataW H}, d ∈ l → ∀ n ∈ d.weights P e, n ∈ DataW.weightsAll P e l
  | [], _, h, _, _ => by cases h
  | y :: r, d, h, n, hn => by
    simp only [DataW.weightsAll, List.mem_append]
    rcases List.mem_cons.1 h with rfl | h
    · exact .inl hn
    · exact .inr (weights_all_mem h n hn)

theorem ListR.of {α β : Type} (R : α → β → Prop) : ∀ (l : List α), (∀ x ∈ l, ∃ y, R x y) → ∃ m : List β, m.length = l.length ∧ ∀ (i : Nat) (x : α), l[i]? = some x → ∃ y, m[i]? = some y ∧ R x y
  | [], _ => ⟨[], rfl, fun i x h => by simp at h⟩
  | a :: r, h => by
    obtain ⟨y, hy⟩ := h a List.mem_cons_self
    obtain ⟨m, hm, hR⟩ := ListR.of R r (fun x hx => h x (List.mem_cons_of_mem _ hx))
    refine ⟨y :: m, by simp [hm], fun i x hi => ?_⟩
    cases i with
    | zero => simp at hi; subst hi; exact ⟨y, rfl, hy⟩
    | succ i => obtain ⟨z, h1, h2⟩ := hR i x (by simpa using hi); exact ⟨z, by simpa using h1, h2⟩

/-- What is asked of the sizes. -/
def Sized {H : Type} (T : TypeId) (d : DataW H) : Prop := ∀ n ∈ d.weights Try.prog T, n ≤ reachBytes

set_option maxRecDepth 100000 in
theorem trod_expr {T S : TypeId} {f0 f1 f2 f3 f4 f5 : Field} (hT : Try.prog.underlying T = some (.struct #[f0, f1, f2, f3, f4, f5])) (hS : Try.prog.underlying S = some (.slice T)) (hC : Try.prog.cellsOf T = 8) (c4 : Try.prog.cellsOf S = 1)
    (e0 : f0.type = 3 ∧ f0.offset = 0) (e1 : f1.type = 23 ∧ f1.offset = 1) (e2 : f2.type = 9 ∧ f2.offset = 4) (e3 : f3.type = 9 ∧ f3.offset = 5) (e4 : f4.type = 9 ∧ f4.offset = 6) (e5 : f5.type = S ∧ f5.offset = 7)
    {H : Type} {enc : TypeId × Value → H} {w : World} : ∀ (fuel : Nat) (cs : List Value) (x : DataW H × List MemPlace), DataW.trod enc Try.prog w 0 (fun _ => true) true fuel T cs = some x → Sized T x.1 →
    ∃ r : XM, cs = cellsX r ∧ XAt w.heap.size w fuel r := by
  intro fuel
  induction fuel using Nat.strongRecOn with
  | ind fuel ih =>
    intro cs x h hsz
    obtain ⟨xs, n, rfl, rfl, hl, hlen, hf⟩ := DataW.trod_struct hT h
    rw [hC] at hl
    match cs, hl with
    | [v0, v1, v2, v3, v4, v5, v6, v7], _ =>
      match xs, hlen with
      | [y0, y1, y2, y3, y4, y5], _ =>
        have c1 : Try.prog.cellsOf 3 = 1 := by kernel_rfl
        have c2 : Try.prog.cellsOf 23 = 3 := by kernel_rfl
        have c3 : Try.prog.cellsOf 9 = 1 := by kernel_rfl
        have g0 : DataW.trod enc Try.prog w 0 (fun _ => true) true n 3 [v0] = some y0 := by have := hf 0 f0 rfl; rw [e0.1, e0.2, c1] at this; exact this
        have g1 : DataW.trod enc Try.prog w 0 (fun _ => true) true n 23 [v1, v2, v3] = some y1 := by have := hf 1 f1 rfl; rw [e1.1, e1.2, c2] at this; exact this
        have g2 : DataW.trod enc Try.prog w 0 (fun _ => true) true n 9 [v4] = some y2 := by have := hf 2 f2 rfl; rw [e2.1, e2.2, c3] at this; exact this
        have g3 : DataW.trod enc Try.prog w 0 (fun _ => true) true n 9 [v5] = some y3 := by have := hf 3 f3 rfl; rw [e3.1, e3.2, c3] at this; exact this
        have g4 : DataW.trod enc Try.prog w 0 (fun _ => true) true n 9 [v6] = some y4 := by have := hf 4 f4 rfl; rw [e4.1, e4.2, c3] at this; exact this
        have g5 : DataW.trod enc Try.prog w 0 (fun _ => true) true n S [v7] = some y5 := by have := hf 5 f5 rfl; rw [e5.1, e5.2, c4] at this; exact this
        obtain ⟨z0, q0, p0, w0⟩ := DataW.trod_int Try.underlying3 g0
        obtain ⟨u0, u1, u2, n1, rfl, _, k0, k1, k2⟩ := trod_struct3 Try.underlying23 g1
        have m0 : DataW.trod enc Try.prog w 0 (fun _ => true) true n1 5 [v1] = some u0 := k0
        have m1 : DataW.trod enc Try.prog w 0 (fun _ => true) true n1 2 [v2] = some u1 := k1
        have m2 : DataW.trod enc Try.prog w 0 (fun _ => true) true n1 9 [v3] = some u2 := k2
        obtain ⟨b0, q1, p1, w1⟩ := DataW.trod_int Try.underlying5 m0
        obtain ⟨b1, q2, p2, w2⟩ := DataW.trod_int Try.underlying2 m1
        obtain ⟨s3, q3, p3, w3⟩ := DataW.trod_string Try.underlying9 m2
        obtain ⟨s4, q4, p4, w4⟩ := DataW.trod_string Try.underlying9 g2
        obtain ⟨s5, q5, p5, w5⟩ := DataW.trod_string Try.underlying9 g3
        obtain ⟨s6, q6, p6, w6⟩ := DataW.trod_string Try.underlying9 g4
        simp only [List.cons.injEq, and_true] at q0 q1 q2 q3 q4 q5 q6
        subst q0 q1 q2 q3 q4 q5 q6
        obtain ⟨kk, rfl, hkk⟩ := nat_u8 w1
        have hW : ∀ m, (m ∈ (u2.1).weights Try.prog 9 ∨ m ∈ y2.1.weights Try.prog 9 ∨ m ∈ y3.1.weights Try.prog 9 ∨ m ∈ y4.1.weights Try.prog 9 ∨ m ∈ y5.1.weights Try.prog S) → m ≤ reachBytes := by
          intro m hm
          refine hsz m ?_
          simp only [DataW.weights, hT, List.map_cons, List.map_nil, DataW.weightsEach, e0.1, e1.1, e2.1, e3.1, e4.1, e5.1, List.mem_append, Try.underlying23]
          simp
          rcases hm with h | h | h | h | h <;> simp [h]
        have B3 : s3.size ≤ 140737488351232 := by have := hW s3.data.toList.length (by rw [p3]; simp [DataW.weights]); unfold reachBytes at this; simpa using this
        have B4 : s4.size ≤ 140737488351232 := by have := hW s4.data.toList.length (by rw [p4]; simp [DataW.weights]); unfold reachBytes at this; simpa using this
        have B5 : s5.size ≤ 140737488351232 := by have := hW s5.data.toList.length (by rw [p5]; simp [DataW.weights]); unfold reachBytes at this; simpa using this
        have B6 : s6.size ≤ 140737488351232 := by have := hW s6.data.toList.length (by rw [p6]; simp [DataW.weights]); unfold reachBytes at this; simpa using this
        have HL : Lb.fair ⟨z0, ⟨kk, b1, s3⟩, s4, s5, s6⟩ := ⟨bd_i64 w0, hkk, bd_i64 w2, B3, B4, B5, B6⟩
        rcases DataW.trod_slice hS g5 with ⟨hcs, _⟩ | ⟨a, len, cap, elems, rest, n2, hn, hcs, hy5, hb, hlc, hcm, hel, hel2, -, -⟩
        · simp only [List.cons.injEq, and_true] at hcs
          subst hcs
          exact ⟨⟨.mk ⟨z0, ⟨kk, b1, s3⟩, s4, s5, s6⟩ [], none, 0⟩, rfl, HL, Nat.le_refl _, by simp, [], rfl, .inl rfl, fun y hy => by cases hy⟩
        · simp only [List.cons.injEq, and_true] at hcs
          subst hcs hn
          have hkid : ∀ i : Fin len, ∃ r : XM, XAt w.heap.size w n2 r ∧ ∀ (j : Nat) (v : Value), (cellsX r)[j]? = some v → w.cell? ((a.add (i.1 * 8)).add j) = some v := by
            intro i
            have hi := hel2 i.1 i.2
            rw [hC] at hi
            have hil : i.1 < elems.length := by rw [hel]; exact i.2
            rw [List.getElem?_eq_getElem hil] at hi
            obtain ⟨cs', hc', ht'⟩ := Option.bind_eq_some_iff.1 hi
            obtain ⟨_, hlen, hat⟩ := World.cells?_some hc'
            obtain ⟨r, rfl, hr⟩ := ih n2 (by omega) cs' _ ht' (fun m hm => hW m (.inr (.inr (.inr (.inr (by
              rw [hy5]
              simp only [DataW.weights, hS, List.mem_cons, List.mem_append]
              exact .inr (.inl (weights_all_mem (List.mem_map.2 ⟨_, List.getElem_mem hil, rfl⟩) m hm))))))))
            exact ⟨r, hr, fun j v hj => by rw [hat j (by have h9 := (List.getElem?_eq_some_iff.1 hj).1; rw [cellsX_len] at h9; exact h9)]; exact hj⟩
          obtain ⟨L, h1, h2, h3⟩ := row_of cellsX 8 (by omega) cellsX_len (fun r => XAt w.heap.size w n2 r) w a len hkid
          unfold maxLen at hcm
          refine ⟨⟨.mk ⟨z0, ⟨kk, b1, s3⟩, s4, s5, s6⟩ (L.map (·.t)), some a, cap⟩, ?_, HL, ?_, by simp only; omega, L, rfl, h2, fun y hy => RoseAt.up (h3 y hy)⟩
          · subst h1; simp [cellsX, cellsR, Lb.cells, Rose.lab, Rose.args]
          · simp [Rose.args]; omega

end Go.Proofs.Ytapbhhehnbfdfaa

/- A table that comes in as an argument. -/
set_option linter.unusedSimpArgs false
set_option linter.unusedVariables false
set_option maxRecDepth 100000
namespace Go.Proofs.Ytapbhhehnbfdfaa
open Go.RowKit Go.ChangeShapes Go.WideShapes Go.Deep Go.Joins

/-- What the walk is told of a table that came in. -/
structure TbIn (w : World) (t : Tb) (m : TM) : Prop where
  hc : m.cl = t.cols.length
  hk : m.kl = t.key.length
  ccap : m.cl ≤ m.cc
  kcap : m.kl ≤ m.kc
  cmax : m.cl ≤ 9223372036854775807
  kmax : m.kl ≤ 9223372036854775807
  carr : Arr w.heap.size w m.ca (cellsO t.cols)
  karr : Arr w.heap.size w m.ka (cellsI t.key)
  nm : t.name.size ≤ 9223372036854775807
  per : t.per.size ≤ 9223372036854775807
  fr : -9223372036854775808 ≤ t.fr ∧ t.fr ≤ 9223372036854775807
  tt : -9223372036854775808 ≤ t.tt ∧ t.tt ≤ 9223372036854775807
  cfair : ∀ c ∈ t.cols, c.nm.size ≤ 9223372036854775807 ∧ c.kd < 256
  kfair : ∀ k ∈ t.key, -9223372036854775808 ≤ k ∧ k ≤ 9223372036854775807

end Go.Proofs.Ytapbhhehnbfdfaa

/- Nodes and tables of a query that come in as arguments. -/
set_option linter.unusedSimpArgs false
set_option linter.unusedVariables false
set_option maxRecDepth 100000
namespace Go.Proofs.Ytapbhhehnbfdfaa
open Go.RowKit Go.ChangeShapes Go.WideShapes Go.Deep Go.Joins

theorem cellsI_rowZ (l : List Int) : cellsI l = rowZ l := by
  induction l with
  | nil => rfl
  | cons a r ih => show Value.int .i64 a :: cellsI r = Value.int .i64 a :: rowZ r; rw [ih]

set_option maxRecDepth 100000 in
theorem trod_node {T S : TypeId} {f0 f1 f2 f3 f4 f5 : Field} (hT : Try.prog.underlying T = some (.struct #[f0, f1, f2, f3, f4, f5])) (hS : Try.prog.underlying S = some (.slice T)) (hC : Try.prog.cellsOf T = 8) (c4 : Try.prog.cellsOf S = 1)
    (e0 : f0.type = 3 ∧ f0.offset = 0) (e1 : f1.type = 9 ∧ f1.offset = 1) (e2 : f2.type = 23 ∧ f2.offset = 2) (e3 : f3.type = 3 ∧ f3.offset = 5) (e4 : f4.type = 5 ∧ f4.offset = 6) (e5 : f5.type = S ∧ f5.offset = 7)
    {H : Type} {enc : TypeId × Value → H} {w : World} : ∀ (fuel : Nat) (cs : List Value) (x : DataW H × List MemPlace), DataW.trod enc Try.prog w 0 (fun _ => true) true fuel T cs = some x →
    ∃ r : NM, cs = cellsNd r ∧ NdAt w.heap.size w fuel r := by
  intro fuel
  induction fuel using Nat.strongRecOn with
  | ind fuel ih =>
    intro cs x h
    obtain ⟨xs, n, rfl, rfl, hl, hlen, hf⟩ := DataW.trod_struct hT h
    rw [hC] at hl
    match cs, hl with
    | [v0, v1, v2, v3, v4, v5, v6, v7], _ =>
      match xs, hlen with
      | [y0, y1, y2, y3, y4, y5], _ =>
        have c1 : Try.prog.cellsOf 3 = 1 := by kernel_rfl
        have c2 : Try.prog.cellsOf 23 = 3 := by kernel_rfl
        have c3 : Try.prog.cellsOf 9 = 1 := by kernel_rfl
        have c5 : Try.prog.cellsOf 5 = 1 := by kernel_rfl
        have g0 : DataW.trod enc Try.prog w 0 (fun _ => true) true n 3 [v0] = some y0 := by have := hf 0 f0 rfl; rw [e0.1, e0.2, c1] at this; exact this
        have g1 : DataW.trod enc Try.prog w 0 (fun _ => true) true n 9 [v1] = some y1 := by have := hf 1 f1 rfl; rw [e1.1, e1.2, c3] at this; exact this
        have g2 : DataW.trod enc Try.prog w 0 (fun _ => true) true n 23 [v2, v3, v4] = some y2 := by have := hf 2 f2 rfl; rw [e2.1, e2.2, c2] at this; exact this
        have g3 : DataW.trod enc Try.prog w 0 (fun _ => true) true n 3 [v5] = some y3 := by have := hf 3 f3 rfl; rw [e3.1, e3.2, c1] at this; exact this
        have g4 : DataW.trod enc Try.prog w 0 (fun _ => true) true n 5 [v6] = some y4 := by have := hf 4 f4 rfl; rw [e4.1, e4.2, c5] at this; exact this
        have g5 : DataW.trod enc Try.prog w 0 (fun _ => true) true n S [v7] = some y5 := by have := hf 5 f5 rfl; rw [e5.1, e5.2, c4] at this; exact this
        obtain ⟨z0, q0, p0, w0⟩ := DataW.trod_int Try.underlying3 g0
        obtain ⟨s1, q1, p1, w1⟩ := DataW.trod_string Try.underlying9 g1
        obtain ⟨u0, u1, u2, n1, rfl, _, k0, k1, k2⟩ := trod_struct3 Try.underlying23 g2
        have m0 : DataW.trod enc Try.prog w 0 (fun _ => true) true n1 5 [v2] = some u0 := k0
        have m1 : DataW.trod enc Try.prog w 0 (fun _ => true) true n1 2 [v3] = some u1 := k1
        have m2 : DataW.trod enc Try.prog w 0 (fun _ => true) true n1 9 [v4] = some u2 := k2
        obtain ⟨b0, q2, p2, w2⟩ := DataW.trod_int Try.underlying5 m0
        obtain ⟨b1, q3, p3, w3⟩ := DataW.trod_int Try.underlying2 m1
        obtain ⟨s4, q4, p4, w4⟩ := DataW.trod_string Try.underlying9 m2
        obtain ⟨z5, q5, p5, w5⟩ := DataW.trod_int Try.underlying3 g3
        obtain ⟨b6, q6, p6, w6⟩ := DataW.trod_int Try.underlying5 g4
        simp only [List.cons.injEq, and_true] at q0 q1 q2 q3 q4 q5 q6
        subst q0 q1 q2 q3 q4 q5 q6
        obtain ⟨kk, rfl, hkk⟩ := nat_u8 w2
        obtain ⟨tt, rfl, htt⟩ := nat_u8 w6
        have HL : NLb.fair ⟨z0, s1, ⟨kk, b1, s4⟩, z5, tt⟩ := by
          unfold maxLen at w1 w4
          exact ⟨bd_i64 w0, by simp only; omega, hkk, bd_i64 w3, by simp only; omega, bd_i64 w5, htt⟩
        rcases DataW.trod_slice hS g5 with ⟨hcs, _⟩ | ⟨a, len, cap, elems, rest, n2, hn, hcs, hy5, hb, hlc, hcm, hel, hel2, -, -⟩
        · simp only [List.cons.injEq, and_true] at hcs
          subst hcs
          exact ⟨⟨.mk ⟨z0, s1, ⟨kk, b1, s4⟩, z5, tt⟩ [], none, 0⟩, rfl, HL, Nat.le_refl _, by simp, [], rfl, .inl rfl, fun y hy => by cases hy⟩
        · simp only [List.cons.injEq, and_true] at hcs
          subst hcs hn
          have hkid : ∀ i : Fin len, ∃ r : NM, NdAt w.heap.size w n2 r ∧ ∀ (j : Nat) (v : Value), (cellsNd r)[j]? = some v → w.cell? ((a.add (i.1 * 8)).add j) = some v := by
            intro i
            have hi := hel2 i.1 i.2
            rw [hC] at hi
            have hil : i.1 < elems.length := by rw [hel]; exact i.2
            rw [List.getElem?_eq_getElem hil] at hi
            obtain ⟨cs', hc', ht'⟩ := Option.bind_eq_some_iff.1 hi
            obtain ⟨_, hlen, hat⟩ := World.cells?_some hc'
            obtain ⟨r, rfl, hr⟩ := ih n2 (by omega) cs' _ ht'
            exact ⟨r, hr, fun j v hj => by rw [hat j (by have h9 := (List.getElem?_eq_some_iff.1 hj).1; rw [cellsNd_len] at h9; exact h9)]; exact hj⟩
          obtain ⟨L, h1, h2, h3⟩ := row_of cellsNd 8 (by omega) cellsNd_len (fun r => NdAt w.heap.size w n2 r) w a len hkid
          unfold maxLen at hcm
          refine ⟨⟨.mk ⟨z0, s1, ⟨kk, b1, s4⟩, z5, tt⟩ (L.map (·.t)), some a, cap⟩, ?_, HL, ?_, by simp only; omega, L, rfl, h2, fun y hy => RoseAt.up (h3 y hy)⟩
          · subst h1; simp [cellsNd, cellsR, NLb.cells, Rose.lab, Rose.args]
          · simp [Rose.args]; omega

set_option maxRecDepth 100000 in
theorem open_node24 {H : Type} {enc : TypeId × Value → H} {w : World} {r : Reach} {b0 : Nat} {v : Value} {d : DataW H} {p : List MemPlace} (hv : Value.okWide Try.prog w r b0 26 v) (h : DataW.Trod enc Try.prog w 0 (fun _ => true) true 26 v d p) :
    ∃ (x : NM) (n : Nat), v = x.nv ∧ NdAt w.heap.size w n x := by
  obtain ⟨cs, rfl, _⟩ := okWide_struct Try.underlying26 hv
  obtain ⟨fuel, hf⟩ := h
  obtain ⟨x, hx, hA⟩ := trod_node Try.underlying26 Try.underlying24 (by kernel_rfl) (by kernel_rfl) ⟨rfl, rfl⟩ ⟨rfl, rfl⟩ ⟨rfl, rfl⟩ ⟨rfl, rfl⟩ ⟨rfl, rfl⟩ ⟨rfl, rfl⟩ fuel cs.toList (d, p) hf
  refine ⟨x, fuel, ?_, hA⟩
  unfold NM.nv
  rw [← hx]

set_option maxRecDepth 100000 in
theorem open_nodes24 {H : Type} {enc : TypeId × Value → H} {w : World} {r : Reach} {b0 : Nat} {v : Value} {d : DataW H} {p : List MemPlace} (hv : Value.okWide Try.prog w r b0 24 v) (h : DataW.Trod enc Try.prog w 0 (fun _ => true) true 24 v d p) :
    ∃ (a : Option Addr) (len cap : Nat) (z : List NM) (n : Nat), v = .slice a len cap ∧ z.length = len ∧ NsAt w.heap.size w n a cap z := by
  obtain ⟨a, len, cap, rfl⟩ := okWide_slice Try.underlying24 hv
  obtain ⟨fuel, hf⟩ := h
  rcases open_slice Try.underlying24 hf with ⟨hcs, _⟩ | ⟨x, l, c, m, n, D, Pl, hcs, _, hl, hm, hmm, _, hi⟩
  · simp [Value.cells] at hcs
    obtain ⟨rfl, rfl, rfl⟩ := hcs
    exact ⟨none, 0, 0, [], 0, rfl, rfl, .inl rfl, by simp, by simp, by omega⟩
  · simp [Value.cells] at hcs
    obtain ⟨rfl, rfl, rfl⟩ := hcs
    have hC : Try.prog.cellsOf 26 = 8 := by kernel_rfl
    unfold maxLen at hm
    have hmc : m = cap := by simpa using hmm
    obtain ⟨L, h1, h2, h3⟩ := row_of cellsNd 8 (by omega) cellsNd_len (fun r => NdAt w.heap.size w n r) w x len (fun i => by
      obtain ⟨cs', hc', ht'⟩ := hi i.1 (by have := i.2; omega)
      rw [hC] at hc'
      obtain ⟨_, hlen, hat⟩ := World.cells?_some hc'
      obtain ⟨r, rfl, hr⟩ := trod_node Try.underlying26 Try.underlying24 (by kernel_rfl) (by kernel_rfl) ⟨rfl, rfl⟩ ⟨rfl, rfl⟩ ⟨rfl, rfl⟩ ⟨rfl, rfl⟩ ⟨rfl, rfl⟩ ⟨rfl, rfl⟩ n cs' _ ht'
      exact ⟨r, hr, fun j v hj => by rw [hat j (by have h9 := (List.getElem?_eq_some_iff.1 hj).1; rw [cellsNd_len] at h9; exact h9)]; exact hj⟩)
    exact ⟨some x, len, cap, L, n, rfl, h1, h2, h3, by omega, by omega⟩

/-- The cells of tables of a query. -/
def PTm.cl (x : PTm) : List Value := x.cells
structure PTf (w : World) (x : PTm) : Prop where
  at_ : PTAt w.heap.size w x
  fr : -9223372036854775808 ≤ x.t.fr ∧ x.t.fr ≤ 9223372036854775807
  co : -9223372036854775808 ≤ x.t.co ∧ x.t.co ≤ 9223372036854775807
  key : ∀ k ∈ x.t.key, -9223372036854775808 ≤ k ∧ k ≤ 9223372036854775807
  idx : ∀ k ∈ x.t.idx, -9223372036854775808 ≤ k ∧ k ≤ 9223372036854775807
theorem PTAt.later {w w' : World} {x : PTm} (h : PTAt w.heap.size w x) (hb : Below w.heap.size w w') : PTAt w'.heap.size w' x :=
  ⟨(h.k.below hb).mono hb.size, h.kl, h.kc, (h.i.below hb).mono hb.size, h.il, h.ic⟩
theorem PTf.later {w w' : World} {x : PTm} (h : PTf w x) (hb : Below w.heap.size w w') : PTf w' x :=
  ⟨h.at_.later hb, h.fr, h.co, h.key, h.idx⟩
def cellsPT (l : List PTm) : List Value := cellsOf PTm.cl l
theorem PTm.cl_len (x : PTm) : x.cl.length = 5 := rfl
/-- A row of tables of a query that came in. -/
structure PsIn (w : World) (a : Option Addr) (len cap : Nat) (L : List PTm) : Prop where
  hlen : L.length = len
  hcap : len ≤ cap
  hmax : cap ≤ 9223372036854775807
  arr : Arr w.heap.size w a (cellsPT L)
  tabs : ∀ x ∈ L, PTf w x
theorem PsIn.later {w w' : World} {a : Option Addr} {len cap : Nat} {L : List PTm} (h : PsIn w a len cap L) (hb : Below w.heap.size w w') : PsIn w' a len cap L :=
  ⟨h.hlen, h.hcap, h.hmax, (h.arr.below hb).mono hb.size, fun x hx => (h.tabs x hx).later hb⟩
/-- The cells of the k-th table. -/
structure Slot5T (w : World) (b o : Nat) (x : PTm) : Prop where
  c0 : w.cell? ⟨b, o, none⟩ = some (.int .i64 x.t.fr)
  c1 : w.cell? ⟨b, o + 1, none⟩ = some (.int .i64 x.t.co)
  c2 : w.cell? ⟨b, o + 2, none⟩ = some (.slice x.ka x.t.key.length x.kc)
  c3 : w.cell? ⟨b, o + 3, none⟩ = some (.slice x.ia x.t.idx.length x.ic)
  c4 : w.cell? ⟨b, o + 4, none⟩ = some (.bool x.t.now)
theorem PsIn.at_ {w : World} {a : Option Addr} {len cap : Nat} {L : List PTm} (h : PsIn w a len cap L) {k : Nat} (hk : k < L.length) : ∃ b o, a = some ⟨b, o, none⟩ ∧ b < w.heap.size ∧ Slot5T w b (o + k * 5) L[k] := by
  obtain ⟨b, o, ha, hb, hc⟩ := h.arr.at_ (by intro h0; have := cellsOf_len PTm.cl 5 PTm.cl_len L; unfold cellsPT at h0; rw [h0] at this; simp at this; omega)
  have g := fun (j : Nat) (v : Value) (hv : (PTm.cl L[k])[j]? = some v) => hc _ _ (cellsOf_get PTm.cl 5 PTm.cl_len L k j L[k] v (List.getElem?_eq_getElem hk) hv)
  refine ⟨b, o, ha, hb, ?_, ?_, ?_, ?_, ?_⟩
  · simpa using g 0 _ rfl
  · simpa [Nat.add_assoc] using g 1 _ rfl
  · simpa [Nat.add_assoc] using g 2 _ rfl
  · simpa [Nat.add_assoc] using g 3 _ rfl
  · simpa [Nat.add_assoc] using g 4 _ rfl

end Go.Proofs.Ytapbhhehnbfdfaa
