/- Calls of a disk that come in as arguments: one by value, and a slice of them. -/
import Derived.Test.YtaggghfnbllbgaaKit
import Derived.OpenShut
import Derived.Lib.SmallJoins
namespace Go.Proofs.Ytaggghfnbllbgaa
open Go.RowKit Go.ChangeShapes Go.WideShapes Go.Deep Go.Joins

/-- A call, as data. -/
structure DOp where
  kind : Int
  file : Int
  sect : Int
  n : Int
  by_ : Nat
  a : Option Addr
  len : Nat
  cap : Nat
  l : List Nat
def DOp.cells (o : DOp) : List Value := [.int .i64 o.kind, .int .i64 o.file, .int .i64 o.sect, .int .i64 o.n, .int .u8 (o.by_ : Int), .slice o.a o.len o.cap]
/-- What is known of one that came in. -/
structure DOp.fair (w : World) (o : DOp) : Prop where
  kind : -9223372036854775808 ≤ o.kind ∧ o.kind ≤ 9223372036854775807
  file : -9223372036854775808 ≤ o.file ∧ o.file ≤ 9223372036854775807
  sect : -9223372036854775808 ≤ o.sect ∧ o.sect ≤ 9223372036854775807
  n : -9223372036854775808 ≤ o.n ∧ o.n ≤ 9223372036854775807
  by_ : o.by_ < 256
  len : o.len = o.l.length
  cap : o.len ≤ o.cap
  max : o.cap ≤ 9223372036854775807
  bs : Bs w.heap.size w o.a o.l

theorem DOp.fair.below {w w' : World} {o : DOp} (h : o.fair w) (hb : Below w.heap.size w w') : o.fair w' :=
  ⟨h.kind, h.file, h.sect, h.n, h.by_, h.len, h.cap, h.max, (h.bs.below hb).mono hb.size⟩

set_option maxRecDepth 100000 in
theorem trod_op {H : Type} {enc : TypeId × Value → H} {w : World} {fuel : Nat} {cs : List Value} {x : DataW H × List MemPlace}
    (h : DataW.trod enc Try.prog w 0 (fun _ => true) true fuel 32 cs = some x) : ∃ o : DOp, cs = o.cells ∧ o.fair w := by
  obtain ⟨xs, n, _, rfl, hl, hlen, hf⟩ := DataW.trod_struct Try.underlying32 h
  have hC : Try.prog.cellsOf 32 = 6 := by kernel_rfl
  rw [hC] at hl
  match cs, hl with
  | [v0, v1, v2, v3, v4, v5], _ =>
    match xs, hlen with
    | [y0, y1, y2, y3, y4, y5], _ =>
      have g0 : DataW.trod enc Try.prog w 0 (fun _ => true) true n 3 [v0] = some y0 := hf 0 _ rfl
      have g1 : DataW.trod enc Try.prog w 0 (fun _ => true) true n 3 [v1] = some y1 := hf 1 _ rfl
      have g2 : DataW.trod enc Try.prog w 0 (fun _ => true) true n 3 [v2] = some y2 := hf 2 _ rfl
      have g3 : DataW.trod enc Try.prog w 0 (fun _ => true) true n 3 [v3] = some y3 := hf 3 _ rfl
      have g4 : DataW.trod enc Try.prog w 0 (fun _ => true) true n 5 [v4] = some y4 := hf 4 _ rfl
      have g5 : DataW.trod enc Try.prog w 0 (fun _ => true) true n 30 [v5] = some y5 := hf 5 _ rfl
      obtain ⟨z0, e0, -, w0⟩ := DataW.trod_int Try.underlying3 g0
      obtain ⟨z1, e1, -, w1⟩ := DataW.trod_int Try.underlying3 g1
      obtain ⟨z2, e2, -, w2⟩ := DataW.trod_int Try.underlying3 g2
      obtain ⟨z3, e3, -, w3⟩ := DataW.trod_int Try.underlying3 g3
      obtain ⟨z4, e4, -, w4⟩ := DataW.trod_int Try.underlying5 g4
      simp only [List.cons.injEq, and_true] at e0 e1 e2 e3 e4
      subst e0 e1 e2 e3 e4
      obtain ⟨k4, rfl, hk4⟩ := nat_u8 w4
      obtain ⟨a, len, cap, zs, e5, hR⟩ : ∃ a len cap zs, [v5] = [.slice a len cap] ∧ IsRow .u8 w a len cap zs := by
        rcases open_ints Try.underlying30 Try.underlying5 (by kernel_rfl) g5 with ⟨hcs, _⟩ | ⟨x, l, c, zs, hcs, _, hl, hm, hz, _, hcell, hwz⟩
        · exact ⟨none, 0, 0, [], hcs, .inl ⟨rfl, rfl, rfl, rfl⟩⟩
        · exact ⟨_, _, _, zs, hcs, .inr ⟨x, rfl, hl, hm, by simpa using hz, hcell, hwz⟩⟩
      obtain ⟨l, hlen', hbs, hlc, hcm⟩ := hR.bs
      simp only [List.cons.injEq, and_true] at e5
      subst e5
      exact ⟨⟨z0, z1, z2, z3, k4, a, len, cap, l⟩, rfl, ⟨bd_i64 w0, bd_i64 w1, bd_i64 w2, bd_i64 w3, hk4, hlen', hlc, hcm, hbs⟩⟩

set_option maxRecDepth 100000 in
theorem open_op {H : Type} {enc : TypeId × Value → H} {w : World} {r : Reach} {b0 : Nat} {v : Value} {d : DataW H} {p : List MemPlace} (hv : Value.okWide Try.prog w r b0 32 v) (h : DataW.Trod enc Try.prog w 0 (fun _ => true) true 32 v d p) :
    ∃ o : DOp, v = .agg o.cells.toArray ∧ o.fair w := by
  obtain ⟨cs, rfl, _⟩ := okWide_struct Try.underlying32 hv
  obtain ⟨fuel, hf⟩ := h
  obtain ⟨o, ho, hfair⟩ := trod_op hf
  refine ⟨o, ?_, hfair⟩
  have : cs.toList = o.cells := ho
  rw [← this]

/-- The calls L lie at the address, in blocks below N, one behind the other. -/
def Ops (N : Nat) (w : World) (a : Option Addr) (L : List DOp) : Prop :=
  L = [] ∨ ∃ b o, a = some ⟨b, o, none⟩ ∧ b < N ∧ ∀ (i : Nat) (x : DOp), L[i]? = some x → ∀ (j : Nat) (v : Value), x.cells[j]? = some v → w.cell? ⟨b, o + i * 6 + j, none⟩ = some v

theorem Ops.below {N : Nat} {w w' : World} {a : Option Addr} {L : List DOp} (h : Ops N w a L) (hb : Below N w w') : Ops N w' a L := by
  rcases h with h | ⟨b, o, ha, hN, hc⟩
  · exact .inl h
  · exact .inr ⟨b, o, ha, hN, fun i x hi j v hv => (hb.cell (p := ⟨b, _, none⟩) hN).trans (hc i x hi j v hv)⟩

/-- What the walk is told of a slice of calls that came in. -/
def OpsIn (w : World) (a : Option Addr) (len cap : Nat) (L : List DOp) : Prop := len = L.length ∧ len ≤ cap ∧ cap ≤ 9223372036854775807 ∧ Ops w.heap.size w a L ∧ ∀ x ∈ L, x.fair w

set_option maxRecDepth 100000 in
theorem open_ops {H : Type} {enc : TypeId × Value → H} {w : World} {r : Reach} {b0 : Nat} {v : Value} {d : DataW H} {p : List MemPlace} (hv : Value.okWide Try.prog w r b0 22 v) (h : DataW.Trod enc Try.prog w 0 (fun _ => true) true 22 v d p) :
    ∃ (a : Option Addr) (len cap : Nat) (L : List DOp), v = .slice a len cap ∧ OpsIn w a len cap L := by
  obtain ⟨a, len, cap, rfl⟩ := okWide_slice Try.underlying22 hv
  obtain ⟨fuel, hf⟩ := h
  rcases open_slice Try.underlying22 hf with ⟨hcs, _⟩ | ⟨x, l, c, m, n, D, Pl, hcs, _, hl, hm, hmm, _, hi⟩
  · simp [Value.cells] at hcs
    obtain ⟨rfl, rfl, rfl⟩ := hcs
    exact ⟨none, 0, 0, [], rfl, rfl, by omega, by omega, .inl rfl, by simp⟩
  · simp [Value.cells] at hcs
    obtain ⟨rfl, rfl, rfl⟩ := hcs
    have hmc : m = cap := by simpa using hmm
    have hC : Try.prog.cellsOf 32 = 6 := by kernel_rfl
    have hex : ∀ i : Fin len, ∃ y : DOp, y.fair w ∧ ∀ (j : Nat) (v : Value), y.cells[j]? = some v → w.cell? ((x.add (i.1 * 6)).add j) = some v := by
      intro i
      obtain ⟨cs', hc', ht'⟩ := hi i.1 (by have := i.2; omega)
      rw [hC] at hc'
      obtain ⟨_, hlen, hat⟩ := World.cells?_some hc'
      obtain ⟨o, rfl, hfair⟩ := trod_op ht'
      refine ⟨o, hfair, fun j v hj => ?_⟩
      rw [hat j (by have := (List.getElem?_eq_some_iff.1 hj).1; rw [← hlen]; exact this)]
      exact hj
    obtain ⟨f, hfx⟩ := Classical.axiomOfChoice hex
    unfold maxLen at hm
    refine ⟨some x, len, cap, List.ofFn f, rfl, by simp, hl, by omega, ?_, ?_⟩
    · by_cases h0 : len = 0
      · left; subst h0; simp
      · right
        obtain ⟨b, o, spot⟩ := x
        have hc0 := (hfx ⟨0, by omega⟩).2 0 _ rfl
        have hspot : spot = none := by
          have := World.cell?_spot hc0
          simpa [Addr.add] using this
        subst hspot
        have hblk := World.block_lt_of_cell? _ _ hc0
        refine ⟨b, o, rfl, by simpa [Addr.add] using hblk, fun i y hy j v hv => ?_⟩
        rw [List.getElem?_ofFn] at hy
        split at hy
        · rename_i hlt
          simp only [Option.some.injEq] at hy
          subst hy
          have e1 : ∀ j, ((⟨b, o, none⟩ : Addr).add (i * 6)).add j = ⟨b, o + i * 6 + j, none⟩ := by
            intro j
            simp only [Addr.add]
            split <;> split <;> simp_all
          have hh := (hfx ⟨i, hlt⟩).2 j v hv
          simp only [e1] at hh
          exact hh
        · cases hy
    · intro y hy
      rw [List.mem_ofFn] at hy
      obtain ⟨i, rfl⟩ := hy
      exact (hfx i).1
end Go.Proofs.Ytaggghfnbllbgaa
