/- A list of spans that comes in as an argument. -/
import Derived.Test.YtockmoiekbhneaaPSort
import Derived.OpenShut
import Derived.Lib.SmallJoins
namespace Go.Proofs.Ytockmoiekbhneaa
open Go.RowKit Go.ChangeShapes Go.WideShapes Go.Deep Go.Joins

/-- What the walk is told of a slice of spans that came in. -/
def SpansIn (w : World) (a : Option Addr) (len cap : Nat) (z : List (Int × Int)) : Prop := len = z.length ∧ len ≤ cap ∧ cap ≤ 9223372036854775807 ∧ Arr w.heap.size w a (cellsT z)

theorem spans_of (w : World) (x : Addr) (len : Nat)
    (hex : ∀ i : Fin len, ∃ y : Int × Int, ∀ (j : Nat) (v : Value), (encS y)[j]? = some v → w.cell? ((x.add (i.1 * 2)).add j) = some v) :
    ∃ L : List (Int × Int), L.length = len ∧ Arr w.heap.size w (some x) (cellsT L) := by
  obtain ⟨g, hg⟩ := Classical.axiomOfChoice hex
  refine ⟨List.ofFn g, by simp, ?_⟩
  by_cases h0 : len = 0
  · left; subst h0; simp [cellsOf]
  · right
    obtain ⟨b, o, spot⟩ := x
    have hc0 := hg ⟨0, by omega⟩ 0 _ rfl
    have hspot : spot = none := by
      have := World.cell?_spot hc0
      simpa [Addr.add] using this
    subst hspot
    have hblk := World.block_lt_of_cell? _ _ hc0
    refine ⟨b, o, rfl, by simpa [Addr.add] using hblk, fun i v hv => ?_⟩
    obtain ⟨y, h1, h2⟩ := cellsOf_atS _ i v hv
    rw [List.getElem?_ofFn] at h1
    split at h1
    · rename_i hlt
      simp only [Option.some.injEq] at h1
      subst h1
      have hh := hg ⟨i / 2, hlt⟩ _ v h2
      have e1 : ((⟨b, o, none⟩ : Addr).add (i / 2 * 2)).add (i % 2) = ⟨b, o + i, none⟩ := by
        have : i / 2 * 2 + i % 2 = i := Nat.div_add_mod' i 2
        simp only [Addr.add]
        split <;> split <;> simp_all <;> omega
      rw [e1] at hh
      exact hh
    · cases h1

set_option maxRecDepth 100000 in
theorem open_spans {H : Type} {enc : TypeId × Value → H} {w : World} {r : Reach} {b0 : Nat} {v : Value} {d : DataW H} {p : List MemPlace} (hv : Value.okWide Try.prog w r b0 26 v) (h : DataW.Trod enc Try.prog w 0 (fun _ => true) true 26 v d p) :
    ∃ (a : Option Addr) (len cap : Nat) (z : List (Int × Int)), v = .slice a len cap ∧ SpansIn w a len cap z := by
  obtain ⟨a, len, cap, rfl⟩ := okWide_slice Try.underlying26 hv
  obtain ⟨fuel, hf⟩ := h
  rcases open_slice Try.underlying26 hf with ⟨hcs, _⟩ | ⟨x, l, c, m, n, D, Pl, hcs, _, hl, hm, hmm, _, hi⟩
  · simp [Value.cells] at hcs
    obtain ⟨rfl, rfl, rfl⟩ := hcs
    exact ⟨none, 0, 0, [], rfl, rfl, by omega, by omega, .inl rfl⟩
  · simp [Value.cells] at hcs
    obtain ⟨rfl, rfl, rfl⟩ := hcs
    have hC : Try.prog.cellsOf 23 = 2 := by kernel_rfl
    unfold maxLen at hm
    have hmc : m = cap := by simpa using hmm
    obtain ⟨L, h1, h2⟩ := spans_of w x len (fun i => by
      obtain ⟨cs', hc', ht'⟩ := hi i.1 (by have := i.2; omega)
      rw [hC] at hc'
      obtain ⟨_, hlen, hat⟩ := World.cells?_some hc'
      obtain ⟨y0, y1, n', _, _, h0, h1⟩ := trod_struct2 Try.underlying23 ht'
      match cs', hlen with
      | [v0, v1], _ =>
        have g0 : DataW.trod enc Try.prog w 0 (fun _ => true) true n' 2 [v0] = some y0 := h0
        have g1 : DataW.trod enc Try.prog w 0 (fun _ => true) true n' 2 [v1] = some y1 := h1
        obtain ⟨z, e0, -, w0⟩ := DataW.trod_int Try.underlying2 g0
        obtain ⟨s, e1, -, w1⟩ := DataW.trod_int Try.underlying2 g1
        simp only [List.cons.injEq, and_true] at e0 e1
        subst e0 e1
        exact ⟨(z, s), fun j v hj => by rw [hat j (by have := (List.getElem?_eq_some_iff.1 hj).1; simpa [encS] using this)]; exact hj⟩)
    exact ⟨some x, len, cap, L, rfl, h1.symm, hl, by omega, h2⟩
end Go.Proofs.Ytockmoiekbhneaa
