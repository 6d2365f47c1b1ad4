/- A slice of values that comes in as an argument: its elements. -/
import Derived.Test.YtipeinkogoghnaaRGreat
import Derived.OpenShut
import Derived.Lib.SmallJoins
namespace Go.Proofs.Ytipeinkogoghnaa
open Go.RowKit Go.ChangeShapes Go.WideShapes Go.Deep Go.Joins

/-- What is known of a value that came in. -/
def Came (x : Vl) : Prop := x.k < 256 ∧ (-9223372036854775808 ≤ x.n ∧ x.n ≤ 9223372036854775807) ∧ x.s.size ≤ 9223372036854775807

theorem Came.fair {x : Vl} (h : Came x) : x.fair := ⟨h.1, h.2.1, by have := h.2.2; omega⟩

set_option maxRecDepth 100000 in
theorem open_vals {H : Type} {enc : TypeId × Value → H} {w : World} {r : Reach} {b0 : Nat} {v : Value} {d : DataW H} {p : List MemPlace} (hv : Value.okWide Try.prog w r b0 32 v) (h : DataW.Trod enc Try.prog w 0 (fun _ => true) true 32 v d p) :
    ∃ (a : Option Addr) (len cap : Nat) (L : List Vl), v = .slice a len cap ∧ len = L.length ∧ len ≤ cap ∧ cap ≤ 9223372036854775807 ∧ Vs w.heap.size w a L ∧ ∀ x ∈ L, Came x := by
  obtain ⟨a, len, cap, rfl⟩ := okWide_slice Try.underlying32 hv
  obtain ⟨fuel, hf⟩ := h
  rcases open_slice Try.underlying32 hf with ⟨hcs, _⟩ | ⟨x, l, c, m, n, D, Pl, hcs, _, hl, hm, hmm, _, hi⟩
  · simp [Value.cells] at hcs
    obtain ⟨rfl, rfl, rfl⟩ := hcs
    exact ⟨none, 0, 0, [], rfl, rfl, by omega, by omega, .inl rfl, by simp⟩
  · simp [Value.cells] at hcs
    obtain ⟨rfl, rfl, rfl⟩ := hcs
    have hmc : m = cap := by simpa using hmm
    have hC : Try.prog.cellsOf 23 = 3 := by kernel_rfl
    have hex : ∀ i : Fin len, ∃ y : Vl, Came y ∧ w.cell? ((x.add (i.1 * 3)).add 0) = some (.int .u8 y.k) ∧ w.cell? ((x.add (i.1 * 3)).add 1) = some (.int .i64 y.n) ∧ w.cell? ((x.add (i.1 * 3)).add 2) = some (.string y.s) := by
      intro i
      obtain ⟨cs', hc', ht'⟩ := hi i.1 (by have := i.2; omega)
      rw [hC] at hc'
      obtain ⟨_, hlen, hat⟩ := World.cells?_some hc'
      obtain ⟨y0, y1, y2, n', _, _, h0, h1, h2⟩ := trod_struct3 Try.underlying23 ht'
      match cs', hlen with
      | [v0, v1, v2], _ =>
        have g0 : DataW.trod enc Try.prog w 0 (fun _ => true) true n' 5 [v0] = some y0 := h0
        have g1 : DataW.trod enc Try.prog w 0 (fun _ => true) true n' 2 [v1] = some y1 := h1
        have g2 : DataW.trod enc Try.prog w 0 (fun _ => true) true n' 9 [v2] = some y2 := h2
        obtain ⟨k, e0, -, w0⟩ := DataW.trod_int Try.underlying5 g0
        obtain ⟨z, e1, -, w1⟩ := DataW.trod_int Try.underlying2 g1
        obtain ⟨s, e2, -, w2⟩ := DataW.trod_string Try.underlying9 g2
        simp only [List.cons.injEq, and_true] at e0 e1 e2
        subst e0 e1 e2
        obtain ⟨k', rfl, hk⟩ := nat_u8 w0
        have hz := bd_i64 w1
        unfold maxLen at w2
        exact ⟨⟨k', z, s⟩, ⟨hk, hz, w2⟩, by rw [hat 0 (by omega)]; rfl, by rw [hat 1 (by omega)]; rfl, by rw [hat 2 (by omega)]; rfl⟩
    obtain ⟨f, hfx⟩ := Classical.axiomOfChoice hex
    unfold maxLen at hm
    refine ⟨some x, len, cap, List.ofFn f, rfl, by simp, hl, by omega, ?_, ?_⟩
    · by_cases h0 : len = 0
      · left; subst h0; simp
      · right
        obtain ⟨b, o, spot⟩ := x
        have hc0 := (hfx ⟨0, by omega⟩).2.1
        have hspot : spot = none := by
          have := World.cell?_spot hc0
          simpa [Addr.add] using this
        subst hspot
        have hblk := World.block_lt_of_cell? _ _ hc0
        refine ⟨b, o, rfl, by simpa [Addr.add] using hblk, fun i y hy => ?_⟩
        rw [List.getElem?_ofFn] at hy
        split at hy
        · rename_i hlt
          simp only [Option.some.injEq] at hy
          subst hy
          have e1 : ∀ j, ((⟨b, o, none⟩ : Addr).add (i * 3)).add j = ⟨b, o + i * 3 + j, none⟩ := by
            intro j
            simp only [Addr.add]
            split <;> split <;> simp_all
          have hh := hfx ⟨i, hlt⟩
          simp only [e1, Nat.add_zero] at hh
          exact hh.2
        · cases hy
    · intro y hy
      rw [List.mem_ofFn] at hy
      obtain ⟨i, rfl⟩ := hy
      exact (hfx i).1
end Go.Proofs.Ytipeinkogoghnaa
