/- An array of 64 bytes that comes in as an argument. -/
import Derived.Test.YtfldjmjnjeemeaaClkM
import Derived.OpenShut
import Derived.Lib.SmallJoins
namespace Go.Proofs.Ytfldjmjnjeemeaa
open Go.RowKit Go.ChangeShapes Go.WideShapes Go.Deep Go.Joins

set_option maxRecDepth 100000 in
theorem open_arr64 {H : Type} {enc : TypeId × Value → H} {w : World} {r : Reach} {b0 : Nat} {v : Value} {d : DataW H} {p : List MemPlace} (hv : Value.okWide Try.prog w r b0 24 v) (h : DataW.Trod enc Try.prog w 0 (fun _ => true) true 24 v d p) :
    ∃ l : List Nat, v = .agg (byL l) ∧ l.length = 64 ∧ ∀ c ∈ l, c < 256 := by
  have hC : Try.prog.cellsOf 5 = 1 := by kernel_rfl
  have hC64 : Try.prog.cellsOf 24 = 64 := by kernel_rfl
  simp only [Value.okWide, Try.underlying24] at hv
  obtain ⟨cs, rfl, _⟩ := hv
  obtain ⟨fuel, hf⟩ := h
  obtain ⟨xs, m, _, _, hl, hx, hi⟩ := DataW.trod_array Try.underlying24 hf
  rw [hC64] at hl
  have hl : cs.size = 64 := by simpa [Value.cells] using hl
  have hex : ∀ i : Fin 64, ∃ c : Nat, cs[i.1]? = some (byV c) ∧ c < 256 := by
    intro i
    have h1 := hi i.1 i.2
    rw [hC, Nat.mul_one, List.getElem?_eq_getElem (by rw [hx]; exact i.2)] at h1
    have hlt : i.1 < cs.size := by rw [hl]; exact i.2
    have e : (((Value.agg cs).cells.toList.drop i.1).take 1) = [cs[i.1]] := by
      show ((cs.toList.drop i.1).take 1) = _
      rw [List.drop_eq_getElem_cons (by simpa using hlt)]
      simp
    rw [e] at h1
    obtain ⟨n, e0, -, w0⟩ := DataW.trod_int Try.underlying5 h1
    simp only [List.cons.injEq, and_true] at e0
    obtain ⟨k, rfl, hk⟩ := nat_u8 w0
    exact ⟨k, by rw [Array.getElem?_eq_getElem hlt, e0]; rfl, hk⟩
  obtain ⟨f, hfx⟩ := Classical.axiomOfChoice hex
  refine ⟨List.ofFn f, ?_, by simp, fun c hc => ?_⟩
  · congr 1
    apply Array.ext_getElem?
    intro i
    by_cases hi : i < 64
    · rw [(hfx ⟨i, hi⟩).1, byL_get _ _ (by rw [List.length_ofFn]; exact hi), List.getElem_ofFn]
    · rw [Array.getElem?_eq_none (by omega), Array.getElem?_eq_none (by rw [byL_size, List.length_ofFn]; omega)]
  · rw [List.mem_ofFn] at hc
    obtain ⟨i, rfl⟩ := hc
    exact (hfx i).2
end Go.Proofs.Ytfldjmjnjeemeaa
