/- The walk of key.escape. -/
import Derived.Test.YtfldjmjnjeemeaaKMath
import Derived.Test.YtfldjmjnjeemeaaKIs
import Derived.Test.YtfldjmjnjeemeaaRWrite
import Derived.Lib.ConvBytes
namespace Go.Proofs.Ytfldjmjnjeemeaa
open Go.RowKit

theorem escL_take (l : List Nat) (k : Nat) (h : k < l.length) : escL (l.take (k + 1)) = escL (l.take k) ++ (if l[k] = 0 then [0, 255] else [l[k]]) := by
  unfold escL; rw [List.take_succ_eq_append_getElem h, List.flatMap_append]; simp [List.flatMap_cons]

theorem escL_len (l : List Nat) : (escL l).length ≤ 2 * l.length := by
  induction l with
  | nil => simp [escL]
  | cons c r ih =>
    by_cases h : c = 0
    · subst h; rw [escL_cons0]; simp; omega
    · rw [escL_cons h]; simp; omega

theorem OwnB.base {w : World} {b b' : Nat} {T : TypeId} {v : Value} {l : List Nat} (h : OwnB w b T v l) (hb : b' ≤ b) : OwnB w b' T v l := by
  obtain ⟨h0, h1, h2⟩ := h
  refine ⟨h0, h1, ?_⟩
  rcases h2 with h2 | ⟨g, c, cur, hv, hg, rest⟩
  · exact .inl h2
  · exact .inr ⟨g, c, cur, hv, by omega, rest⟩

/-- '[]byte(s)': the bytes of s in a block of their own. -/
theorem conv_bytes (s : ByteArray) (w : World) : ∃ W1 cap, (convert 9 30 (.string s)).run Try.prog w = .ok (.slice (some ⟨w.heap.size, 0, none⟩) s.size cap) W1 ∧ Below w.heap.size w W1 ∧ W1.heap.size = w.heap.size + 1 ∧
    ∀ (j : Nat) (h : j < (bytesOf s).length), W1.cell? ⟨w.heap.size, j, none⟩ = some (.int .u8 ((bytesOf s)[j] : Int)) := by
  refine ⟨_, _, Lib.run_convert_string_bytes w 9 30 5 s Try.underlying9 Try.underlying30 Try.underlying5, ⟨rfl, rfl, rfl, ?_, fun k hk => Lib.bytesWorld_at_old w _ s k hk⟩, Lib.bytesWorld_size w _ s, ?_⟩
  · rw [Lib.bytesWorld_size]; omega
  · intro j hj
    have hj2 : j < s.size := by rw [bytesOf_len] at hj; exact hj
    rw [Lib.bytesWorld_cell w _ s j hj2]
    have : (bytesOf s)[j] = (s.data.toList.getD j 0).toNat := by
      simp only [bytesOf, List.getElem_map]
      congr 1
      have hj3 : j < s.data.toList.length := by simpa using hj2
      rw [List.getD_eq_getElem?_getD, List.getElem?_eq_getElem hj3]; rfl
    rw [this]

end Go.Proofs.Ytfldjmjnjeemeaa
