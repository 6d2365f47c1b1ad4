/- Several texts of one proof, one behind the other. -/
import Derived.Test.YtapbhhehnbfdfaaWPk18
set_option linter.unusedSimpArgs false
set_option linter.unusedVariables false

/- The walks of bytes.Equal, bytes.HasPrefix and key.Begins. -/
set_option linter.unusedSimpArgs false
set_option linter.unusedVariables false
set_option maxRecDepth 100000
namespace Go.Proofs.Ytapbhhehnbfdfaa
open Go.RowKit

theorem strN_inj {l m : List Nat} (hl : ∀ c ∈ l, c < 256) (hm : ∀ c ∈ m, c < 256) : (strN l = strN m) ↔ l = m :=
  ⟨fun h => by rw [← bytesOf_strN l hl, h, bytesOf_strN m hm], fun h => by rw [h]⟩

/-- 'b[:m]'. -/
theorem Bs.upTo {P : Program} {N : Nat} {w : World} {a : Option Addr} {l : List Nat} (h : Bs N w a l) (t e : TypeId) (ht : P.underlying t = some (.slice e)) (hz : ∀ w, (Go.sizeOf e).run P w = .ok 1 w)
    (len cap m : Nat) (hlen : len = l.length) (hm : m ≤ len) (hcap : len ≤ cap) :
    ∃ a', Bs N w a' (l.take m) ∧ ∀ W, (Instr.slice t (.slice a len cap) none (some (.int .i64 (m : Int))) none).run P W = .ok (.slice a' m cap) W := by
  subst hlen
  have ht' : P.underlying t = some (.slice (P.elem t)) := by simp [Program.elem, ht]
  have hee : P.elem t = e := by simp [Program.elem, ht]
  refine ⟨if cap = 0 then a else a.map (·.add (0 * 1)), ?_, fun W => ?_⟩
  · obtain ⟨h1, h2⟩ := h
    refine ⟨fun c hc => h1 c (List.mem_of_mem_take hc), ?_⟩
    rcases h2 with h2 | ⟨b, o, ha, hN, hc⟩
    · exact .inl (by simp [h2])
    · right
      refine ⟨b, o, ?_, hN, fun i c hi => ?_⟩
      · rw [ha]; split <;> simp [Addr.add]
      · rw [List.getElem?_take] at hi
        split at hi
        · exact hc _ _ hi
        · simp at hi
  · have := run_slice_h (P := P) W t a l.length cap ht' .i64 (m : Int) (by omega) (by omega)
    rw [this, hee, hz W]
    simp [Result.andThen, sliced]

end Go.Proofs.Ytapbhhehnbfdfaa

/- The walks of schema.encoded. -/
set_option linter.unusedSimpArgs false
set_option linter.unusedVariables false
set_option maxRecDepth 100000
namespace Go.Proofs.Ytapbhhehnbfdfaa
open Go.RowKit

/-- What encoded answers: the value if its bytes are these, else nothing. -/
def RetEd (w : World) (X : List Nat × Int) (l : List Nat) (v z : Value) (e : Ending) (w' : World) : Prop := ∃ r q, e = .returned (.tuple #[r, .int .i64 q]) ∧ ((X = (l, 0) ∧ r = v ∧ q = 0) ∨ (X ≠ (l, 0) ∧ r = z ∧ q = 52)) ∧ Below w.heap.size w w'

end Go.Proofs.Ytapbhhehnbfdfaa

/- The walk of schema.encoded, for tables. -/
set_option linter.unusedSimpArgs false
set_option linter.unusedVariables false
set_option maxRecDepth 100000
namespace Go.Proofs.Ytapbhhehnbfdfaa
open Go.RowKit

end Go.Proofs.Ytapbhhehnbfdfaa

/- The walks of the decoder's methods. -/
set_option linter.unusedSimpArgs false
set_option linter.unusedVariables false
set_option maxRecDepth 100000
namespace Go.Proofs.Ytapbhhehnbfdfaa
open Go.RowKit

/-- Where bytes lie. -/
structure BM where
  a : Option Addr
  n : Nat
  c : Nat

theorem textR_bd (l : List Nat) (h : ∀ c ∈ l, c < 256) (p : Int) (hp : p ≤ 9223372036854775807) : 0 ≤ (textR l p).2.1 ∧ (textR l p).2.1 ≤ l.length ∧ ((textR l p).2.2 ≠ 0 → (textR l p).1 = ⟨#[]⟩) := by
  have hb := getR_lt l h p hp
  unfold textR
  dsimp only
  split
  · exact ⟨by simp, by simp, fun _ => rfl⟩
  · split
    · exact ⟨by simp, by simp, fun _ => rfl⟩
    · exact ⟨by dsimp only; omega, by dsimp only; omega, fun h0 => absurd rfl h0⟩

end Go.Proofs.Ytapbhhehnbfdfaa

/- The walk of schema.Read: what holds at work. -/
set_option linter.unusedSimpArgs false
set_option linter.unusedVariables false
set_option maxRecDepth 100000
namespace Go.Proofs.Ytapbhhehnbfdfaa
open Go.RowKit

/-- A table's cells, with the values of its two slices. -/
abbrev Tb.cs (t : Tb) (cv kv : Value) : Array Value := #[.string t.name, cv, kv, .string t.per, .int .i64 t.fr, .int .i64 t.tt, .bool t.apart, .bool t.vers]
abbrev zeroTc : Array Value := #[.string ⟨#[]⟩, .slice none 0 0, .slice none 0 0, .string ⟨#[]⟩, .int .i64 0, .int .i64 0, .bool false, .bool false]

section
variable {w W W' : World} {R D T : Nat} {m : BM} {l : List Nat} {cv kv : Value} {t : Tb} {p : Nat}
end

end Go.Proofs.Ytapbhhehnbfdfaa
