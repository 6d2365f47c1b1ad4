/- Several texts of one proof, one behind the other. -/
import Derived.Test.YtapbhhehnbfdfaaWPk19
set_option linter.unusedSimpArgs false
set_option linter.unusedVariables false

/- What is read of a table's bytes is fair. -/
set_option linter.unusedSimpArgs false
set_option linter.unusedVariables false
set_option maxRecDepth 100000
namespace Go.Proofs.Ytapbhhehnbfdfaa
open Go.RowKit


theorem wrap8_lt (z : Int) : (IntKind.u8.wrap z).toNat < 256 := by rw [IntKind.wrap_u8]; omega
theorem sdI_pos (l : List Nat) (h : ∀ c ∈ l, c < 256) (hl : l.length ≤ 1000000) (p : Nat) (hp : p ≤ l.length) : (sdI l p).2 ≤ l.length := by
  have := (sdI_bd l h p (by omega)).2; omega
theorem sdS_pos (l : List Nat) (h : ∀ c ∈ l, c < 256) (hl : l.length ≤ 1000000) (p : Nat) (hp : p ≤ l.length) : (sdS l p).2 ≤ l.length := by
  have := (sdS_bd l h p (by omega)).2; omega
theorem sdC_fair (l : List Nat) (h : ∀ c ∈ l, c < 256) (hl : l.length ≤ 1000000) (p : Nat) (hp : p ≤ l.length) : (sdC l p).2 ≤ l.length ∧ (sdC l p).1.nm.size ≤ 1000000 ∧ (sdC l p).1.kd < 256 := by
  have h1 := sdS_pos l h hl p hp
  have h2 := sdI_pos l h hl _ h1
  have h3 := sdI_pos l h hl _ h2
  have h4 := (sdS_bd l h p (by omega)).1
  unfold sdC sdF
  exact ⟨h3, Nat.le_trans h4 hl, wrap8_lt _⟩
theorem sdCs_fair (l : List Nat) (h : ∀ c ∈ l, c < 256) (hl : l.length ≤ 1000000) (p : Nat) (hp : p ≤ l.length) : ∀ k, (sdCs l p k).2 ≤ l.length ∧ (sdCs l p k).1.length = k ∧ ∀ c ∈ (sdCs l p k).1, c.nm.size ≤ 1000000 ∧ c.kd < 256
  | 0 => ⟨hp, rfl, by simp [sdCs]⟩
  | k + 1 => by
    obtain ⟨i1, i2, i3⟩ := sdCs_fair l h hl p hp k
    obtain ⟨j1, j2, j3⟩ := sdC_fair l h hl _ i1
    unfold sdCs
    refine ⟨j1, by simp [i2], fun c hc => ?_⟩
    rcases List.mem_append.1 hc with hc | hc
    · exact i3 c hc
    · simp at hc; subst hc; exact ⟨j2, j3⟩
theorem sdKs_fair (l : List Nat) (h : ∀ c ∈ l, c < 256) (hl : l.length ≤ 1000000) (p : Nat) (hp : p ≤ l.length) : ∀ k, (sdKs l p k).2 ≤ l.length ∧ (sdKs l p k).1.length = k ∧ ∀ c ∈ (sdKs l p k).1, -9223372036854775808 ≤ c ∧ c ≤ 9223372036854775807
  | 0 => ⟨hp, rfl, by simp [sdKs]⟩
  | k + 1 => by
    obtain ⟨i1, i2, i3⟩ := sdKs_fair l h hl p hp k
    have j1 := sdI_pos l h hl _ i1
    have j2 := (sdI_bd l h _ (by omega : ((sdKs l p k).2 : Int) ≤ 9223372036854775807)).1
    unfold sdKs
    refine ⟨j1, by simp [i2], fun c hc => ?_⟩
    rcases List.mem_append.1 hc with hc | hc
    · exact i3 c hc
    · simp at hc; subst hc; exact j2
theorem sdN_le (l : List Nat) (p : Nat) (most : Int) (h : 0 ≤ most) : ((sdN l p most).1 : Int) ≤ most := by
  unfold sdN
  dsimp only
  split <;> omega
theorem sdN_pos (l : List Nat) (h : ∀ c ∈ l, c < 256) (hl : l.length ≤ 1000000) (p : Nat) (most : Int) (hp : p ≤ l.length) : (sdN l p most).2 ≤ l.length := sdI_pos l h hl p hp
/-- All that is read is fair. -/
theorem decT_fair (l : List Nat) (h : ∀ c ∈ l, c < 256) (hl : l.length ≤ 1000000) : (decT l).Fair := by
  have h1 := sdS_pos l h hl 0 (by omega)
  have h1s := (sdS_bd l h 0 (by omega)).1
  have h2 : (dn2 l).2 ≤ l.length := sdN_pos l h hl _ 16 h1
  have h2n : ((dn2 l).1 : Int) ≤ 16 := sdN_le l _ 16 (by omega)
  obtain ⟨h3, h3n, h3f⟩ := sdCs_fair l h hl _ h2 (dn2 l).1
  have h4 : (dn4 l).2 ≤ l.length := sdN_pos l h hl _ 8 h3
  have h4n : ((dn4 l).1 : Int) ≤ 8 := sdN_le l _ 8 (by omega)
  obtain ⟨h5, h5n, h5f⟩ := sdKs_fair l h hl _ h4 (dn4 l).1
  have h5' : (dk5 l).2 ≤ l.length := h5
  have h6 : (ds6 l).2 ≤ l.length := sdS_pos l h hl _ h5'
  have h6s := (sdS_bd l h _ (by omega : ((dk5 l).2 : Int) ≤ 9223372036854775807)).1
  have h7 : (di7 l).2 ≤ l.length := sdI_pos l h hl _ h6
  have h7b := (sdI_bd l h _ (by omega : ((ds6 l).2 : Int) ≤ 9223372036854775807)).1
  have h8b := (sdI_bd l h _ (by omega : ((di7 l).2 : Int) ≤ 9223372036854775807)).1
  refine ⟨?_, ?_, ?_, ?_, h7b, h8b, h3f, h5f⟩
  · show (dc3 l).1.length ≤ _
    have : (dc3 l).1.length = (dn2 l).1 := h3n
    omega
  · show (dk5 l).1.length ≤ _
    have : (dk5 l).1.length = (dn4 l).1 := h5n
    omega
  · show (sdS l 0).1.size ≤ _
    omega
  · show (ds6 l).1.size ≤ _
    have : (ds6 l).1.size ≤ l.length := h6s
    omega
end Go.Proofs.Ytapbhhehnbfdfaa

/- The walk of schema.Read. -/
set_option linter.unusedSimpArgs false
set_option linter.unusedVariables false
set_option maxRecDepth 100000
namespace Go.Proofs.Ytapbhhehnbfdfaa
open Go.RowKit

theorem own_base {w : World} {base base' : Nat} {e : TypeId} {size n : Nat} {v : Value} {xs : List Value} (h : w.ownsRow base e size v n xs) (hb : base' ≤ base) : w.ownsRow base' e size v n xs := by
  obtain ⟨h1, h2⟩ := h
  refine ⟨h1, ?_⟩
  rcases h2 with h2 | ⟨g, cap, cur, hv, hg, r⟩
  · exact .inl h2
  · exact .inr ⟨g, cap, cur, hv, by omega, r⟩

end Go.Proofs.Ytapbhhehnbfdfaa

/- schema.Read's answer as a table in memory. -/
set_option linter.unusedSimpArgs false
set_option linter.unusedVariables false
set_option maxRecDepth 100000
namespace Go.Proofs.Ytapbhhehnbfdfaa
open Go.RowKit

def zeroTb : Tb := ⟨⟨#[]⟩, [], [], ⟨#[]⟩, 0, 0, false, false⟩
theorem zeroTb_fair : zeroTb.Fair := ⟨by decide, by decide, by decide, by decide, by decide, by decide, (by intro c hc; cases hc), (by intro c hc; cases hc)⟩
def RetRd (w : World) (l : List Nat) (e : Ending) (w' : World) : Prop := ∃ (t : Tb) (m : TM) (q : Int), e = .returned (.tuple #[.agg #[.string t.name, .slice m.ca m.cl m.cc, .slice m.ka m.kl m.kc, .string t.per, .int .i64 t.fr, .int .i64 t.tt, .bool t.apart, .bool t.vers], .int .i64 q]) ∧
  TAt w' t m ∧ Below w.heap.size w w' ∧ ((t = decT l ∧ writeT (decT l) = (l, 0) ∧ q = 0) ∨ (t = zeroTb ∧ writeT (decT l) ≠ (l, 0) ∧ q = 52))

theorem writeT_ok {t : Tb} {l : List Nat} (h : writeT t = (l, 0)) : t.ok = true ∧ encT t = l := by
  unfold writeT at h
  by_cases ht : t.ok = true
  · rw [if_pos ht] at h
    exact ⟨ht, congrArg Prod.fst h⟩
  · rw [if_neg ht] at h
    have := congrArg Prod.snd h
    simp at this
theorem zeroTb_ok : zeroTb.ok = false := by
  by_cases h : zeroTb.ok = true
  · have := (Tb.ok_iff.1 h).2.1.1
    simp [zeroTb] at this
  · simpa using h
end Go.Proofs.Ytapbhhehnbfdfaa

/- What may stand in a column; the walk of Column.check. -/
set_option linter.unusedSimpArgs false
set_option linter.unusedVariables false
set_option maxRecDepth 100000
namespace Go.Proofs.Ytapbhhehnbfdfaa
open Go.RowKit

/-- The error of a value in a column. -/
def chkV (c : Col) (x : Vl) : Int := if x.right = false then 3 else if x.k = 0 then (if c.nn then 23 else 0) else if x.k = c.kd then 0 else 20
/-- The first one's. -/
def rowErr : List Col → List Vl → Int
  | c :: cs, x :: xs => if chkV c x = 0 then rowErr cs xs else chkV c x
  | _, _ => 0
theorem rowErr_first : ∀ (cs : List Col) (xs : List Vl) (k : Nat) (hc : k < cs.length) (hx : k < xs.length), (∀ (i : Nat) c x, i < k → cs[i]? = some c → xs[i]? = some x → chkV c x = 0) → chkV cs[k] xs[k] ≠ 0 → rowErr cs xs = chkV cs[k] xs[k]
  | [], _, k, hc, _, _, _ => by simp at hc
  | _ :: _, [], k, _, hx, _, _ => by simp at hx
  | c :: cs, x :: xs, 0, _, _, _, h => by
    unfold rowErr
    exact if_neg h
  | c :: cs, x :: xs, k + 1, hc, hx, h0, h => by
    unfold rowErr
    rw [if_pos (h0 0 c x (by omega) rfl rfl)]
    exact rowErr_first cs xs k (by simpa using hc) (by simpa using hx) (fun i c x hi h1 h2 => h0 (i + 1) c x (by omega) h1 h2) h
theorem rowErr_none : ∀ (cs : List Col) (xs : List Vl), (∀ (i : Nat) c x, cs[i]? = some c → xs[i]? = some x → chkV c x = 0) → rowErr cs xs = 0
  | [], _, _ => by simp [rowErr]
  | _ :: _, [], _ => by simp [rowErr]
  | c :: cs, x :: xs, h => by
    unfold rowErr
    rw [if_pos (h 0 c x rfl rfl)]
    exact rowErr_none cs xs (fun i c x h1 h2 => h (i + 1) c x h1 h2)
theorem rowErr_ok : ∀ (cs : List Col) (xs : List Vl), rowErr cs xs = 0 → ∀ (i : Nat) c x, cs[i]? = some c → xs[i]? = some x → chkV c x = 0
  | [], _, _, i, c, x, h1, _ => by simp at h1
  | _ :: _, [], _, i, c, x, _, h2 => by simp at h2
  | d :: cs, y :: xs, h, i, c, x, h1, h2 => by
    unfold rowErr at h
    by_cases h0 : chkV d y = 0
    · rw [if_pos h0] at h
      cases i with
      | zero => simp at h1 h2; subst h1 h2; exact h0
      | succ i => exact rowErr_ok cs xs h i c x (by simpa using h1) (by simpa using h2)
    · rw [if_neg h0] at h; exact absurd h h0
theorem rowErr_bd : ∀ (cs : List Col) (xs : List Vl), 0 ≤ rowErr cs xs ∧ rowErr cs xs ≤ 100
  | [], _ => by simp [rowErr]
  | _ :: _, [] => by simp [rowErr]
  | d :: cs, y :: xs => by
    unfold rowErr
    split
    · exact rowErr_bd cs xs
    · unfold chkV; split <;> (try split) <;> (try split) <;> omega

end Go.Proofs.Ytapbhhehnbfdfaa

/- The walks of schema.front and schema.span. -/
set_option linter.unusedSimpArgs false
set_option linter.unusedVariables false
set_option maxRecDepth 100000
namespace Go.Proofs.Ytapbhhehnbfdfaa
open Go.RowKit

def zeroVl : Vl := ⟨0, 0, ⟨#[]⟩⟩
/-- The values of Key of a row. -/
def frontV (ks : List Int) (l : List Vl) : List Vl := ks.map fun k => l.getD k.toNat zeroVl
theorem frontV_snoc (ks : List Int) (l : List Vl) (k : Nat) (h : k < ks.length) : frontV (ks.take (k + 1)) l = frontV (ks.take k) l ++ [l.getD ks[k].toNat zeroVl] := by
  unfold frontV
  rw [List.take_succ_eq_append_getElem h, List.map_append]
  rfl

theorem info_valS : (Try.prog.info? 23).map (fun i => (i.zero, i.size, i.bytes)) = some (some (.agg #[.int .u8 0, .int .i64 0, .string ⟨#[]⟩]), 3, 32) := by kernel_rfl

end Go.Proofs.Ytapbhhehnbfdfaa
