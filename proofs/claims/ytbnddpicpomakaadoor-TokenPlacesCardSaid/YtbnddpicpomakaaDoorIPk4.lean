/- Several texts of one proof, one behind the other. -/
import Derived.Test.YtbnddpicpomakaaDoorIPk3
import Derived.Lib.Hide
import Derived.Deep.RegionWith
import Derived.BigQuiet
set_option linter.unusedSimpArgs false
set_option linter.unusedVariables false

/- 'append(s, x, y)': several values that have just been laid together. -/
set_option linter.unusedSimpArgs false
set_option linter.unusedVariables false
set_option maxRecDepth 100000
namespace Go.Proofs.YtbnddpicpomakaaDoor
open Go.RowKit

/-- 'append(s, x..)', m values just laid in a block of their own: one operation. -/
theorem wp_appM {P : Program} {o : Oper} {a : Act} {K : Act → World → Prop} {Q : Exit → Act → World → Prop} (s x : Operand) (t : TypeId)
    (ho : o.op = .call { callee := .builtin .append, args := #[s, x], argTypes := #[t, t] })
    (base : Nat) (e : TypeId) (i : TypeInfo) (zr : Value) (z bytes m : Nat) (ht : P.underlying t = some (.slice e)) (hi : P.info? e = some i) (hz : i.zero = some zr) (hzs : zr.cells.size = z)
    (hsize : i.size = z) (hz0 : 0 < z) (hby : i.bytes = bytes) (hb100 : bytes ≤ 100)
    (v : Value) (n : Nat) (l news : List Value) (w : World) (hown : w.ownsRow base e z v n l) (hs : a.eval s = v) (cs : Array Value) (hcs : cs = news.toArray) (hl : news.length = m * z) (h1 : ∀ u ∈ news, u.oneCell' = true)
    (hx : a.eval x = .slice (some ⟨w.heap.size, 0, none⟩) m m) (hlen : n + m < 1000000000000) (hbase : base ≤ w.heap.size)
    (h : ∀ v' w', w'.ownsRow base e z v' (n + m) (l ++ news) → Chg v.ownBlock.toList (w.alloc (.cells cs e)) w' → w.heap.size < w'.heap.size → K (a.put o.dst v') w') :
    o.wp P a (w.alloc (.cells cs e)) K Q := by
  subst hcs
  refine wp_append_own (w.alloc (.cells news.toArray e)) s x t ho base e i zr z bytes ht hi hz hsize hby hzs hz0 v n _ hs (World.ownsRow.alloc hown _) ⟨w.heap.size, 0, none⟩ m m news hx (by rw [hl]) ?_ h1 ?_ ?_ ?_ ?_
  · intro j u hj
    have e0 : (⟨w.heap.size, 0, none⟩ : Addr).add j = ⟨w.heap.size, j, none⟩ := by
      unfold Addr.add; split <;> simp_all
    rw [e0, World.cell?_alloc_at _ _ _ _ rfl]
    simpa using hj
  · unfold maxLen; omega
  · have : (n + m) * bytes ≤ 1000000000000 * 100 := Nat.mul_le_mul (by omega) hb100
    omega
  · simp; omega
  · intro v' w' hown' hgrow _
    have hsz := hgrow.size
    refine h v' w' hown' ⟨hgrow.os, hgrow.tape, hgrow.output, hsz, fun k hk hn => ?_⟩ (by simp at hsz; omega)
    exact hgrow.block k hk (by intro he; apply hn; rw [Option.mem_toList]; exact he.symm)
theorem wpList_appM {P : Program} {ops : Array Oper} {rest : List Oper} {o : Oper} {a : Act} {Q : Exit → Act → World → Prop} (hgd : o.guard = none) (s x : Operand) (t : TypeId)
    (ho : o.op = .call { callee := .builtin .append, args := #[s, x], argTypes := #[t, t] })
    (base : Nat) (e : TypeId) (i : TypeInfo) (zr : Value) (z bytes m : Nat) (ht : P.underlying t = some (.slice e)) (hi : P.info? e = some i) (hz : i.zero = some zr) (hzs : zr.cells.size = z)
    (hsize : i.size = z) (hz0 : 0 < z) (hby : i.bytes = bytes) (hb100 : bytes ≤ 100)
    (v : Value) (n : Nat) (l news : List Value) (w : World) (hown : w.ownsRow base e z v n l) (hs : a.eval s = v) (cs : Array Value) (hcs : cs = news.toArray) (hl : news.length = m * z) (h1 : ∀ u ∈ news, u.oneCell' = true)
    (hx : a.eval x = .slice (some ⟨w.heap.size, 0, none⟩) m m) (hlen : n + m < 1000000000000) (hbase : base ≤ w.heap.size)
    (h : ∀ v' w', w'.ownsRow base e z v' (n + m) (l ++ news) → Chg v.ownBlock.toList (w.alloc (.cells cs e)) w' → w.heap.size < w'.heap.size → wpList P ops Q rest (a.put o.dst v') w') :
    wpList P ops Q (o :: rest) a (w.alloc (.cells cs e)) :=
  wpList_plain hgd fun _ hK => wp_appM s x t ho base e i zr z bytes m ht hi hz hzs hsize hz0 hby hb100 v n l news w hown hs cs hcs hl h1 hx hlen hbase fun v' w' h2 h3 h4 => hK _ _ (h v' w' h2 h3 h4)
end Go.Proofs.YtbnddpicpomakaaDoor

/- The walks of Get: varint's and hindsightref01's. -/
set_option linter.unusedSimpArgs false
set_option linter.unusedVariables false
set_option maxRecDepth 100000
namespace Go.Proofs.YtbnddpicpomakaaDoor
open Go.RowKit

theorem Tryd.sizeOf5 : ∀ w, (Go.sizeOf 5).run Tryd.prog w = .ok 1 w := by
  obtain ⟨i0, hi, hz0, hz1, hz2⟩ := info_parts Tryd.info5
  intro w
  have h := run_sizeOf (P := Tryd.prog) w hi
  have e : Tryd.prog.cellsOf 5 = 1 := by kernel_rfl
  rw [e] at h; exact h

end Go.Proofs.YtbnddpicpomakaaDoor

/- The walks of Zig, Zag, PutInt, GetInt (varint's and hindsightref01's). -/
set_option linter.unusedSimpArgs false
set_option linter.unusedVariables false
set_option maxRecDepth 100000
namespace Go.Proofs.YtbnddpicpomakaaDoor
open Go.RowKit

theorem ret_i {k : IntKind} {a b : Int} (h : a = b) : Ending.returned (.int k a) = .returned (.int k b) := by rw [h]

theorem wrap_u64_neg (n : Int) (h : n < 0) (h1 : -9223372036854775808 ≤ n) : IntKind.u64.wrap n = n + 18446744073709551616 := by
  rw [IntKind.wrap_u64]; omega

theorem and1 (v : Nat) (h : v < 18446744073709551616) : bits .and .u64 (v : Int) 1 = ((v % 2 : Nat) : Int) := by
  have := u64_and_nat v 1 h (by omega)
  rw [nat_mask1] at this; exact this

theorem getR_lt (l : List Nat) (h : ∀ c ∈ l, c < 256) (at_ : Int) (h1 : at_ ≤ 9223372036854775807) : (getR l at_).1 < 18446744073709551616 ∧ 0 ≤ (getR l at_).2.1 ∧ (getR l at_).2.1 ≤ l.length := by
  have hS : ∀ (D : List Nat) (i v : Nat), (∀ c ∈ D, c < 256) → i ≤ 9 → v < 128 ^ i → (getS D i v).1 < 18446744073709551616 ∧ (getS D i v).2.1 ≤ D.length + i := by
    intro D
    induction D with
    | nil => intro i v _ _ _; simp [getS]
    | cons c r ih =>
      intro i v hD hi hv
      unfold getS
      split
      · simp
      · split
        · simp
        · split
          · have := fits7 c i v hv (by omega)
            rw [Nat.mod_eq_of_lt (by omega)] at this
            simp; omega
          · have hc := hD c (by simp)
            have := grow7 c i v hv
            rw [show c % 128 = c - 128 by omega] at this
            have := ih (i + 1) (v + (c - 128) * 128 ^ i) (fun d hd => hD d (by simp [hd])) (by omega) (by omega)
            simp; omega
  unfold getR
  split
  · simp
  · simp only []
    have hq := hS (l.drop at_.toNat) 0 0 (fun c hc => h c (List.mem_of_mem_drop hc)) (by omega) (by simp)
    rw [List.length_drop] at hq
    split
    · refine ⟨hq.1, ?_, ?_⟩ <;> simp only [] <;> omega
    · simp

theorem getR_err (l : List Nat) (at_ : Int) : (getR l at_).2.2 ≠ 0 → (getR l at_).1 = 0 ∧ (getR l at_).2.1 = 0 := by
  unfold getR
  split
  · simp
  · simp only []
    split
    · simp
    · simp

end Go.Proofs.YtbnddpicpomakaaDoor

/- The walk of hindsightlaw01.alive. -/
set_option linter.unusedSimpArgs false
set_option linter.unusedVariables false
set_option maxRecDepth 100000
namespace Go.Proofs.YtbnddpicpomakaaDoor
open Go.RowKit

/-- A call that hands back bytes l in memory of its own. -/
def RetB (w : World) (l : List Nat) (e : Ending) (w' : World) : Prop :=
  ∃ a cap, e = .returned (.slice a l.length cap) ∧ l.length ≤ cap ∧ Bs w'.heap.size w' a l ∧ Below w.heap.size w w'

theorem RetB.of {w : World} {l : List Nat} {T : TypeId} {e : Ending} {w' : World} : (∃ r, e = .returned r ∧ OwnB w' w.heap.size T r l ∧ Below w.heap.size w w') → RetB w l e w' := by
  rintro ⟨r, rfl, hown, hb⟩
  obtain ⟨a, cap, rfl, hc, hB, _⟩ := hown.slice
  exact ⟨a, cap, rfl, hc, hB, hb⟩

theorem Bs.str {N : Nat} {w : World} {a : Option Addr} {l : List Nat} (h : Bs N w a l) (n cap : Nat) (hn : n = l.length) :
    (convert 80 9 (.slice a n cap)).run Tryd.prog w = .ok (.string (strN l)) w :=
  h.conv 80 5 Tryd.underlying80 Tryd.underlying5 9 Tryd.underlying9 n cap hn

theorem Bs.strL {w : World} {a : Option Addr} {l : List Nat} (h : Bs w.heap.size w a l) (n cap : Nat) (hn : n = l.length) :
    ∀ W, Later w W → (convert 80 9 (.slice a n cap)).run Tryd.prog W = .ok (.string (strN l)) W := fun W hW => (h.below hW).str n cap hn

theorem Bs.new (w : World) (l : List Nat) (hl : ∀ c ∈ l, c < 256) (cs : Array Value) (T : TypeId) (hcs : ∀ (i c : Nat), l[i]? = some c → cs[i]? = some (Value.int .u8 (c : Int))) :
    Bs (w.heap.size + 1) (w.alloc (.cells cs T)) (some ⟨w.heap.size, 0, none⟩) l :=
  ⟨hl, .inr ⟨w.heap.size, 0, rfl, by omega, fun i c hi => by rw [World.cell?_alloc_new, Nat.zero_add]; exact hcs i c hi⟩⟩

theorem e300 : putL 300 = [172, 2] := by rw [putL_step (by omega), putL_small (by omega)]

end Go.Proofs.YtbnddpicpomakaaDoor

/- The walks of the laws VarintSizes and VarintInts. -/
set_option linter.unusedSimpArgs false
set_option linter.unusedVariables false
set_option maxRecDepth 100000
namespace Go.Proofs.YtbnddpicpomakaaDoor
open Go.RowKit

end Go.Proofs.YtbnddpicpomakaaDoor

/- The walk of the law VarintInts. -/
set_option linter.unusedSimpArgs false
set_option linter.unusedVariables false
set_option maxRecDepth 100000
namespace Go.Proofs.YtbnddpicpomakaaDoor
open Go.RowKit

end Go.Proofs.YtbnddpicpomakaaDoor
