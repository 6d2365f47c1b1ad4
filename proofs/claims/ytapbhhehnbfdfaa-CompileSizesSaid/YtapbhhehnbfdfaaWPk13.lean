/- Several texts of one proof, one behind the other. -/
import Derived.Test.YtapbhhehnbfdfaaWPk12
import Derived.Deep.WholeRow
import Derived.Laws.Rows
import Derived.Laws.CopyRow
import Derived.Deep.Slices
import Derived.Deep.Fields
import Derived.ChangeSame
set_option linter.unusedSimpArgs false
set_option linter.unusedVariables false

/- The walk of schema.WriteIndex. -/
set_option linter.unusedSimpArgs false
set_option linter.unusedVariables false
set_option maxRecDepth 100000
namespace Go.Proofs.Ytapbhhehnbfdfaa
open Go.RowKit

def encX (n s : ByteArray) (c : Int) : List Nat := textL n ++ (textL s ++ intL c)
def okX (n s : ByteArray) (c : Int) : Bool := isNm n && (isNm s && (!decide (c < 0) && !decide (16 ≤ c)))
def writeX (n s : ByteArray) (c : Int) : List Nat × Int := if okX n s c = true then (encX n s c, 0) else ([], 3)
theorem Blk.belS {w w' : World} {g N : Nat} {t : TypeId} {cs : Array Value} (h : Blk w g t cs) (hb : Below N w w') (hg : g < N) : Blk w' g t cs := (hb.block g hg).trans h

end Go.Proofs.Ytapbhhehnbfdfaa

/- A variable as a whole: handed back, stored. -/
set_option linter.unusedSimpArgs false
set_option linter.unusedVariables false
set_option maxRecDepth 100000
namespace Go.Proofs.Ytapbhhehnbfdfaa
open Go.RowKit

/-- What a call hands back: a variable as a whole, and a temporary. -/
theorem results_cell_tmp {P : Program} {fn : Func} {p t : Tmp} {ty : TypeId} (h : fn.results = #[.cell p ty, .tmp t]) (tmps : Array Value) (w : World) {ad : Addr} {v u : Value}
    (hp : tmps.getD p undef = .pointer (some ad)) (ht : tmps.getD t undef = u) (hl : (loadVar ty ad).run P w = .ok v w) : (results fn tmps).run P w = .ok (.tuple #[v, u]) w := by
  have hp' : tmps[p]?.getD undef = .pointer (some ad) := by simpa using hp
  have ht' : tmps[t]?.getD undef = u := by simpa using ht
  simp [results, h, hp', ht', asAddr, hl]

theorem Blk.setRow {w : World} {b : Nat} {T : TypeId} {old new : Array Value} (h : Blk w b T old) : Blk (w.setRow b new) b T new := setRow_heap w b old new T _ h
theorem Chg.setRow {S : List Nat} {a w : World} (h : Chg S a w) {b : Nat} (hb : b ∈ S ∨ a.heap.size ≤ b) (cs : Array Value) : Chg S a (w.setRow b cs) :=
  ⟨h.os, h.tape, h.output, by rw [size_setRow]; exact h.size, fun k hk hn => by
    have hne : k ≠ b := fun e => by
      subst e
      rcases hb with hb | hb
      · exact hn hb
      · omega
    exact (setRow_other w b k cs hne).trans (h.block k hk hn)⟩
end Go.Proofs.Ytapbhhehnbfdfaa

/- Operations on large arrays and structs, carried out as one step. -/
set_option linter.unusedSimpArgs false
set_option linter.unusedVariables false
set_option maxRecDepth 100000
namespace Go.Proofs.Ytapbhhehnbfdfaa
open Go.RowKit

section
variable {P : Program} {ops : Array Oper} {Q : Exit → Act → World → Prop}

theorem exec_load {o : Oper} {a : Act} {w : World} {ty : TypeId} {x : Operand} {ad : Addr} {v : Value} (ho : o.op = .load ty x) (hx : a.eval x = .pointer (some ad)) (h : (loadVar ty ad).run P w = .ok v w) :
    (execOp a.eval o).run P w = .ok (.value v) w := by
  unfold execOp
  simp only [ho, hx, Instr.loadAt, Instr.sureAddr, Sem.run_bind, Sem.run_pure, Result.andThen_ok, h]

/-- A load in a plain region. -/
theorem wpList_loadV {rest : List Oper} {o : Oper} {a : Act} {w : World} (hg : o.guard = none) (ty : TypeId) (x : Operand) (ho : o.op = .load ty x) {ad : Addr} (hx : a.eval x = .pointer (some ad)) {v : Value} (h : (loadVar ty ad).run P w = .ok v w)
    (hK : wpList P ops Q rest (a.put o.dst v) w) : wpList P ops Q (o :: rest) a w :=
  wpList_plain hg fun _ hk => by
    unfold Oper.wp
    rw [exec_load ho hx h]
    exact hk _ _ hK

/-- A store in a plain region. -/
theorem wpList_storeV {rest : List Oper} {o : Oper} {a : Act} {w w' : World} (hg : o.guard = none) (ty : TypeId) (x y : Operand) (ho : o.op = .store ty x y) {ad : Addr} (hx : a.eval x = .pointer (some ad)) {v : Value} (hy : a.eval y = v) (h : (storeVar ty ad v).run P w = .ok () w')
    (hK : wpList P ops Q rest (a.put o.dst undef) w') : wpList P ops Q (o :: rest) a w :=
  wpList_plain hg fun _ hk => by
    unfold Oper.wp execOp
    simp only [ho, hx, hy, Instr.storeAt, Instr.sureAddr, Sem.run_bind, Sem.run_pure, Result.andThen_ok, h]
    exact hk _ _ hK

/-- An operation of a plain region whose run is known. -/
theorem wpList_val {rest : List Oper} {o : Oper} {a : Act} {w w' : World} (hg : o.guard = none) {v : Value} (h : (execOp a.eval o).run P w = .ok (.value v) w')
    (hK : wpList P ops Q rest (a.put o.dst v) w') : wpList P ops Q (o :: rest) a w :=
  wpList_plain hg fun _ hk => by
    unfold Oper.wp
    rw [h]
    exact hk _ _ hK
theorem wpList_skp {rest : List Oper} {o : Oper} {a : Act} {w w' : World} (hg : o.guard = none) (h : (execOp a.eval o).run P w = .ok .skip w')
    (hK : wpList P ops Q rest (a.put o.dst undef) w') : wpList P ops Q (o :: rest) a w :=
  wpList_plain hg fun _ hk => by
    unfold Oper.wp
    rw [h]
    exact hk _ _ hK
/-- One whose run is known, at its own. -/
theorem wp_val {o : Oper} {a : Act} {w w' : World} {K : Act → World → Prop} {v : Value} (h : (execOp a.eval o).run P w = .ok (.value v) w') (hK : K (a.put o.dst v) w') : o.wp P a w K Q := by
  unfold Oper.wp
  rw [h]
  exact hK
theorem wp_skp {o : Oper} {a : Act} {w w' : World} {K : Act → World → Prop} (h : (execOp a.eval o).run P w = .ok .skip w') (hK : K (a.put o.dst undef) w') : o.wp P a w K Q := by
  unfold Oper.wp
  rw [h]
  exact hK

theorem exec_mapUpdate {o : Oper} {a : Act} {w w' : World} {T : TypeId} {m k x : Operand} (ho : o.op = .mapUpdate T m k x) {vm vk vx : Value} (hm : a.eval m = vm) (hk : a.eval k = vk) (hx : a.eval x = vx) (h : (Instr.mapUpdate T vm vk vx).run P w = .ok () w') :
    (execOp a.eval o).run P w = .ok .skip w' := by
  unfold execOp
  simp only [ho, hm, hk, hx, Sem.run_bind, h, Result.andThen_ok, Sem.run_pure]
theorem exec_lookup {o : Oper} {a : Act} {w : World} {T : TypeId} {m k : Operand} {ok : Bool} (ho : o.op = .lookup T m k ok) {vm vk v : Value} (hm : a.eval m = vm) (hk : a.eval k = vk) (h : (Instr.lookup T vm vk ok).run P w = .ok v w) :
    (execOp a.eval o).run P w = .ok (.value v) w := by
  unfold execOp
  simp only [ho, hm, hk, Sem.run_bind, h, Result.andThen_ok, Sem.run_pure]
theorem exec_alloc {o : Oper} {a : Act} {w : World} {e : TypeId} (ho : o.op = .alloc e) {z : Value} (hz : ∀ W, (zeroValue e).run P W = .ok z W) :
    (execOp a.eval o).run P w = .ok (.value (.pointer (some ⟨w.heap.size, 0, none⟩))) (w.alloc (.cells z.cells e)) := by
  unfold execOp
  simp only [ho, Instr.alloc, Sem.run_bind, hz, Result.andThen_ok]
  rfl
theorem exec_build {o : Oper} {a : Act} {w : World} {t : TypeId} {parts : Array (Nat × Operand)} (ho : o.op = .build t parts) {cells : Array Value} (h : (Instr.build t (parts.map fun (i, x) => (i, a.eval x))).run P w = .ok (.agg cells) w) :
    (execOp a.eval o).run P w = .ok (.value (.agg cells)) w := by
  unfold execOp
  simp only [ho, Sem.run_bind, h, Result.andThen_ok, Sem.run_pure]
theorem exec_buildSlice {o : Oper} {a : Act} {w w' : World} {t : TypeId} {n : Nat} {parts : Array (Nat × Operand)} (ho : o.op = .buildSlice t n parts) {v : Value} (h : (Instr.buildSlice t n (parts.map fun (i, x) => (i, a.eval x))).run P w = .ok v w') :
    (execOp a.eval o).run P w = .ok (.value v) w' := by
  unfold execOp
  simp only [ho, Sem.run_bind, h, Result.andThen_ok, Sem.run_pure]
theorem exec_buildSlice1 {o : Oper} {a : Act} {w w' : World} {t : TypeId} {n : Nat} {i : Nat} {x : Operand} (ho : o.op = .buildSlice t n #[(i, x)]) {vx v : Value} (hx : a.eval x = vx) (h : (Instr.buildSlice t n #[(i, vx)]).run P w = .ok v w') :
    (execOp a.eval o).run P w = .ok (.value v) w' := exec_buildSlice ho (by simpa [hx] using h)
theorem exec_build1 {o : Oper} {a : Act} {w : World} {t : TypeId} {i : Nat} {x : Operand} (ho : o.op = .build t #[(i, x)]) {vx : Value} {cells : Array Value} (hx : a.eval x = vx) (h : (Instr.build t #[(i, vx)]).run P w = .ok (.agg cells) w) :
    (execOp a.eval o).run P w = .ok (.value (.agg cells)) w := exec_build ho (by simpa [hx] using h)
theorem exec_build2 {o : Oper} {a : Act} {w : World} {t : TypeId} {i j : Nat} {x y : Operand} (ho : o.op = .build t #[(i, x), (j, y)]) {vx vy : Value} {cells : Array Value} (hx : a.eval x = vx) (hy : a.eval y = vy) (h : (Instr.build t #[(i, vx), (j, vy)]).run P w = .ok (.agg cells) w) :
    (execOp a.eval o).run P w = .ok (.value (.agg cells)) w := exec_build ho (by simpa [hx, hy] using h)
theorem exec_store {o : Oper} {a : Act} {w w' : World} {ty : TypeId} {x y : Operand} (ho : o.op = .store ty x y) {ad : Addr} (hx : a.eval x = .pointer (some ad)) {v : Value} (hy : a.eval y = v) (h : (storeVar ty ad v).run P w = .ok () w') :
    (execOp a.eval o).run P w = .ok .skip w' := by
  unfold execOp
  simp only [ho, hx, hy, Instr.storeAt, Instr.sureAddr, Sem.run_bind, Sem.run_pure, Result.andThen_ok, h]
end

/-- The zero value of a type, and its size. -/
theorem zero_of {P : Program} {t : TypeId} {v : Value} (h : (P.info? t).map (·.zero) = some (some v)) (w : World) : (zeroValue t).run P w = .ok v w := by
  cases hq : P.info? t with
  | none => simp [hq] at h
  | some i =>
    simp [hq] at h
    simp [zeroValue, typeInfo, hq, h]
end Go.Proofs.Ytapbhhehnbfdfaa

/- Plain mathematics of layer 4: the bytes of a key, and the tuple of bytes. -/
set_option linter.unusedSimpArgs false
set_option linter.unusedVariables false
set_option maxRecDepth 100000
namespace Go.Proofs.Ytapbhhehnbfdfaa
open Go.RowKit


/-- An integer, moved so that none is negative. -/
def up64 (n : Int) : Nat := (n + 9223372036854775808).toNat

/-- Eight bytes, the greatest first. -/
def whole8 (m : Nat) : List Nat := [m / 72057594037927936 % 256, m / 281474976710656 % 256, m / 1099511627776 % 256, m / 4294967296 % 256, m / 16777216 % 256, m / 65536 % 256, m / 256 % 256, m % 256]

/-- The number that bytes are, the greatest first. -/
def unB (l : List Nat) : Nat := l.foldl (fun n c => n * 256 + c) 0

/-- A string's bytes, each 0 marked. -/
def escL (l : List Nat) : List Nat := l.flatMap fun c => if c = 0 then [0, 255] else [c]

/-- The part of a key for a value. -/
def encK (x : Vl) : List Nat := if x.k = 0 then [16] else if x.k = 1 then 17 :: whole8 (up64 x.n) else (16 + x.k) :: (escL (bytesOf x.s) ++ [0, 1])
def keyL (l : List Vl) : List Nat := l.flatMap encK

def writeK (l : List Vl) : List Nat × Int := if rowOk l = false then ([], 3) else if 100 < (keyL l).length then ([], 2) else (keyL l, 0)

/-- The string whose marked form bytes begin with, and how many bytes that form has. -/
def unesc : List Nat → Option (List Nat × Nat)
  | [] => none
  | [_] => none
  | c :: d :: r => if c = 0 then (if d = 1 then some ([], 2) else if d = 255 then (unesc r).map (fun p => (0 :: p.1, p.2 + 2)) else none) else (unesc (d :: r)).map (fun p => (c :: p.1, p.2 + 1))

/-- The value that a key begins with, and how many bytes it has. -/
def decK : List Nat → Option (Vl × Nat)
  | [] => none
  | k :: r =>
    if k = 16 then some (⟨0, 0, ⟨#[]⟩⟩, 1)
    else if k = 17 then (if 8 ≤ r.length then some (⟨1, (unB (r.take 8) : Int) - 9223372036854775808, ⟨#[]⟩⟩, 9) else none)
    else if k = 18 ∨ k = 19 then (match unesc r with | none => none | some (s, n) => some (⟨k - 16, 0, strN s⟩, 1 + n))
    else none

/-- The tuple of a key; fuel: no less than its bytes. -/
def tupF : Nat → List Vl → List Nat → Option (List Vl)
  | 0, acc, b => if b = [] then some acc else none
  | f + 1, acc, b => if b = [] then some acc else match decK b with
    | none => none
    | some (x, n) => if acc.length = 16 then none else tupF f (acc ++ [x]) (b.drop n)

def tupK (b : List Nat) : Option (List Vl) := tupF b.length [] b

def readK (b : List Nat) : List Vl × Int := if 100 < b.length then ([], 2) else match tupK b with | none => ([], 3) | some l => (l, 0)

theorem unesc_cons {c : Nat} (h : c ≠ 0) (r : List Nat) : unesc (c :: r) = (unesc r).map (fun p => (c :: p.1, p.2 + 1)) := by
  cases r with
  | nil => rfl
  | cons d r => rw [unesc, if_neg h]

theorem unesc_zero (d : Nat) (r : List Nat) : unesc (0 :: d :: r) = if d = 1 then some ([], 2) else if d = 255 then (unesc r).map (fun p => (0 :: p.1, p.2 + 2)) else none := by
  rw [unesc, if_pos rfl]

theorem escL_cons0 (l : List Nat) : escL (0 :: l) = 0 :: 255 :: escL l := rfl
theorem escL_cons {c : Nat} (h : c ≠ 0) (l : List Nat) : escL (c :: l) = c :: escL l := by
  unfold escL; rw [List.flatMap_cons, if_neg h]; rfl

theorem unesc_esc (B : List Nat) : ∀ (l : List Nat), unesc (escL l ++ (0 :: 1 :: B)) = some (l, (escL l).length + 2)
  | [] => by rw [show escL [] = [] from rfl, List.nil_append, unesc_zero, if_pos rfl]; try rfl
  | c :: l => by
    have ih := unesc_esc B l
    by_cases h : c = 0
    · subst h
      rw [escL_cons0, List.cons_append, List.cons_append, unesc_zero, if_neg (by omega), if_pos rfl, ih]
      simp
    · rw [escL_cons h, List.cons_append, unesc_cons h, ih]
      simp

theorem esc_unesc : ∀ (n : Nat) (b : List Nat), b.length ≤ n → ∀ (s : List Nat) (m : Nat), unesc b = some (s, m) → m ≤ b.length ∧ 2 ≤ m ∧ escL s ++ [0, 1] = b.take m ∧ (∀ c ∈ s, c ∈ b)
  | 0, b, hn, s, m, h => by
    have : b = [] := List.length_eq_zero_iff.1 (by omega)
    subst this; simp [unesc] at h
  | n + 1, [], hn, s, m, h => by simp [unesc] at h
  | n + 1, c :: r, hn, s, m, h => by
    by_cases hc : c = 0
    · subst hc
      cases r with
      | nil => simp [unesc] at h
      | cons d r =>
        rw [unesc_zero] at h
        by_cases h1 : d = 1
        · rw [if_pos h1] at h
          simp only [Option.some.injEq, Prod.mk.injEq] at h
          obtain ⟨rfl, rfl⟩ := h
          subst h1
          refine ⟨by simp, by omega, ?_, by simp⟩
          simp [escL]
        · rw [if_neg h1] at h
          by_cases h2 : d = 255
          · rw [if_pos h2] at h
            subst h2
            cases hu : unesc r with
            | none => rw [hu] at h; simp at h
            | some p =>
              obtain ⟨s', m'⟩ := p
              rw [hu] at h
              simp only [Option.map_some, Option.some.injEq, Prod.mk.injEq] at h
              obtain ⟨rfl, rfl⟩ := h
              obtain ⟨i1, i2, i3, i4⟩ := esc_unesc n r (by simp at hn; omega) s' m' hu
              refine ⟨by simp; omega, by omega, ?_, ?_⟩
              · rw [escL_cons0, show m' + 2 = m' + 1 + 1 by omega, List.take_succ_cons, List.take_succ_cons, ← i3]; rfl
              · intro x hx
                rcases List.mem_cons.1 hx with rfl | hx
                · simp
                · simp [i4 x hx]
          · rw [if_neg h2] at h; cases h
    · rw [unesc_cons hc] at h
      cases hu : unesc r with
      | none => rw [hu] at h; simp at h
      | some p =>
        obtain ⟨s', m'⟩ := p
        rw [hu] at h
        simp only [Option.map_some, Option.some.injEq, Prod.mk.injEq] at h
        obtain ⟨rfl, rfl⟩ := h
        obtain ⟨i1, i2, i3, i4⟩ := esc_unesc n r (by simp at hn; omega) s' m' hu
        refine ⟨by simp; omega, by omega, ?_, ?_⟩
        · rw [escL_cons hc, List.take_succ_cons, ← i3]; rfl
        · intro x hx
          rcases List.mem_cons.1 hx with rfl | hx
          · simp
          · simp [i4 x hx]

theorem unB_whole8 (m : Nat) (h : m < 18446744073709551616) : unB (whole8 m) = m := by
  simp only [unB, whole8, List.foldl_cons, List.foldl_nil]
  omega

theorem whole8_lt (m : Nat) : ∀ c ∈ whole8 m, c < 256 := by
  intro c hc
  simp only [whole8, List.mem_cons, List.not_mem_nil, or_false] at hc
  omega

theorem whole8_unB (l : List Nat) (h8 : l.length = 8) (h : ∀ c ∈ l, c < 256) : whole8 (unB l) = l ∧ unB l < 18446744073709551616 := by
  match l, h8 with
  | [a, b, c, d, e, f, g, i], _ =>
    have ha := h a (by simp)
    have hb := h b (by simp)
    have hc := h c (by simp)
    have hd := h d (by simp)
    have he := h e (by simp)
    have hf := h f (by simp)
    have hg := h g (by simp)
    have hi := h i (by simp)
    simp only [unB, whole8, List.foldl_cons, List.foldl_nil, List.cons.injEq, and_true]
    omega

theorem encK_pos (x : Vl) : 0 < (encK x).length := by
  unfold encK; split
  · simp
  · split <;> simp

theorem encK_lt (x : Vl) (hk : x.k < 240) : ∀ c ∈ encK x, c < 256 := by
  intro c hc
  unfold encK at hc
  split at hc
  · simp at hc; omega
  · split at hc
    · rcases List.mem_cons.1 hc with rfl | hc
      · omega
      · exact whole8_lt _ c hc
    · rcases List.mem_cons.1 hc with rfl | hc
      · omega
      · rcases List.mem_append.1 hc with hc | hc
        · obtain ⟨d, hd, hc⟩ := List.mem_flatMap.1 hc
          have := bytesOf_lt _ d hd
          split at hc
          · simp at hc; omega
          · simp at hc; omega
        · simp at hc; omega

theorem decK_enc (B : List Nat) (x : Vl) (hr : x.right = true) (hf : x.fair) : decK (encK x ++ B) = some (x, (encK x).length) := by
  rcases right_kind hr with h | h | ⟨hk, h⟩
  · rw [h]; rfl
  · obtain ⟨k, n, s⟩ := x
    simp only [Vl.mk.injEq] at h
    obtain ⟨rfl, -, rfl⟩ := h
    have h1 := hf.2.1.1
    have h2 := hf.2.1.2
    simp only at h1 h2
    have hm : up64 n < 18446744073709551616 := by unfold up64; omega
    have e : encK ⟨1, n, ⟨#[]⟩⟩ = 17 :: whole8 (up64 n) := rfl
    rw [e, List.cons_append, decK, if_neg (by omega), if_pos rfl, if_pos (by simp [whole8])]
    have e8 : (whole8 (up64 n)).length = 8 := rfl
    rw [List.take_left' e8, unB_whole8 _ hm]
    simp only [List.length_cons, e8, Option.some.injEq, Prod.mk.injEq, Vl.mk.injEq, and_true, true_and]
    unfold up64; omega
  · obtain ⟨k, n, s⟩ := x
    simp only [Vl.mk.injEq] at h
    obtain ⟨-, rfl, -⟩ := h
    simp only at hk
    have e : encK ⟨k, 0, s⟩ = (16 + k) :: (escL (bytesOf s) ++ [0, 1]) := by unfold encK; rw [if_neg (by simp only; omega), if_neg (by simp only; omega)]
    rw [e, List.cons_append, decK, if_neg (by omega), if_neg (by omega), if_pos (by omega)]
    have e2 : escL (bytesOf s) ++ [0, 1] ++ B = escL (bytesOf s) ++ (0 :: 1 :: B) := by simp
    rw [e2, unesc_esc]
    simp only [strN_bytesOf, List.length_cons, List.length_append, List.length_nil, Option.some.injEq, Prod.mk.injEq, Vl.mk.injEq, and_true]
    omega

theorem bytesOf_strN (l : List Nat) (h : ∀ c ∈ l, c < 256) : bytesOf (strN l) = l := by
  unfold bytesOf strN
  simp only [List.map_map]
  conv => rhs; rw [← List.map_id l]
  apply List.map_congr_left
  intro c hc
  simp [Nat.mod_eq_of_lt (h c hc)]

theorem enc_decK (b : List Nat) (h256 : ∀ c ∈ b, c < 256) (hl : b.length < 18446744073709551616) (x : Vl) (n : Nat) (h : decK b = some (x, n)) :
    x.right = true ∧ x.fair ∧ 0 < n ∧ n ≤ b.length ∧ encK x = b.take n ∧ x.s.size ≤ b.length := by
  cases b with
  | nil => simp [decK] at h
  | cons k r =>
    rw [decK] at h
    by_cases h16 : k = 16
    · rw [if_pos h16] at h
      simp only [Option.some.injEq, Prod.mk.injEq] at h
      obtain ⟨rfl, rfl⟩ := h
      subst h16
      exact ⟨rfl, ⟨by simp, by simp, by simp [ByteArray.size]⟩, by omega, by simp, by simp [encK], by simp [ByteArray.size]⟩
    · rw [if_neg h16] at h
      by_cases h17 : k = 17
      · rw [if_pos h17] at h
        by_cases h8 : 8 ≤ r.length
        · rw [if_pos h8] at h
          simp only [Option.some.injEq, Prod.mk.injEq] at h
          obtain ⟨rfl, rfl⟩ := h
          obtain ⟨w1, w2⟩ := whole8_unB (r.take 8) (by rw [List.length_take]; omega) (fun c hc => h256 c (by simp [List.mem_of_mem_take hc]))
          refine ⟨rfl, ⟨by simp, ⟨by simp only; omega, by simp only; omega⟩, by simp [ByteArray.size]⟩, by omega, by simp; omega, ?_, by simp [ByteArray.size]⟩
          unfold encK
          rw [if_neg (by simp), if_pos rfl, List.take_succ_cons, h17]
          have : up64 ((unB (r.take 8) : Int) - 9223372036854775808) = unB (r.take 8) := by unfold up64; omega
          rw [this, w1]
        · rw [if_neg h8] at h; cases h
      · rw [if_neg h17] at h
        by_cases h18 : k = 18 ∨ k = 19
        · rw [if_pos h18] at h
          cases hu : unesc r with
          | none => rw [hu] at h; cases h
          | some p =>
            obtain ⟨s, m⟩ := p
            rw [hu] at h
            simp only [Option.some.injEq, Prod.mk.injEq] at h
            obtain ⟨rfl, rfl⟩ := h
            obtain ⟨i1, i2, i3, i4⟩ := esc_unesc r.length r (Nat.le_refl _) s m hu
            have hs256 : ∀ c ∈ s, c < 256 := fun c hc => h256 c (by simp [i4 c hc])
            have hsl : s.length ≤ r.length := by
              have e := congrArg List.length i3
              rw [List.length_append, List.length_take] at e
              have hesc : s.length ≤ (escL s).length := by
                clear e i3 i4 hu hs256
                induction s with
                | nil => simp
                | cons c s ih =>
                  by_cases hc : c = 0
                  · subst hc; rw [escL_cons0]; simp; omega
                  · rw [escL_cons hc]; simp; omega
              simp only [List.length_cons, List.length_nil] at e
              omega
            refine ⟨?_, ⟨by simp only; omega, by simp, by rw [strN_size]; simp at hl; omega⟩, by omega, by simp; omega, ?_, by rw [strN_size]; simp; omega⟩
            · unfold Vl.right
              rw [if_neg (by simp only; omega), if_neg (by simp only; omega), if_pos (by simp only; omega)]; rfl
            · have e0 : ¬ (k - 16 = 0) := by omega
              have e1 : ¬ (k - 16 = 1) := by omega
              unfold encK
              simp only [if_neg e0, if_neg e1]
              rw [bytesOf_strN s hs256, show 1 + m = m + 1 by omega, List.take_succ_cons, i3]
              congr 1; omega
        · rw [if_neg h18] at h; cases h

theorem keyL_cons (x : Vl) (l : List Vl) : keyL (x :: l) = encK x ++ keyL l := rfl
theorem keyL_snoc (l : List Vl) (x : Vl) : keyL (l ++ [x]) = keyL l ++ encK x := by simp [keyL]
theorem keyL_take (l : List Vl) (i : Nat) (h : i < l.length) : keyL (l.take (i + 1)) = keyL (l.take i) ++ encK l[i] := by
  rw [List.take_succ_eq_append_getElem h, keyL_snoc]

theorem tup_enc : ∀ (l : List Vl) (acc : List Vl) (f : Nat), (∀ x ∈ l, x.right = true) → (∀ x ∈ l, x.fair) → acc.length + l.length ≤ 16 → (keyL l).length ≤ f → tupF f acc (keyL l) = some (acc ++ l)
  | [], acc, f, _, _, _, _ => by
    cases f with
    | zero => simp [tupF, keyL]
    | succ f => simp [tupF, keyL]
  | x :: l, acc, f, hr, hf, h16, hlen => by
    have hp := encK_pos x
    rw [keyL_cons] at hlen ⊢
    rw [List.length_append] at hlen
    have hne : encK x ++ keyL l ≠ [] := by intro h; have := congrArg List.length h; rw [List.length_append] at this; simp only [List.length_nil] at this; omega
    cases f with
    | zero => omega
    | succ f =>
      rw [tupF, if_neg hne, decK_enc (keyL l) x (hr x (by simp)) (hf x (by simp))]
      simp only []
      rw [if_neg (by simp at h16; omega), List.drop_left]
      rw [tup_enc l (acc ++ [x]) f (fun y hy => hr y (by simp [hy])) (fun y hy => hf y (by simp [hy])) (by simp at h16 ⊢; omega) (by omega)]
      simp

theorem enc_tup : ∀ (f : Nat) (acc : List Vl) (b : List Nat), (∀ c ∈ b, c < 256) → b.length ≤ f → b.length < 18446744073709551616 → acc.length ≤ 16 → ∀ L, tupF f acc b = some L →
    ∃ M, L = acc ++ M ∧ keyL M = b ∧ (∀ x ∈ M, x.right = true) ∧ (∀ x ∈ M, x.fair) ∧ L.length ≤ 16 ∧ (∀ x ∈ M, x.s.size ≤ b.length)
  | 0, acc, b, _, _, _, ha, L, h => by
    rw [tupF] at h
    by_cases hb : b = []
    · rw [if_pos hb] at h
      simp only [Option.some.injEq] at h
      subst h hb
      exact ⟨[], by simp, rfl, by simp, by simp, ha, by simp⟩
    · rw [if_neg hb] at h; cases h
  | f + 1, acc, b, h256, hlen, hl, ha, L, h => by
    rw [tupF] at h
    by_cases hb : b = []
    · rw [if_pos hb] at h
      simp only [Option.some.injEq] at h
      subst h hb
      exact ⟨[], by simp, rfl, by simp, by simp, ha, by simp⟩
    · rw [if_neg hb] at h
      cases hd : decK b with
      | none => rw [hd] at h; cases h
      | some p =>
        obtain ⟨x, n⟩ := p
        rw [hd] at h
        simp only [] at h
        by_cases h16 : acc.length = 16
        · rw [if_pos h16] at h; cases h
        · rw [if_neg h16] at h
          obtain ⟨d1, d2, d3, d4, d5, d6⟩ := enc_decK b h256 hl x n hd
          obtain ⟨M, e1, e2, e3, e4, e5, e6⟩ := enc_tup f (acc ++ [x]) (b.drop n) (fun c hc => h256 c (List.mem_of_mem_drop hc)) (by rw [List.length_drop]; omega) (by rw [List.length_drop]; omega) (by simp; omega) L h
          refine ⟨x :: M, by simp [e1], by rw [keyL_cons, e2, d5, List.take_append_drop], ?_, ?_, e5, ?_⟩
          · intro y hy; rcases List.mem_cons.1 hy with rfl | hy
            · exact d1
            · exact e3 y hy
          · intro y hy; rcases List.mem_cons.1 hy with rfl | hy
            · exact d2
            · exact e4 y hy
          · intro y hy; rcases List.mem_cons.1 hy with rfl | hy
            · exact d6
            · have := e6 y hy; rw [List.length_drop] at this; omega
end Go.Proofs.Ytapbhhehnbfdfaa

/- Slices of values of SQL: what came in, and rows of the call's own. -/
set_option linter.unusedSimpArgs false
set_option linter.unusedVariables false
set_option maxRecDepth 100000
namespace Go.Proofs.Ytapbhhehnbfdfaa
open Go.RowKit

/-- The address leads to the values l, in blocks below number N. -/
def Vs (N : Nat) (w : World) (a : Option Addr) (l : List Vl) : Prop :=
  l = [] ∨ ∃ b o, a = some ⟨b, o, none⟩ ∧ b < N ∧ ∀ (i : Nat) (x : Vl), l[i]? = some x →
    w.cell? ⟨b, o + i * 3, none⟩ = some (.int .u8 x.k) ∧ w.cell? ⟨b, o + i * 3 + 1, none⟩ = some (.int .i64 x.n) ∧ w.cell? ⟨b, o + i * 3 + 2, none⟩ = some (.string x.s)

theorem Vs.below {N : Nat} {w w' : World} {a : Option Addr} {l : List Vl} (h : Vs N w a l) (hb : Below N w w') : Vs N w' a l := by
  rcases h with h | ⟨b, o, ha, hN, hc⟩
  · exact .inl h
  · exact .inr ⟨b, o, ha, hN, fun i x hi => ⟨(hb.cell (p := ⟨b, _, none⟩) hN).trans (hc i x hi).1, (hb.cell (p := ⟨b, _, none⟩) hN).trans (hc i x hi).2.1, (hb.cell (p := ⟨b, _, none⟩) hN).trans (hc i x hi).2.2⟩⟩

theorem Vs.mono {N M : Nat} {w : World} {a : Option Addr} {l : List Vl} (h : Vs N w a l) (hM : N ≤ M) : Vs M w a l := by
  rcases h with h | ⟨b, o, ha, hN, hc⟩
  · exact .inl h
  · exact .inr ⟨b, o, ha, by omega, hc⟩

/-- The k-th value of such a slice, in a world. -/
def CellV (w : World) (b o : Nat) (x : Vl) : Prop :=
  w.cell? ⟨b, o, none⟩ = some (.int .u8 x.k) ∧ w.cell? ⟨b, o + 1, none⟩ = some (.int .i64 x.n) ∧ w.cell? ⟨b, o + 2, none⟩ = some (.string x.s)

theorem Vs.at_ {N : Nat} {w : World} {a : Option Addr} {l : List Vl} (h : Vs N w a l) {k : Nat} (hk : k < l.length) : ∃ b o, a = some ⟨b, o, none⟩ ∧ b < N ∧ CellV w b (o + k * 3) l[k] := by
  rcases h with h | ⟨b, o, ha, hN, hc⟩
  · subst h; simp at hk
  · exact ⟨b, o, ha, hN, hc k l[k] (List.getElem?_eq_getElem hk)⟩

theorem CellV.below {w w' : World} {b o N : Nat} {x : Vl} (h : CellV w b o x) (hb : Below N w w') (hN : b < N) : CellV w' b o x :=
  ⟨(hb.cell (p := ⟨b, _, none⟩) hN).trans h.1, (hb.cell (p := ⟨b, _, none⟩) hN).trans h.2.1, (hb.cell (p := ⟨b, _, none⟩) hN).trans h.2.2⟩

/-- The cells of values. -/
def cellsV (l : List Vl) : List Value := l.flatMap fun x => [.int .u8 x.k, .int .i64 x.n, .string x.s]

theorem cellsV_len (l : List Vl) : (cellsV l).length = l.length * 3 := by
  induction l with
  | nil => rfl
  | cons x r ih => simp only [cellsV, List.flatMap_cons, List.length_append, List.length_cons, List.length_nil] at *; omega

theorem cellsV_get : ∀ (l : List Vl) (i : Nat) (x : Vl), l[i]? = some x → (cellsV l)[i * 3]? = some (.int .u8 x.k) ∧ (cellsV l)[i * 3 + 1]? = some (.int .i64 x.n) ∧ (cellsV l)[i * 3 + 2]? = some (.string x.s)
  | [], i, x, h => by simp at h
  | y :: r, 0, x, h => by
    simp at h; subst h
    simp [cellsV]
  | y :: r, i + 1, x, h => by
    have := cellsV_get r i x (by simpa using h)
    have e : ∀ j, (cellsV (y :: r))[(i + 1) * 3 + j]? = (cellsV r)[i * 3 + j]? := by
      intro j
      show ([Value.int .u8 y.k, Value.int .i64 y.n, Value.string y.s] ++ cellsV r)[(i + 1) * 3 + j]? = _
      rw [List.getElem?_append_right (by simp; omega)]
      congr 1
      simp; omega
    exact ⟨(e 0).trans this.1, (e 1).trans this.2.1, (e 2).trans this.2.2⟩

/-- A row of values of the call's own. -/
def OwnV (w : World) (base : Nat) (T : TypeId) (v : Value) (l : List Vl) : Prop := w.ownsRow base T 3 v l.length (cellsV l)

theorem OwnV.nil (w : World) (base : Nat) (T : TypeId) : OwnV w base T (.slice none 0 0) [] := World.ownsRow_nil _ _ _ _

theorem OwnV.slice {w : World} {base : Nat} {T : TypeId} {v : Value} {l : List Vl} (h : OwnV w base T v l) : ∃ a cap, v = .slice a l.length cap ∧ l.length ≤ cap ∧ Vs w.heap.size w a l := by
  obtain ⟨h1, h2⟩ := h
  rcases h2 with ⟨hv, hn⟩ | ⟨g, cap, cur, hv, hg, hh, hnc, hcm, hcs, hcur⟩
  · have : l = [] := List.length_eq_zero_iff.1 hn
    subst this
    exact ⟨none, 0, by simpa using hv, by simp, .inl rfl⟩
  · refine ⟨some ⟨g, 0, none⟩, cap, hv, hnc, .inr ⟨g, 0, rfl, ?_, ?_⟩⟩
    · by_cases hlt : g < w.heap.size
      · exact hlt
      · rw [Array.getElem?_eq_none (by omega)] at hh; simp at hh
    · intro i x hi
      have hil : i < l.length := by
        by_cases hlt : i < l.length
        · exact hlt
        · rw [List.getElem?_eq_none (by omega)] at hi; simp at hi
      have key : ∀ j u, j < l.length * 3 → (cellsV l)[j]? = some u → w.cell? ⟨g, 0 + j, none⟩ = some u := by
        intro j u hj hu
        rw [← hcur, List.getElem?_take_of_lt (by omega)] at hu
        simp only [World.cell?, hh, Nat.zero_add]
        simpa using hu
      have hx := cellsV_get l i x hi
      refine ⟨?_, ?_, ?_⟩
      · exact key _ _ (by omega) hx.1
      · have := key _ _ (by omega) hx.2.1; rw [← Nat.add_assoc] at this; exact this
      · have := key _ _ (by omega) hx.2.2; rw [← Nat.add_assoc] at this; exact this

theorem OwnV.below {w w' : World} {base N : Nat} {T : TypeId} {v : Value} {l : List Vl} (h : OwnV w base T v l) (hN : w.heap.size ≤ N) (hb : Below N w w') : OwnV w' base T v l := by
  obtain ⟨h1, h2⟩ := h
  refine ⟨h1, ?_⟩
  rcases h2 with h2 | ⟨g, cap, cur, hv, hg, hh, r⟩
  · exact .inl h2
  · refine .inr ⟨g, cap, cur, hv, hg, ?_, r⟩
    rw [hb.block g (by
      by_cases hlt : g < w.heap.size
      · omega
      · rw [Array.getElem?_eq_none (by omega)] at hh; simp at hh)]
    exact hh

/-- 'append(l, x)': x has just been laid in a block of its own. -/
theorem wpList_appV1 {P : Program} {ops : Array Oper} {rest : List Oper} {o : Oper} {a : Act} {Q : Exit → Act → World → Prop} (hgd : o.guard = none) (s x : Operand) (t : TypeId)
    (ho : o.op = .call { callee := .builtin .append, args := #[s, x], argTypes := #[t, t] })
    (base : Nat) (e : TypeId) (i : TypeInfo) (z : Value) (bytes : Nat) (ht : P.underlying t = some (.slice e)) (hi : P.info? e = some i) (hz : i.zero = some z) (hzs : z.cells.size = 3)
    (hsize : i.size = 3) (hby : i.bytes = bytes) (hb100 : bytes ≤ 100)
    (v : Value) (l : List Vl) (w : World) (hown : OwnV w base e v l) (hs : a.eval s = v) (k n : Int) (t1 : ByteArray) (y : Vl) (hk : k = (y.k : Int)) (hn : n = y.n) (ht1 : t1 = y.s)
    (hx : a.eval x = .slice (some ⟨w.heap.size, 0, none⟩) 1 1) (hlen : l.length < 1000000000000) (hbase : base ≤ w.heap.size)
    (h : ∀ v' w', OwnV w' base e v' (l ++ [y]) → Below base w w' → w.heap.size < w'.heap.size → wpList P ops Q rest (a.put o.dst v') w') :
    wpList P ops Q (o :: rest) a (w.alloc (.cells #[.int .u8 k, .int .i64 n, .string t1] e)) := by
  subst hk hn ht1
  refine wpList_append_own (w.alloc (.cells #[.int .u8 (y.k : Int), .int .i64 y.n, .string y.s] e)) hgd s x t ho base e i z 3 bytes ht hi hz hsize hby hzs (by omega) v l.length _ hs (World.ownsRow.alloc hown _) ⟨w.heap.size, 0, none⟩ 1 1 [.int .u8 (y.k : Int), .int .i64 y.n, .string y.s] hx rfl ?_ ?_ ?_ ?_ ?_ ?_
  · intro j u hj
    match j, hj with
    | 0, hj => simp at hj; subst hj; simp [Addr.add]
    | 1, hj => simp at hj; subst hj; simp [Addr.add]
    | 2, hj => simp at hj; subst hj; simp [Addr.add]
  · intro u hu; simp at hu; rcases hu with rfl | rfl | rfl <;> rfl
  · unfold maxLen; omega
  · have : (l.length + 1) * bytes ≤ 1000000000000 * 100 := Nat.mul_le_mul (by omega) hb100
    omega
  · simp; omega
  · intro v' w' hown' hgrow _
    refine h v' w' ?_ ?_ ?_
    · unfold OwnV
      have e2 : cellsV (l ++ [y]) = cellsV l ++ [.int .u8 (y.k : Int), .int .i64 y.n, .string y.s] := by simp [cellsV]
      rw [e2]
      simpa using hown'
    · exact ((Below.refl base w).alloc hbase _).grown hgrow (by simp; omega) (fun j hj => (World.ownsRow.lt hown j hj).1)
    · have := hgrow.size; simp at this; omega

/-- A row of one byte that has just been made. -/
theorem OwnB.new (w : World) (base : Nat) (T : TypeId) (c : Nat) (n : Int) (g : Nat) (hn : n = (c : Int)) (hc : c < 256) (hb : base ≤ w.heap.size) (hg : g = w.heap.size) : OwnB (w.alloc (.cells #[.int .u8 n] T)) base T (.slice (some ⟨g, 0, none⟩) 1 1) [c] := by
  subst hn hg
  refine ⟨by simpa using hc, by simp, .inr ⟨w.heap.size, 1, #[.int .u8 (c : Int)], by simp, hb, heap_alloc_new _ _, by simp, by unfold maxLen; omega, by simp, by simp⟩⟩

/-- A call hands back bytes and an error. -/
def RetBE (w : World) (r : List Nat × Int) (e : Ending) (w' : World) : Prop :=
  ∃ a cap, e = .returned (.tuple #[.slice a r.1.length cap, .int .i64 r.2]) ∧ r.1.length ≤ cap ∧ Bs w'.heap.size w' a r.1 ∧ Below w.heap.size w w'

/-- A call hands back values and an error. -/
def RetVE (w : World) (r : List Vl × Int) (e : Ending) (w' : World) : Prop :=
  ∃ a cap, e = .returned (.tuple #[.slice a r.1.length cap, .int .i64 r.2]) ∧ r.1.length ≤ cap ∧ Vs w'.heap.size w' a r.1 ∧ Below w.heap.size w w'
end Go.Proofs.Ytapbhhehnbfdfaa
