/- Several texts of one proof, one behind the other. -/
import Derived.Test.YtapbhhehnbfdfaaWPk25
import Derived.ChangeKeysEq
import Derived.MapKept
set_option linter.unusedSimpArgs false
set_option linter.unusedVariables false

/- Maps whose keys and elements are arrays of integers. -/
set_option linter.unusedSimpArgs false
set_option linter.unusedVariables false
set_option maxRecDepth 100000
namespace Go.Proofs.Ytapbhhehnbfdfaa
open Go.RowKit

/-- An array of integers of kind k, by value. -/
def arrN (k : IntKind) (l : List Nat) : Value := .agg (l.map fun (c : Nat) => Value.int k (c : Int)).toArray

theorem run_part_arr {P : Program} {e : TypeId} {k : IntKind} (he : P.underlying e = some (.int k)) (l : List Nat) (i : Nat) (x : Nat) (hi : l[i]? = some x) (w : World) :
    (part e (l.map fun (c : Nat) => Value.int k (c : Int)).toArray i).run P w = .ok (.int k (x : Int)) w := by
  simp [part, isAgg, run_underlying he, hi]

theorem run_eqItems_arr {P : Program} {e : TypeId} {k : IntKind} (he : P.underlying e = some (.int k)) (hc : P.cellsOf e = 1) (d : Nat) (w : World) :
    ∀ (xs ys px py : List Nat), xs.length = ys.length → px.length = py.length →
    (Op.eqItems (d + 1) e (P.cellsOf e) ((px ++ xs).map fun (c : Nat) => Value.int k (c : Int)).toArray ((py ++ ys).map fun (c : Nat) => Value.int k (c : Int)).toArray (List.range' px.length xs.length)).run P w = .ok (xs == ys) w
  | [], [], _, _, _, _ => by simp [Op.eqItems]
  | [], y :: ys, _, _, h, _ => by simp at h
  | x :: xs, [], _, _, h, _ => by simp at h
  | x :: xs, y :: ys, px, py, h, hp => by
    have ih := run_eqItems_arr he hc d w xs ys (px ++ [x]) (py ++ [y]) (by simpa using h) (by simp [hp])
    rw [List.append_assoc, List.append_assoc, List.singleton_append, List.singleton_append, List.length_append, List.length_singleton] at ih
    rw [List.length_cons, List.range'_succ]
    have p1 := run_part_arr he (px ++ x :: xs) px.length x (by simp) w
    have p2 := run_part_arr he (py ++ y :: ys) px.length y (by rw [hp]; simp) w
    have p3 := run_equalIn_int (P := P) w d e k k (x : Int) (y : Int) he
    simp only [Op.eqItems, hc, Nat.mul_one, Sem.run_bind, p1, p2, p3, Result.andThen_ok]
    rw [hc] at ih
    by_cases hxy : x = y
    · subst hxy
      simp only [beq_self_eq_true, Bool.not_true, Bool.false_eq_true, if_false]
      rw [ih]
      simp
    · have e1 : ((x : Int) == (y : Int)) = false := by simp; omega
      have e2 : (x :: xs == y :: ys) = false := by simp [hxy]
      rw [e1, e2]
      simp

/-- Two arrays are the same. -/
theorem run_equalIn_arrN {P : Program} {t e : TypeId} {k : IntKind} {n : Nat} (ht : P.underlying t = some (.array n e)) (he : P.underlying e = some (.int k)) (hc : P.cellsOf e = 1)
    (d : Nat) (xs ys : List Nat) (hx : xs.length = n) (hy : ys.length = n) (w : World) : (Op.equalIn (d + 2) t (arrN k xs) (arrN k ys)).run P w = .ok (xs == ys) w := by
  obtain ⟨i, hi⟩ := info_of_underlying he
  unfold arrN
  rw [run_equalIn_array w (d + 1) _ _ ht hi, List.range_eq_range']
  have := run_eqItems_arr he hc d w xs ys [] [] (by omega) rfl
  simpa [hx] using this

theorem run_equal_arrN {P : Program} {t e : TypeId} {k : IntKind} {n : Nat} (ht : P.underlying t = some (.array n e)) (he : P.underlying e = some (.int k)) (hc : P.cellsOf e = 1)
    (xs ys : List Nat) (hx : xs.length = n) (hy : ys.length = n) (w : World) : (Op.equal t (arrN k xs) (arrN k ys)).run P w = .ok (xs == ys) w :=
  run_equalIn_arrN ht he hc 9998 xs ys hx hy w

/-- What an association list has at a key. -/
def alGet : List (List Nat × List Nat) → List Nat → Option (List Nat)
  | [], _ => none
  | p :: r, x => if p.1 == x then some p.2 else alGet r x
/-- The list with v at key x. -/
def alPut : List (List Nat × List Nat) → List Nat → List Nat → List (List Nat × List Nat)
  | [], x, v => [(x, v)]
  | p :: r, x, v => if p.1 == x then (x, v) :: r else p :: alPut r x v
theorem alGet_put : ∀ (l : List (List Nat × List Nat)) (x v y : List Nat), alGet (alPut l x v) y = if x == y then some v else alGet l y
  | [], x, v, y => by simp [alGet, alPut]
  | p :: r, x, v, y => by
    unfold alPut
    by_cases h : p.1 == x
    · rw [if_pos h]
      simp only [alGet]
      by_cases h2 : x == y
      · simp [h2]
      · have h3 : (p.1 == y) = false := by
          rw [eq_of_beq h]
          simpa using h2
        simp [h2, h3]
    · rw [if_neg h]
      simp only [alGet, alGet_put r x v y]
      by_cases h2 : p.1 == y
      · have h3 : (x == y) = false := by
          rw [← eq_of_beq h2]
          simp only [beq_eq_false_iff_ne, ne_eq]
          intro e
          subst e
          simp at h
        simp [h2, h3]
      · simp [h2]
/-- Where the key is. -/
def alFind : List (List Nat × List Nat) → List Nat → Nat → Option (Nat × List Nat)
  | [], _, _ => none
  | p :: r, x, i => if p.1 == x then some (i, p.2) else alFind r x (i + 1)
theorem alFind_get : ∀ (l : List (List Nat × List Nat)) (x : List Nat) (i : Nat), (alFind l x i).map (·.2) = alGet l x
  | [], _, _ => rfl
  | p :: r, x, i => by
    unfold alFind alGet
    split
    · rfl
    · exact alFind_get r x (i + 1)

/-- The entries of a map of arrays. -/
def EntsA (k kv : IntKind) (n : Nat) (es : List MapEntry) (al : List (List Nat × List Nat)) : Prop :=
  es.map (fun e => (e.key, e.val)) = al.map (fun p => (arrN k p.1, arrN kv p.2)) ∧ ∀ p ∈ al, p.1.length = n

theorem run_findAsking_arr {P : Program} {t e : TypeId} {k kv : IntKind} {n : Nat} (ht : P.underlying t = some (.array n e)) (he : P.underlying e = some (.int k)) (hc : P.cellsOf e = 1) (x : List Nat) (hx : x.length = n) (w : World) :
    ∀ (es : List MapEntry) (al : List (List Nat × List Nat)) (i : Nat), EntsA k kv n es al → (Instr.findAsking t (arrN k x) es i).run P w = .ok ((alFind al x i).map fun p => (p.1, arrN kv p.2)) w
  | [], [], _, _ => by simp [Instr.findAsking, alFind]
  | [], p :: al, _, h => by simp [EntsA] at h
  | m :: es, [], _, h => by simp [EntsA] at h
  | m :: es, p :: al, i, h => by
    obtain ⟨h1, h2⟩ := h
    simp only [List.map_cons, List.cons.injEq, Prod.mk.injEq] at h1
    have ih := run_findAsking_arr ht he hc x hx w es al (i + 1) ⟨h1.2, fun q hq => h2 q (by simp [hq])⟩
    have heq := run_equal_arrN ht he hc x p.1 hx (h2 p (by simp)) w
    unfold Instr.findAsking alFind
    simp only [Sem.run_bind, h1.1.1, heq, Result.andThen_ok]
    by_cases hxp : p.1 == x
    · have e1 := eq_of_beq hxp
      have : (x == p.1) = true := by rw [e1]; simp
      rw [if_pos hxp, this]
      simp [h1.1.2]
    · have : (x == p.1) = false := by
        simp only [beq_eq_false_iff_ne, ne_eq]
        intro e2
        subst e2
        simp at hxp
      rw [if_neg hxp, this]
      simpa using ih

theorem run_findKey_arr {P : Program} {t e : TypeId} {k kv : IntKind} {n : Nat} (ht : P.underlying t = some (.array n e)) (he : P.underlying e = some (.int k)) (hc : P.cellsOf e = 1) (x : List Nat) (hx : x.length = n) (w : World)
    (es : List MapEntry) (al : List (List Nat × List Nat)) (h : EntsA k kv n es al) : (Instr.findKey t (arrN k x) es).run P w = .ok ((alFind al x 0).map fun p => (p.1, arrN kv p.2)) w := by
  have hA := run_findAsking_arr ht he hc x hx w es al 0 h
  unfold Instr.findKey
  simp only [Sem.run_bind, run_underlying ht, Result.andThen_ok]
  cases es with
  | nil =>
    simp only [Instr.findNow]
    cases al with
    | nil => simp [alFind]
    | cons p al => simp [EntsA] at h
  | cons m es => simpa [Instr.findNow, Instr.sameNow] using hA

theorem run_checkKey_arr {P : Program} {t e : TypeId} {k : IntKind} {n : Nat} (ht : P.underlying t = some (.array n e)) (he : P.underlying e = some (.int k)) (hc : P.cellsOf e = 1) (x : List Nat) (hx : x.length = n) (w : World) (em : Bool) :
    (Instr.checkKey em 10000 t (arrN k x)).run P w = .ok () w := by
  obtain ⟨i, hi⟩ := info_of_underlying he
  unfold Instr.checkKey
  simp only [Sem.run_bind, run_underlying ht, Result.andThen_ok, arrN]
  simp only [Std.Legacy.Range.forIn_eq_forIn_range', Std.Legacy.Range.size, Nat.sub_zero, Nat.add_one_sub_one, Nat.div_one]
  have key : ∀ (is : List Nat), (∀ j ∈ is, j < n) → (forIn is PUnit.unit fun i (_ : PUnit) => do
      let n ← Go.sizeOf e
      let v ← part e (x.map fun (c : Nat) => Value.int k (c : Int)).toArray (i * n)
      Instr.checkKey em 9999 e v
      pure (ForInStep.yield PUnit.unit) : Sem PUnit).run P w = .ok PUnit.unit w := by
    intro is
    induction is with
    | nil => intro _; simp
    | cons j is ih =>
      intro hj
      have hjn : j < x.length := by have := hj j (by simp); omega
      simp only [List.forIn_cons, Sem.run_bind, run_sizeOf w hi, Result.andThen_ok, hc, Nat.mul_one]
      rw [run_part_arr he x j x[j] (List.getElem?_eq_getElem hjn)]
      simp only [Result.andThen_ok]
      rw [Go.MapKept.run_checkKey (d := .int k) he (k := .int k (x[j] : Int)) (by simp [Go.MapKept.IsKey]) em 9998]
      simp only [Result.andThen_ok, Sem.run_pure]
      exact ih (fun i hi => hj i (by simp [hi]))
  have := key (List.range' 0 n) (fun j hj => by simp [List.mem_range'] at hj; omega)
  simp only [bind_pure_comp] at this
  simp only [bind_pure_comp]
  rw [this]
  rfl

/-- Block g is a map of arrays: at key x it has g x. -/
def MapA (k kv : IntKind) (n : Nat) (w : World) (b : Nat) (g : List Nat → Option (List Nat)) : Prop :=
  ∃ (es : Array MapEntry) (clk : Nat) (al : List (List Nat × List Nat)), MapB w b es clk ∧ EntsA k kv n es.toList al ∧ ∀ x, alGet al x = g x

theorem MapA.chg {k kv : IntKind} {n : Nat} {w w' : World} {b : Nat} {g : List Nat → Option (List Nat)} {S : List Nat} (h : MapA k kv n w b g) (hc : Chg S w w') (hn : b ∉ S) : MapA k kv n w' b g := by
  obtain ⟨es, clk, al, h1, h2⟩ := h
  exact ⟨es, clk, al, h1.chg hc hn, h2⟩
theorem MapA.lt {k kv : IntKind} {n : Nat} {w : World} {b : Nat} {g : List Nat → Option (List Nat)} (h : MapA k kv n w b g) : b < w.heap.size := by
  obtain ⟨es, clk, al, h1, h2⟩ := h
  exact h1.lt
theorem MapA.setCell {k kv : IntKind} {n : Nat} {w : World} {b : Nat} {g : List Nat → Option (List Nat)} (h : MapA k kv n w b g) (c o : Nat) (u : Value) : MapA k kv n (w.setCell ⟨c, o, none⟩ u) b g := by
  obtain ⟨es, clk, al, h1, h2⟩ := h
  exact ⟨es, clk, al, h1.setCell u, h2⟩
theorem MapA.alloc {k kv : IntKind} {n : Nat} {w : World} {b : Nat} {g : List Nat → Option (List Nat)} (h : MapA k kv n w b g) (o : Obj) : MapA k kv n (w.alloc o) b g :=
  h.chg (S := []) ((Chg.refl _ _).alloc o) (by simp)
theorem MapA.drew {k kv : IntKind} {n : Nat} {w : World} {b : Nat} {g : List Nat → Option (List Nat)} (h : MapA k kv n w b g) : MapA k kv n w.drew b g := h
theorem MapA.ne_blk {k kv : IntKind} {n : Nat} {w : World} {b g' : Nat} {g : List Nat → Option (List Nat)} {t : TypeId} {cs : Array Value} (h : MapA k kv n w b g) (h' : Blk w g' t cs) : b ≠ g' := by
  obtain ⟨es, clk, al, h1, h2⟩ := h
  exact h1.ne_blk h'
theorem MapA.new (k kv : IntKind) (n : Nat) (w : World) : MapA k kv n (w.alloc (.map #[] 0)) w.heap.size fun _ => none :=
  ⟨#[], 0, [], heap_alloc_new w _, ⟨rfl, by simp⟩, fun _ => rfl⟩

/-- 'm[x]'. -/
theorem MapA.lookup {P : Program} {k kv : IntKind} {n : Nat} {w : World} {b : Nat} {g : List Nat → Option (List Nat)} (h : MapA k kv n w b g) {T t te e : TypeId} {z : Value} (hT : P.underlying T = some (.map t te)) (ht : P.underlying t = some (.array n e)) (he : P.underlying e = some (.int k)) (hc : P.cellsOf e = 1)
    (hz : ∀ W, (zeroValue te).run P W = .ok z W) (x : List Nat) (hx : x.length = n) : (Instr.lookup T (.map (some b)) (arrN k x) false).run P w = .ok (((g x).map (arrN kv)).getD z) w := by
  obtain ⟨es, clk, al, h1, h2, h3⟩ := h
  unfold Instr.lookup
  simp only [Sem.run_bind, run_underlying hT, Result.andThen_ok, Go.MapKept.run_getObj_map h1, Sem.run_pure, run_checkKey_arr ht he hc x hx, run_findKey_arr ht he hc x hx w _ al h2]
  rw [← h3 x, ← alFind_get al x 0]
  cases alFind al x 0 with
  | none => simp [hz]
  | some p => simp

theorem sameBits_arr (m : Nat) (k : IntKind) : ∀ x : List Nat, Instr.sameBits (m + 2) (arrN k x) (arrN k x) = true := by
  intro x
  unfold arrN Instr.sameBits
  simp only [beq_self_eq_true, Bool.true_and]
  rw [List.all_eq_true]
  intro p hp
  have : p.1 = p.2 ∧ ∃ c : Nat, p.1 = .int k (c : Int) := by
    have h1 : p ∈ (x.map fun (c : Nat) => Value.int k (c : Int)).zip (x.map fun (c : Nat) => Value.int k (c : Int)) := by simpa using hp
    rw [List.mem_iff_getElem] at h1
    obtain ⟨i, hi, rfl⟩ := h1
    exact ⟨by simp, x[i]'(by simpa using hi), by simp⟩
  obtain ⟨e1, c, e2⟩ := this
  rw [← e1, e2]
  simp [Instr.sameBits]

/-- 'm[x] = v'. -/
theorem MapA.update {P : Program} {k kv : IntKind} {n : Nat} {w : World} {b : Nat} {g : List Nat → Option (List Nat)} (h : MapA k kv n w b g) {T t te e : TypeId} (hT : P.underlying T = some (.map t te)) (ht : P.underlying t = some (.array n e)) (he : P.underlying e = some (.int k)) (hc : P.cellsOf e = 1)
    (x v : List Nat) (hx : x.length = n) : ∃ o, (Instr.mapUpdate T (.map (some b)) (arrN k x) (arrN kv v)).run P w = .ok () (putObj w b o) ∧ ∀ w', w'.heap[b]? = some o → MapA k kv n w' b fun y => if x == y then some v else g y := by
  obtain ⟨es, clk, al, h1, h2, h3⟩ := h
  have hfin : ∀ (es' : Array MapEntry) (clk' : Nat), EntsA k kv n es'.toList (alPut al x v) → ∀ w' : World, w'.heap[b]? = some (.map es' clk') → MapA k kv n w' b fun y => if x == y then some v else g y := by
    intro es' clk' he' w' hw'
    refine ⟨es', clk', _, hw', he', fun y => ?_⟩
    rw [alGet_put, h3]
  unfold Instr.mapUpdate
  simp only [Sem.run_bind, run_underlying hT, Result.andThen_ok, Go.MapKept.run_getObj_map h1, Sem.run_pure, run_checkKey_arr ht he hc x hx, run_findKey_arr ht he hc x hx w _ al h2]
  have hf : ∀ (es : List MapEntry) (al : List (List Nat × List Nat)) (i : Nat), EntsA k kv n es al →
      (alFind al x i = none ∧ (∀ m : MapEntry, m.key = arrN k x → m.val = arrN kv v → EntsA k kv n (es ++ [m]) (alPut al x v))) ∨
      (∃ j u m, alFind al x i = some (i + j, u) ∧ es[j]? = some m ∧ m.key = arrN k x ∧ (∀ m' : MapEntry, m'.key = arrN k x → m'.val = arrN kv v → EntsA k kv n (es.set j m') (alPut al x v))) := by
    intro es
    induction es with
    | nil =>
      intro al i h
      cases al with
      | cons p al => simp [EntsA] at h
      | nil => exact .inl ⟨rfl, fun m h1 h2 => ⟨by simp [alPut, h1, h2], by simp [alPut, hx]⟩⟩
    | cons m es ih =>
      intro al i h
      cases al with
      | nil => simp [EntsA] at h
      | cons p al =>
        obtain ⟨q1, q2⟩ := h
        simp only [List.map_cons, List.cons.injEq, Prod.mk.injEq] at q1
        have h' : EntsA k kv n es al := ⟨q1.2, fun q hq => q2 q (by simp [hq])⟩
        by_cases hxp : p.1 == x
        · right
          refine ⟨0, p.2, m, by simp [alFind, hxp], rfl, by rw [q1.1.1, eq_of_beq hxp], fun m' h1 h2 => ?_⟩
          unfold alPut
          rw [if_pos hxp]
          refine ⟨by simp [h1, h2, q1.2], fun q hq => ?_⟩
          rw [List.mem_cons] at hq
          rcases hq with rfl | hq
          · exact hx
          · exact q2 q (by simp [hq])
        · have e2 : alFind (p :: al) x i = alFind al x (i + 1) := by simp [alFind, hxp]
          have e3 : alPut (p :: al) x v = p :: alPut al x v := by simp [alPut, hxp]
          rw [e2, e3]
          rcases ih al (i + 1) h' with ⟨g1, g2⟩ | ⟨j, u, m1, g1, g2, g3, g4⟩
          · left
            refine ⟨g1, fun m' k1 k2 => ?_⟩
            obtain ⟨r1, r2⟩ := g2 m' k1 k2
            refine ⟨?_, fun q hq => ?_⟩
            · rw [List.cons_append, List.map_cons, List.map_cons, r1, q1.1.1, q1.1.2]
            · rw [List.mem_cons] at hq
              rcases hq with rfl | hq
              · exact q2 _ (by simp)
              · exact r2 q hq
          · right
            refine ⟨j + 1, u, m1, by rw [g1]; congr 2; omega, by simpa using g2, g3, fun m' k1 k2 => ?_⟩
            obtain ⟨r1, r2⟩ := g4 m' k1 k2
            refine ⟨?_, fun q hq => ?_⟩
            · rw [List.set_cons_succ, List.map_cons, List.map_cons, r1, q1.1.1, q1.1.2]
            · rw [List.mem_cons] at hq
              rcases hq with rfl | hq
              · exact q2 _ (by simp)
              · exact r2 q hq
  rcases hf es.toList al 0 h2 with ⟨e1, e2⟩ | ⟨j, u, m, e1, e2, e3, e4⟩
  · rw [e1]
    simp only [Option.map_none]
    refine ⟨_, Go.MapKept.run_setObj_map _ h1, hfin _ _ ?_⟩
    rw [Array.toList_push]
    exact e2 _ rfl rfl
  · rw [e1]
    simp only [Option.map_some, Nat.zero_add]
    have hm : es[j]? = some m := by rw [← Array.getElem?_toList]; exact e2
    simp only [hm, Option.map_some, Option.getD_some, e3]
    have hstay : (Instr.keyThatStays (arrN k x) (arrN k x)).run P w = .ok (arrN k x) w := by
      unfold Instr.keyThatStays
      rw [if_pos (sameBits_arr 9998 k x)]
      simp
    rw [Sem.run_bind, hstay]
    simp only [Result.andThen_ok]
    refine ⟨_, Go.MapKept.run_setObj_map _ h1, hfin _ _ ?_⟩
    have hset : (es.modify j fun e => { e with key := arrN k x, val := arrN kv v }).toList = es.toList.set j { m with key := arrN k x, val := arrN kv v } := by
      apply List.ext_getElem?
      intro i
      rw [Array.getElem?_toList, Array.getElem?_modify, List.getElem?_set]
      by_cases hij : j = i
      · subst hij
        have hlt : j < es.toList.length := (List.getElem?_eq_some_iff.1 e2).1
        rw [if_pos rfl, if_pos rfl, if_pos hlt, hm]
        rfl
      · rw [if_neg hij, if_neg hij, Array.getElem?_toList]
    rw [hset]
    exact e4 _ rfl rfl
end Go.Proofs.Ytapbhhehnbfdfaa

/- A map from values of SQL to the places at which they stand in a list. -/
set_option linter.unusedSimpArgs false
set_option linter.unusedVariables false
set_option maxRecDepth 100000
namespace Go.Proofs.Ytapbhhehnbfdfaa
open Go.RowKit

abbrev vlV (x : Vl) : Value := .agg #[.int .u8 (x.k : Int), .int .i64 x.n, .string x.s]
theorem vl_eq (x y : Vl) : ((x.k : Int) == (y.k : Int) && (x.n == y.n && x.s.toList == y.s.toList)) = decide (x = y) := by
  obtain ⟨a, b, c⟩ := x
  obtain ⟨d, e, f⟩ := y
  rw [Bool.eq_iff_iff]
  simp only [Bool.and_eq_true, beq_iff_eq, decide_eq_true_eq, Vl.mk.injEq]
  constructor
  · rintro ⟨h1, h2, h3⟩
    refine ⟨by omega, h2, ?_⟩
    rw [ByteArray.toList_eq, ByteArray.toList_eq] at h3
    exact ByteArray.ext (Array.toList_inj.1 h3)
  · rintro ⟨rfl, rfl, rfl⟩; exact ⟨rfl, rfl, rfl⟩
theorem run_equal_vl (x y : Vl) (w : World) : (Op.equal 23 (vlV x) (vlV y)).run Try.prog w = .ok (decide (x = y)) w := by
  have := eqV (x.k : Int) (y.k : Int) x.n y.n x.s y.s w
  rw [vl_eq] at this
  exact this
theorem run_checkKey_vl (x : Vl) (w : World) (em : Bool) : (Instr.checkKey em 10000 23 (vlV x)).run Try.prog w = .ok () w := by
  have h0 : ∀ (n : Nat) (c : Int), (Instr.checkKey em (n + 1) 5 (.int .u8 c)).run Try.prog w = .ok () w := fun n c => Go.MapKept.run_checkKey Try.underlying5 (by simp [Go.MapKept.IsKey]) em n
  have h1 : ∀ (n : Nat) (c : Int), (Instr.checkKey em (n + 1) 2 (.int .i64 c)).run Try.prog w = .ok () w := fun n c => Go.MapKept.run_checkKey Try.underlying2 (by simp [Go.MapKept.IsKey]) em n
  have h2 : ∀ (n : Nat) (c : ByteArray), (Instr.checkKey em (n + 1) 9 (.string c)).run Try.prog w = .ok () w := fun n c => Go.MapKept.run_checkKey Try.underlying9 (by simp [Go.MapKept.IsKey]) em n
  have p0 := run_underlying (P := Try.prog) (w := w) Try.underlying5
  have p1 := run_underlying (P := Try.prog) (w := w) Try.underlying2
  have p2 := run_underlying (P := Try.prog) (w := w) Try.underlying9
  unfold Instr.checkKey
  simp only [Sem.run_bind, run_underlying Try.underlying23, Result.andThen_ok]
  simp [part, isAgg, p0, p1, p2, h0 9998, h1 9998, h2 9998]

/-- The entries of a map. -/
def EntsV (es : List MapEntry) (al : List (Vl × Nat)) : Prop := es.map (fun e => (e.key, e.val)) = al.map (fun p => (vlV p.1, Value.int .i64 (p.2 : Int)))
def alFindV : List (Vl × Nat) → Vl → Nat → Option (Nat × Nat)
  | [], _, _ => none
  | p :: r, x, i => if x = p.1 then some (i, p.2) else alFindV r x (i + 1)
theorem run_findAsking_vl (x : Vl) (w : World) : ∀ (es : List MapEntry) (al : List (Vl × Nat)) (i : Nat), EntsV es al → (Instr.findAsking 23 (vlV x) es i).run Try.prog w = .ok ((alFindV al x i).map fun p => (p.1, Value.int .i64 (p.2 : Int))) w
  | [], [], _, _ => by simp [Instr.findAsking, alFindV]
  | [], p :: al, _, h => by simp [EntsV] at h
  | m :: es, [], _, h => by simp [EntsV] at h
  | m :: es, p :: al, i, h => by
    unfold EntsV at h
    simp only [List.map_cons, List.cons.injEq, Prod.mk.injEq] at h
    have ih := run_findAsking_vl x w es al (i + 1) h.2
    have heq := run_equal_vl x p.1 w
    unfold Instr.findAsking alFindV
    simp only [Sem.run_bind, h.1.1, heq, Result.andThen_ok]
    by_cases hxp : x = p.1
    · rw [if_pos hxp, decide_eq_true hxp]
      simp [h.1.2]
    · rw [if_neg hxp, decide_eq_false hxp]
      simpa using ih
theorem run_findKey_vl (x : Vl) (w : World) (es : List MapEntry) (al : List (Vl × Nat)) (h : EntsV es al) : (Instr.findKey 23 (vlV x) es).run Try.prog w = .ok ((alFindV al x 0).map fun p => (p.1, Value.int .i64 (p.2 : Int))) w := by
  have hA := run_findAsking_vl x w es al 0 h
  unfold Instr.findKey
  simp only [Sem.run_bind, run_underlying Try.underlying23, Result.andThen_ok]
  cases es with
  | nil =>
    simp only [Instr.findNow]
    cases al with
    | nil => simp [alFindV]
    | cons p al => simp [EntsV] at h
  | cons m es => simpa [Instr.findNow, Instr.sameNow] using hA

/-- The first place of a value in a list. -/
def placeV : List Vl → Vl → Option Nat
  | [], _ => none
  | y :: r, x => if x = y then some 0 else (placeV r x).map (· + 1)
def enumV (cs : List Vl) : List (Vl × Nat) := cs.zipIdx
theorem find_num (x : Vl) : ∀ (cs : List Vl) (s i : Nat), (alFindV (cs.zipIdx s) x i).map (·.2) = (placeV cs x).map (· + s)
  | [], _, _ => rfl
  | y :: r, s, i => by
    rw [List.zipIdx_cons]
    unfold alFindV placeV
    by_cases h : x = y
    · simp [h]
    · rw [if_neg h, if_neg h, find_num x r (s + 1) (i + 1), Option.map_map]
      cases placeV r x with
      | none => rfl
      | some q => simp; omega
theorem placeV_lt {cs : List Vl} {x : Vl} {k : Nat} (h : placeV cs x = some k) : k < cs.length ∧ cs[k]? = some x := by
  induction cs generalizing k with
  | nil => cases h
  | cons y r ih =>
    unfold placeV at h
    split at h
    · rename_i hxy
      injection h with h; subst h; simp [hxy]
    · cases hq : placeV r x with
      | none => rw [hq] at h; cases h
      | some q =>
        rw [hq] at h
        injection h with h
        have := ih hq
        simp only at h
        subst h
        simp [this.2]; omega
theorem placeV_none {cs : List Vl} {x : Vl} (h : placeV cs x = none) : x ∉ cs := by
  induction cs with
  | nil => simp
  | cons y r ih =>
    unfold placeV at h
    split at h
    · cases h
    · rename_i hxy
      cases hq : placeV r x with
      | none => simp [hxy, ih hq]
      | some q => rw [hq] at h; cases h
/-- Block b is a map that has each value's place. -/
def MapV (w : World) (b : Nat) (cs : List Vl) : Prop := ∃ (es : Array MapEntry) (clk : Nat), MapB w b es clk ∧ EntsV es.toList (enumV cs)
theorem MapV.keep {w w' : World} {b : Nat} {cs : List Vl} (h : MapV w b cs) (hb : w'.heap[b]? = w.heap[b]?) : MapV w' b cs := by
  obtain ⟨es, clk, h1, h2⟩ := h
  exact ⟨es, clk, hb.trans h1, h2⟩
theorem MapV.lt {w : World} {b : Nat} {cs : List Vl} (h : MapV w b cs) : b < w.heap.size := by
  obtain ⟨es, clk, h1, h2⟩ := h
  exact h1.lt
theorem MapV.ne_blk {w : World} {b g : Nat} {cs : List Vl} {t : TypeId} {c : Array Value} (h : MapV w b cs) (h' : Blk w g t c) : b ≠ g := by
  obtain ⟨es, clk, h1, h2⟩ := h
  exact h1.ne_blk h'
theorem MapV.new (w : World) : MapV (w.alloc (.map #[] 0)) w.heap.size [] := ⟨#[], 0, heap_alloc_new w _, rfl⟩
theorem info_int26 : (Try.prog.info? 3).map (fun i => (i.zero, i.size, i.bytes)) = some (some (.int .i64 0), 1, 8) := by kernel_rfl
/-- 'i, ok := m[x]'. -/
theorem MapV.lookup {w : World} {b : Nat} {cs : List Vl} (h : MapV w b cs) (x : Vl) : (Instr.lookup 60 (.map (some b)) (vlV x) true).run Try.prog w = .ok (.tuple #[.int .i64 (((placeV cs x).getD 0 : Nat) : Int), .bool (placeV cs x).isSome]) w := by
  obtain ⟨es, clk, h1, h2⟩ := h
  have hz : (zeroValue 3).run Try.prog w = .ok (.int .i64 0) w := by
    have hi := info_parts info_int26
    obtain ⟨i0, hi, hz0, -, -⟩ := hi
    simp [zeroValue, typeInfo, hi, hz0]
  unfold Instr.lookup
  simp only [Sem.run_bind, run_underlying Try.underlying60, Result.andThen_ok, Go.MapKept.run_getObj_map h1, Sem.run_pure, run_checkKey_vl, run_findKey_vl x w _ _ h2]
  have hf := find_num x cs 0 0
  unfold enumV
  cases hq : alFindV cs.zipIdx x 0 with
  | none =>
    rw [hq] at hf
    cases hp : placeV cs x with
    | none => simp [hz]
    | some q => rw [hp] at hf; cases hf
  | some p =>
    rw [hq] at hf
    cases hp : placeV cs x with
    | none => rw [hp] at hf; cases hf
    | some q =>
      rw [hp] at hf
      simp at hf
      simp [hf]
/-- 'm[x] = len' of a value that is not there. -/
theorem MapV.update {w : World} {b : Nat} {cs : List Vl} (h : MapV w b cs) (x : Vl) (hx : placeV cs x = none) : ∃ o, (Instr.mapUpdate 60 (.map (some b)) (vlV x) (.int .i64 (cs.length : Int))).run Try.prog w = .ok () (putObj w b o) ∧ ∀ w', w'.heap[b]? = some o → MapV w' b (cs ++ [x]) := by
  obtain ⟨es, clk, h1, h2⟩ := h
  have hf := find_num x cs 0 0
  rw [hx] at hf
  have hn : alFindV (enumV cs) x 0 = none := by
    unfold enumV
    cases hq : alFindV cs.zipIdx x 0 with
    | none => rfl
    | some p => rw [hq] at hf; cases hf
  unfold Instr.mapUpdate
  simp only [Sem.run_bind, run_underlying Try.underlying60, Result.andThen_ok, Go.MapKept.run_getObj_map h1, Sem.run_pure, run_checkKey_vl, run_findKey_vl x w _ _ h2]
  rw [hn]
  simp only [Option.map_none]
  refine ⟨_, Go.MapKept.run_setObj_map _ h1, fun w' hw' => ⟨_, _, hw', ?_⟩⟩
  rw [Array.toList_push]
  unfold EntsV enumV at h2 ⊢
  rw [List.map_append, h2, List.zipIdx_append, List.map_append]
  simp
end Go.Proofs.Ytapbhhehnbfdfaa

/- Package compile: the writer; place. -/
set_option linter.unusedSimpArgs false
set_option linter.unusedVariables false
set_option maxRecDepth 100000
namespace Go.Proofs.Ytapbhhehnbfdfaa
open Go.RowKit

theorem info_vl : (Try.prog.info? 23).map (fun i => (i.zero, i.size, i.bytes)) = some (some (.agg #[.int .u8 0, .int .i64 0, .string ⟨#[]⟩]), 3, 32) := by kernel_rfl
theorem info_in : (Try.prog.info? 63).map (fun i => (i.zero, i.size, i.bytes)) = some (some (.agg #[.int .i64 0, .int .i64 0]), 2, 16) := by kernel_rfl
theorem cellsVl_snoc (l : List Vl) (x : Vl) : cellsVl (l ++ [x]) = cellsVl l ++ valC x := cellsOf_snoc valC l x
theorem cellsIn_snoc (l : List Ins) (x : Ins) : cellsIn (l ++ [x]) = cellsIn l ++ insC x := cellsOf_snoc insC l x

/-- A writer: block B, its map block M, its rows. -/
structure WrIn (lo : Nat) (W : World) (B M : Nat) (p : Pg) (cv iv : Value) : Prop where
  box : Blk W B 62 #[cv, iv, .map (some M)]
  map : MapV W M p.cs
  crow : W.ownsRow lo 23 3 cv p.cs.length (cellsVl p.cs)
  irow : W.ownsRow lo 63 2 iv p.code.length (cellsIn p.code)
  loB : lo ≤ B
  loM : lo ≤ M
def footW (B M : Nat) (cv iv : Value) : List Nat := B :: M :: (cv.ownBlock.toList ++ iv.ownBlock.toList)
/-- What a call at a writer may have changed. -/
structure WrOut (B M : Nat) (W : World) (cv iv : Value) (W' : World) (cv' iv' : Value) : Prop where
  chg : Chg (footW B M cv iv) W W'
  oc : cv'.ownBlock = cv.ownBlock ∨ ∀ g, cv'.ownBlock = some g → W.heap.size ≤ g
  oi : iv'.ownBlock = iv.ownBlock ∨ ∀ g, iv'.ownBlock = some g → W.heap.size ≤ g
theorem WrIn.keep {lo : Nat} {W W' : World} {B M : Nat} {p : Pg} {cv iv : Value} (h : WrIn lo W B M p cv iv) (hb : Below W.heap.size W W') : WrIn lo W' B M p cv iv :=
  ⟨(hb.block B h.box.lt).trans h.box, h.map.keep (hb.block M h.map.lt), own_below h.crow (Nat.le_refl _) hb, own_below h.irow (Nat.le_refl _) hb, h.loB, h.loM⟩
theorem WrOut.refl (B M : Nat) {W W' : World} (cv iv : Value) (hb : Below W.heap.size W W') : WrOut B M W cv iv W' cv iv := ⟨below_chgN hb, .inl rfl, .inl rfl⟩
theorem WrOut.trans {B M : Nat} {W W1 W2 : World} {cv iv cv1 iv1 cv2 iv2 : Value} (h : WrOut B M W cv iv W1 cv1 iv1) (k : WrOut B M W1 cv1 iv1 W2 cv2 iv2) : WrOut B M W cv iv W2 cv2 iv2 := by
  refine ⟨h.chg.trans' ?_ k.chg, ?_, ?_⟩
  · intro b hb
    unfold footW at hb ⊢
    simp only [List.mem_cons, List.mem_append, Option.mem_toList] at hb ⊢
    rcases hb with hb | hb | hb | hb
    · exact .inl (.inl hb)
    · exact .inl (.inr (.inl hb))
    · rcases h.oc with ho | ho
      · rw [ho] at hb; exact .inl (.inr (.inr (.inl hb)))
      · exact .inr (ho b hb)
    · rcases h.oi with ho | ho
      · rw [ho] at hb; exact .inl (.inr (.inr (.inr hb)))
      · exact .inr (ho b hb)
  · have hs := h.chg.size
    rcases k.oc with ko | ko
    · rw [ko]; exact h.oc
    · exact .inr fun g hg => by have := ko g hg; omega
  · have hs := h.chg.size
    rcases k.oi with ko | ko
    · rw [ko]; exact h.oi
    · exact .inr fun g hg => by have := ko g hg; omega
theorem WrOut.below {lo B M : Nat} {W W' : World} {p : Pg} {cv iv cv' iv' : Value} (h : WrOut B M W cv iv W' cv' iv') (hw : WrIn lo W B M p cv iv) : Below lo W W' := by
  have hB := hw.box.lt
  have hlo := hw.loB
  refine h.chg.below (by omega) (fun k hk => ?_)
  unfold footW at hk
  simp only [List.mem_cons, List.mem_append, Option.mem_toList] at hk
  rcases hk with rfl | rfl | hk | hk
  · exact hw.loB
  · exact hw.loM
  · exact (hw.crow.lt k hk).1
  · exact (hw.irow.lt k hk).1
/-- A block that is none of the writer's stays. -/
theorem WrOut.keepB {B M : Nat} {W W' : World} {cv iv cv' iv' : Value} (h : WrOut B M W cv iv W' cv' iv') {b : Nat} (hb : b < W.heap.size) (h1 : b ≠ B) (h2 : b ≠ M) (h3 : cv.ownBlock ≠ some b) (h4 : iv.ownBlock ≠ some b) : W'.heap[b]? = W.heap[b]? :=
  h.chg.block b hb (fun hm => by
    unfold footW at hm
    simp only [List.mem_cons, List.mem_append, Option.mem_toList] at hm
    rcases hm with hm | hm | hm | hm
    · exact h1 hm
    · exact h2 hm
    · exact h3 hm
    · exact h4 hm)
theorem own_ne_map {W : World} {lo : Nat} {e : TypeId} {z n : Nat} {v : Value} {xs : List Value} (h : W.ownsRow lo e z v n xs) {M : Nat} {cs : List Vl} (hM : MapV W M cs) : v.ownBlock ≠ some M := fun hg => by
  obtain ⟨_, cur, hb⟩ := own_blk h hg
  exact hM.ne_blk hb rfl
theorem own_own {W : World} {lo lo2 : Nat} {e e2 : TypeId} {z z2 n n2 : Nat} {v v2 : Value} {xs xs2 : List Value} (h : W.ownsRow lo e z v n xs) (h2 : W.ownsRow lo2 e2 z2 v2 n2 xs2) (hne : e ≠ e2) {g : Nat} (hg : v2.ownBlock = some g) : v.ownBlock ≠ some g := by
  obtain ⟨_, cur, hb⟩ := own_blk h2 hg
  exact own_ne h hb hne

/-- The constants with one more, if it is a new one. -/
def addC (p : Pg) (x : Vl) : Pg := match placeV p.cs x with | some _ => p | none => ⟨p.cs ++ [x], p.code⟩
def idxC (p : Pg) (x : Vl) : Nat := (placeV p.cs x).getD p.cs.length
/-- What place comes to. -/
def RetPl (lo : Nat) (W : World) (B M : Nat) (p : Pg) (x : Vl) (cv iv : Value) (e : Ending) (W' : World) : Prop :=
  e = .returned (.int .i64 (idxC p x : Int)) ∧ ∃ cv', WrIn lo W' B M (addC p x) cv' iv ∧ WrOut B M W cv iv W' cv' iv

set_option maxHeartbeats 16000000 in
theorem place_any (lo B M : Nat) (p : Pg) (cv iv : Value) (x : Vl) (W : World) (h : WrIn lo W B M p cv iv) (hlen : p.cs.length ≤ 1000000) :
    Calls Try.prog 47 #[.pointer (some ⟨B, 0, none⟩), .agg #[.int .u8 (x.k : Int), .int .i64 x.n, .string x.s]] W (RetPl lo W B M p x cv iv) := by
  obtain ⟨i0, hi, hz0, hz1, hz2⟩ := info_parts info_vl
  obtain ⟨k, hk⟩ : ∃ k, p.cs.length = k := ⟨_, rfl⟩
  have HK := Lib.hid hk
  rw [hk] at hlen
  obtain ⟨ac, cc, hcv, hcc, -, -⟩ := own_slice h.crow
  rw [hk] at hcv
  have HCv := Lib.hid hcv
  obtain ⟨S, hS⟩ : ∃ S, cv.ownBlock.toList = S := ⟨_, rfl⟩
  have HSS := Lib.hid hS
  obtain ⟨w0, hw0⟩ : ∃ w0, W.alloc (.cells #[.int .u8 (x.k : Int), .int .i64 x.n, .string x.s] 23) = w0 := ⟨_, rfl⟩
  have hV : Blk w0 W.heap.size 23 #[.int .u8 (x.k : Int), .int .i64 x.n, .string x.s] := by rw [← hw0]; exact Blk.new W _ _
  have hb0 : Below W.heap.size W w0 := by rw [← hw0]; exact (Below.refl _ W).alloc (Nat.le_refl _) _
  have HB0 := Lib.hid hb0
  have HV := Lib.hid hV
  have h0 : WrIn lo w0.drew B M p cv iv := h.keep hb0.drew
  have H0 := Lib.hid h0
  have hBW : B < W.heap.size := h.box.lt
  have HBW := Lib.hid hBW
  have HCL : Hid (∀ g, cv.ownBlock = some g → g < W.heap.size) := fun g hg => own_lt h.crow hg
  have hlook := fun V (hV : Chg [] w0.drew V) => MapV.lookup (h0.map.keep (w' := V) (hV.block M h0.map.lt (by simp))) x
  have l2 : ∀ V, Chg [] w0.drew V → V.cell? ⟨B, 2, none⟩ = some (.map (some M)) := fun V hV => (hV.cell (b := B) h0.box.lt (by simp)).trans ((h0.box.cell 2).trans rfl)
  have b0 : ∀ V, Chg [] w0.drew V → V.cell? ⟨W.heap.size, 0, none⟩ = some (.int .u8 (x.k : Int)) := fun V h => (h.cell (b := W.heap.size) hV.lt (by simp)).trans ((hV.cell 0).trans rfl)
  have b1 : ∀ V, Chg [] w0.drew V → V.cell? ⟨W.heap.size, 1, none⟩ = some (.int .i64 x.n) := fun V h => (h.cell (b := W.heap.size) hV.lt (by simp)).trans ((hV.cell 1).trans rfl)
  have b2 : ∀ V, Chg [] w0.drew V → V.cell? ⟨W.heap.size, 2, none⟩ = some (.string x.s) := fun V h => (h.cell (b := W.heap.size) hV.lt (by simp)).trans ((hV.cell 2).trans rfl)
  obtain ⟨o, ho⟩ : ∃ o, placeV p.cs x = o := ⟨_, rfl⟩
  have HO := Lib.hid ho
  rw [ho] at hlook
  clear h hb0 hV h0 hBW hcv hS hk ho
  cases o with
  | some q =>
    have HR : Hid (RetPl lo W B M p x cv iv (.returned (.int .i64 (q : Int))) w0.drew) := by
      refine ⟨by unfold idxC; rw [HO.out]; rfl, cv, ?_, WrOut.refl B M cv iv HB0.out.drew⟩
      unfold addC; rw [HO.out]; exact H0.out
    clear H0 HV HO
    go_enter Try.func47, Try.ntmps47
    go_upto_region 1 with fail
    try rw [hw0]
    refine wp_region_ordS [] [(0, true), (1, true), (2, true), (3, true), (4, true), (5, true), (6, true), (7, true), (8, true), (9, true), (10, true)] (by kernel_rfl) (by kernel_rfl) (by kernel_rfl) (by kernel_rfl) ?_
    repeat (first | (refine wpO_F (v := ?_) rfl (by rfl) (fun w' hL => ?_) ?_; rotate_left; (solve | (go_simp; with_reducible rfl) | go_simp); try simp only [Act.put, List.setIfInBounds_toArray, List.set_cons_zero, List.set_cons_succ]) | (refine wpO_G' (Chg.refl _) rfl (by rfl) ?_; try simp only [Act.put, List.setIfInBounds_toArray, List.set_cons_zero, List.set_cons_succ]))
    refine wpO_nil ?_
    clear hlook l2 b0 b1 b2
    go_wp2
    go_ret
    exact HR.out
  | none =>
    have hBM : B ≠ M := fun e => H0.out.map.ne_blk H0.out.box e.symm
    have hBS : cv.ownBlock ≠ some B := own_ne H0.out.crow H0.out.box (by decide)
    have hMS : cv.ownBlock ≠ some M := own_ne_map H0.out.crow H0.out.map
    have hIB : iv.ownBlock ≠ some B := own_ne H0.out.irow H0.out.box (by decide)
    have hIM : iv.ownBlock ≠ some M := own_ne_map H0.out.irow H0.out.map
    have HN5 := Lib.hid (And.intro hBM (And.intro hBS (And.intro hMS (And.intro hIB hIM))))
    obtain ⟨o1, hup, hMf⟩ := MapV.update (w := w0.drew.drew) (H0.out.map.keep rfl) x HO.out
    rw [HK.out] at hup
    obtain ⟨w2, hw2⟩ : ∃ w2, putObj w0.drew.drew M o1 = w2 := ⟨_, rfl⟩
    rw [hw2] at hup
    have hMlt : M < w0.drew.drew.heap.size := H0.out.map.lt
    have hM2 : MapV w2 M (p.cs ++ [x]) := hMf w2 (by rw [← hw2]; exact putObj_same _ hMlt)
    have hc2 : Chg [M] w0.drew w2 := by rw [← hw2]; exact ((Chg.refl _ w0.drew).drew).putObj (.inl (by simp)) _
    have hk2 : ∀ b, b < w0.drew.heap.size → b ≠ M → w2.heap[b]? = w0.drew.heap[b]? := fun b hb hne => hc2.block b hb (by simpa using hne)
    have hbox2 : Blk w2 B 62 #[cv, iv, .map (some M)] := (hk2 B H0.out.box.lt hBM).trans H0.out.box
    have hcr2 : w2.ownsRow lo 23 3 cv k (cellsVl p.cs) := by
      have := own_keep H0.out.crow fun g hg => hk2 g (own_lt H0.out.crow hg) (fun e => hMS (by rw [hg, e]))
      rw [HK.out] at this; exact this
    have hir2 := own_keep H0.out.irow fun g hg => hk2 g (own_lt H0.out.irow hg) (fun e => hIM (by rw [hg, e]))
    have hVlt : W.heap.size < w0.drew.heap.size := HV.out.lt
    have hV2 : Blk w2 W.heap.size 23 #[.int .u8 (x.k : Int), .int .i64 x.n, .string x.s] := (hk2 _ hVlt (fun e => by have := HBW.out; exact H0.out.map.ne_blk (w := w0.drew) HV.out e.symm)).trans HV.out
    have hs2 : w0.drew.heap.size = w2.heap.size := by rw [← hw2, putObj_size]; rfl
    have HM2 := Lib.hid hM2
    have HX2 := Lib.hid hbox2
    have HC2 := Lib.hid hcr2
    have HI2 := Lib.hid hir2
    have HChg2 := Lib.hid hc2
    have hVS : cv.ownBlock ≠ some W.heap.size := fun e => by have := HCL.out _ e; omega
    have k0 := ((H0.out.box.cell 0).trans rfl : w0.drew.cell? ⟨B, 0, none⟩ = some cv)
    rw [HCv.out] at k0
    have f0 : ∀ V, Chg S w2.drew V → V.cell? ⟨B, 0, none⟩ = some (.slice ac k cc) := fun V hV => (hV.cell (b := B) hbox2.lt (fun hm => hBS (by rw [← HSS.out, Option.mem_toList] at hm; exact hm))).trans (by rw [← HCv.out]; exact (hbox2.cell 0).trans rfl)
    have e0 : ∀ V, Chg S w2.drew V → V.cell? ⟨W.heap.size, 0, none⟩ = some (.int .u8 (x.k : Int)) := fun V hV => (hV.cell (b := W.heap.size) hV2.lt (fun hm => hVS (by rw [← HSS.out, Option.mem_toList] at hm; exact hm))).trans ((hV2.cell 0).trans rfl)
    have e1 : ∀ V, Chg S w2.drew V → V.cell? ⟨W.heap.size, 1, none⟩ = some (.int .i64 x.n) := fun V hV => (hV.cell (b := W.heap.size) hV2.lt (fun hm => hVS (by rw [← HSS.out, Option.mem_toList] at hm; exact hm))).trans ((hV2.cell 1).trans rfl)
    have e2 : ∀ V, Chg S w2.drew V → V.cell? ⟨W.heap.size, 2, none⟩ = some (.string x.s) := fun V hV => (hV.cell (b := W.heap.size) hV2.lt (fun hm => hVS (by rw [← HSS.out, Option.mem_toList] at hm; exact hm))).trans ((hV2.cell 2).trans rfl)
    clear hBM hBS hMS hIB hIM hMf hw2 hMlt hM2 hc2 hk2 hbox2 hcr2 hir2 hVlt hV2 hVS
    go_enter Try.func47, Try.ntmps47
    go_upto_region 1 with fail
    try rw [hw0]
    refine wp_region_ordS [] [(0, true), (1, true), (2, true), (3, true), (4, true), (5, true), (6, true), (7, true), (8, true), (9, true), (10, true)] (by kernel_rfl) (by kernel_rfl) (by kernel_rfl) (by kernel_rfl) ?_
    repeat (first | (refine wpO_F (v := ?_) rfl (by rfl) (fun w' hL => ?_) ?_; rotate_left; (solve | (go_simp; with_reducible rfl) | go_simp); try simp only [Act.put, List.setIfInBounds_toArray, List.set_cons_zero, List.set_cons_succ]) | (refine wpO_G' (Chg.refl _) rfl (by rfl) ?_; try simp only [Act.put, List.setIfInBounds_toArray, List.set_cons_zero, List.set_cons_succ]))
    refine wpO_nil ?_
    clear hlook
    go_upto_region 4 with fail
    have l2' : ∀ V, Chg [] w0.drew.drew V → V.cell? ⟨B, 2, none⟩ = some (.map (some M)) := fun V hV => l2 V hV.undrew
    have b0' : ∀ V, Chg [] w0.drew.drew V → V.cell? ⟨W.heap.size, 0, none⟩ = some (.int .u8 (x.k : Int)) := fun V hV => b0 V hV.undrew
    have b1' : ∀ V, Chg [] w0.drew.drew V → V.cell? ⟨W.heap.size, 1, none⟩ = some (.int .i64 x.n) := fun V hV => b1 V hV.undrew
    have b2' : ∀ V, Chg [] w0.drew.drew V → V.cell? ⟨W.heap.size, 2, none⟩ = some (.string x.s) := fun V hV => b2 V hV.undrew
    clear l2 b0 b1 b2
    refine wp_region_ordX [] 6 [(0, true), (1, true), (2, true), (3, true), (4, true), (5, true)] (by kernel_rfl) (by kernel_rfl) (by kernel_rfl) (by kernel_rfl) ?_
    repeat (first | (refine wpOX_F (v := ?_) rfl (by rfl) (fun w' hL => ?_) ?_; rotate_left; (solve | (go_simp; with_reducible rfl) | go_simp); try simp only [Act.put, List.setIfInBounds_toArray, List.set_cons_zero, List.set_cons_succ]) | (refine wpOX_G (Chg.refl _) rfl (by rfl) ?_; try simp only [Act.put, List.setIfInBounds_toArray, List.set_cons_zero, List.set_cons_succ]))
    refine wpOX_end rfl (by rfl) ?_
    refine wp_skp (exec_mapUpdate rfl rfl rfl rfl hup) ?_
    clear hup k0 l2' b0' b1' b2'
    simp only [NoPanic, Act.put]
    go_wp2_with fail
    refine wp_region_ordX S 12 [(0, true), (1, true), (2, true), (3, true), (4, true), (5, true), (6, true), (7, false), (8, false), (9, true), (10, true), (11, true)] (by kernel_rfl) (by kernel_rfl) (by kernel_rfl) (by kernel_rfl) ?_
    repeat (first | (refine wpOX_F (v := ?_) rfl (by rfl) (fun w' hL => ?_) ?_; rotate_left; (solve | (go_simp; with_reducible rfl) | go_simp); try simp only [Act.put, List.setIfInBounds_toArray, List.set_cons_zero, List.set_cons_succ]) | (refine wpOX_G (Chg.refl _) rfl (by rfl) ?_; try simp only [Act.put, List.setIfInBounds_toArray, List.set_cons_zero, List.set_cons_succ]))
    refine wpOX_C rfl (by rfl) ?_
    go_simp
    refine ⟨(Chg.refl _ _).alloc _, ?_⟩
    try simp only [Act.put, List.setIfInBounds_toArray, List.set_cons_zero, List.set_cons_succ]
    refine wpOX_C rfl (by rfl) ?_
    refine wp_appF (.tmp 35) (.tmp 37) 33 rfl lo 23 i0 (.agg #[.int .u8 0, .int .i64 0, .string ⟨#[]⟩]) 3 32 1 Try.underlying33 hi hz0 rfl hz1 (by omega) hz2 (by omega) (.slice ac k cc) k _ (valC x) w2.drew (by rw [← HCv.out]; exact HC2.out) rfl _ rfl rfl (by intro u hu; simp [valC] at hu; rcases hu with rfl | rfl | rfl <;> rfl) rfl (by omega) (by have := HX2.out.lt; have := H0.out.loB; show lo ≤ w2.heap.size; omega) ?_
    intro v5 w5 hown5 hc5 hsz5 hf5
    refine ⟨by rw [← HCv.out, HSS.out] at hc5; exact hc5, ?_⟩
    try simp only [Act.put, List.setIfInBounds_toArray, List.set_cons_zero, List.set_cons_succ]
    obtain ⟨hBM, hBS, hMS, hIB, hIM⟩ := HN5.out
    obtain ⟨a5, c5, hv5, -, -, -⟩ := own_slice hown5
    have hcS : (Value.slice ac k cc).ownBlock.toList = cv.ownBlock.toList := by rw [← HCv.out]
    rw [hcS] at hc5
    have hcB : ∀ b, b < w2.heap.size → cv.ownBlock ≠ some b → w5.heap[b]? = w2.heap[b]? := fun b hb hn =>
      (hc5.block b (by show b < (w2.drew.alloc _).heap.size; simp; omega) (by rw [Option.mem_toList]; exact hn)).trans (Below.heap_alloc w2.drew _ b hb)
    have hbox5 : Blk w5 B 62 #[cv, iv, .map (some M)] := (hcB B HX2.out.lt hBS).trans HX2.out
    have p1 := ((hbox5.cell 0).trans rfl : w5.cell? ⟨B, 0, none⟩ = some cv)
    rw [HCv.out] at p1
    have pf := hbox5.frozen 0
    have pl := hbox5.lt
    have hsz25 : w2.heap.size ≤ w5.heap.size := by have := hc5.size; simp at this; have : w2.drew.heap.size = w2.heap.size := rfl; omega
    have hcW : Chg (footW B M cv iv) W w5 := by
      have h1 : Chg (footW B M cv iv) W w0.drew := below_chgN HB0.out.drew
      have h2 : Chg (footW B M cv iv) W w2 := h1.trans (HChg2.out.sub (by unfold footW; simp))
      refine (h2.drew.alloc _).trans (hc5.sub (fun b hb => ?_))
      unfold footW; simp [hb]
    have hrow6 : ∀ v : Value, (w5.setCell ⟨B, 0, none⟩ v).ownsRow lo 23 3 v5 (k + 1) (cellsVl p.cs ++ valC x) := fun v => own_keep hown5 fun g hg => Below.heap_setCell w5 ⟨B, 0, none⟩ _ g (fun e => own_ne hown5 hbox5 (by decide) (by rw [hg, e]))
    have HFin : Hid (∀ v : Value, v = v5 → WrIn lo (w5.setCell ⟨B, 0, none⟩ v) B M ⟨p.cs ++ [x], p.code⟩ v iv ∧ WrOut B M W cv iv (w5.setCell ⟨B, 0, none⟩ v) v iv) := fun v hv => by
      have hset : ∀ b, b ≠ B → (w5.setCell ⟨B, 0, none⟩ v).heap[b]? = w5.heap[b]? := fun b hb => Below.heap_setCell w5 ⟨B, 0, none⟩ _ b hb
      refine ⟨⟨hbox5.set_ 0 _, ?_, ?_, ?_, H0.out.loB, H0.out.loM⟩, ⟨hcW.setCell (.inl (by unfold footW; simp)) _, ?_, .inl rfl⟩⟩
      · exact HM2.out.keep ((hset M (fun e => hBM e.symm)).trans (hcB M HM2.out.lt hMS))
      · rw [hv]
        show (w5.setCell ⟨B, 0, none⟩ v5).ownsRow lo _ 3 v5 (p.cs ++ [x]).length (cellsVl (p.cs ++ [x]))
        rw [cellsVl_snoc, List.length_append, HK.out]
        exact hrow6 v5
      · exact own_keep HI2.out fun g hg => (hset g (fun e => hIB (by rw [hg, e]))).trans (hcB g (own_lt HI2.out hg) (own_own HC2.out HI2.out (by decide) hg))
      · rw [hv]
        rcases hf5 with hf | hf
        · left; rw [hf, ← HCv.out]
        · right; intro g hg; have h1 := hf g hg; have h2 := HB0.out.size; have h3 : w0.drew.heap.size = w0.heap.size := rfl; have h4 : w2.drew.heap.size = w2.heap.size := rfl; omega
    have HAd : Hid (addC p x = ⟨p.cs ++ [x], p.code⟩) := by show addC p x = _; unfold addC; rw [HO.out]
    have HId : Hid (idxC p x = k) := by show idxC p x = _; unfold idxC; rw [HO.out]; exact HK.out
    subst hv5
    clear hBM hBS hMS hIB hIM hown5 hc5 hsz5 hf5 hcS hcB hbox5 hsz25 hcW hrow6 hs2 H0 HV HB0 HN5 HM2 HX2 HC2 HI2 HChg2 HCL
    repeat (first | (refine wpOX_F (v := ?_) rfl (by rfl) (fun w' hL => ?_) ?_; rotate_left; (solve | (go_simp; with_reducible rfl) | go_simp); try simp only [Act.put, List.setIfInBounds_toArray, List.set_cons_zero, List.set_cons_succ]) | (refine wpOX_G (Chg.refl _) rfl (by rfl) ?_; try simp only [Act.put, List.setIfInBounds_toArray, List.set_cons_zero, List.set_cons_succ]))
    refine wpOX_end rfl (by rfl) ?_
    go_simp
    simp only [NoPanic]
    clear f0 e0 e1 e2 p1 pf pl
    have HE : Hid (RetPl lo W B M p x cv iv (.returned (.int .i64 (k : Int))) (w5.setCell ⟨B, 0, none⟩ (.slice a5 (k + 1) c5))) := by
      refine ⟨by rw [HId.out], _, ?_, (HFin.out _ rfl).2⟩
      rw [HAd.out]; exact (HFin.out _ rfl).1
    clear HFin HAd HId
    generalize w5.setCell ⟨B, 0, none⟩ (.slice a5 (k + 1) c5) = w6 at *
    go_wp2
    go_ret
    exact HE.out
end Go.Proofs.Ytapbhhehnbfdfaa

/- Package compile: instruction. -/
set_option linter.unusedSimpArgs false
set_option linter.unusedVariables false
set_option maxRecDepth 100000
namespace Go.Proofs.Ytapbhhehnbfdfaa
open Go.RowKit

/-- A node's instruction, and whether there is one; the constants with its value. -/
def insV (l : NLb) (n : Nat) (p : Pg) : Pg × Ins × Bool :=
  if l.kd = 1 then (addC p l.v, ⟨1, (idxC p l.v : Int)⟩, decide (n = 0))
  else if l.kd = 2 then (p, ⟨2, l.sl⟩, decide (n = 0))
  else (p, (findV ⟨l.kd, l.op, n, true⟩).getD ⟨0, 0⟩, (findV ⟨l.kd, l.op, n, true⟩).isSome)
def RetIs (lo : Nat) (W : World) (B M : Nat) (cv iv : Value) (q : Pg) (o : Ins) (b : Bool) (e : Ending) (W' : World) : Prop :=
  e = .returned (.tuple #[.agg #[.int .i64 o.op, .int .i64 o.ag], .bool b]) ∧ ∃ cv', WrIn lo W' B M q cv' iv ∧ WrOut B M W cv iv W' cv' iv
/-- The end: the instruction is stored into the result's block and loaded. -/
theorem ins_end {lo : Nat} {W w2 : World} {B M : Nat} {p q : Pg} {cv iv cv2 : Value} (h : WrIn lo W B M p cv iv) (hr : Blk w2 (W.heap.size + 1) 63 zeroIn) (h2 : WrIn lo w2 B M q cv2 iv) (hc : Chg (footW B M cv iv) W w2)
    (ho : cv2.ownBlock = cv.ownBlock ∨ ∀ g, cv2.ownBlock = some g → W.heap.size + 2 ≤ g) (o : Ins) (b : Bool) :
    (storeVar 63 ⟨W.heap.size + 1, 0, none⟩ (.agg #[.int .i64 o.op, .int .i64 o.ag])).run Try.prog w2 = .ok () (w2.setRow (W.heap.size + 1) #[.int .i64 o.op, .int .i64 o.ag]) ∧
    (loadVar 63 ⟨W.heap.size + 1, 0, none⟩).run Try.prog (w2.setRow (W.heap.size + 1) #[.int .i64 o.op, .int .i64 o.ag]) = .ok (.agg #[.int .i64 o.op, .int .i64 o.ag]) (w2.setRow (W.heap.size + 1) #[.int .i64 o.op, .int .i64 o.ag]) ∧
    Chg [W.heap.size + 1] w2 (w2.setRow (W.heap.size + 1) #[.int .i64 o.op, .int .i64 o.ag]) ∧
    RetIs lo W B M cv iv q o b (.returned (.tuple #[.agg #[.int .i64 o.op, .int .i64 o.ag], .bool b])) (w2.setRow (W.heap.size + 1) #[.int .i64 o.op, .int .i64 o.ag]) := by
  have hBl := h.box.lt
  have hMl := h.map.lt
  have hcS : Chg [W.heap.size + 1] w2 (w2.setRow (W.heap.size + 1) #[.int .i64 o.op, .int .i64 o.ag]) := (Chg.refl _ _).setRow (.inl (by simp)) _
  have hk : ∀ b, b ≠ W.heap.size + 1 → (w2.setRow (W.heap.size + 1) #[.int .i64 o.op, .int .i64 o.ag]).heap[b]? = w2.heap[b]? := fun b hb => setRow_other _ _ _ _ hb
  refine ⟨run_storeVar_row _ _ _ 63 _ _ hr (by rw [info_inS]; rfl) rfl (by simp [Value.oneCell']), run_loadVar_row _ _ _ 63 _ (0, 0) _ (Blk.setRow (new := #[.int .i64 o.op, .int .i64 o.ag]) hr) Try.underlying63 rfl (by rw [info_inS]; rfl), hcS, rfl, cv2, ⟨(hk B (by omega)).trans h2.box, h2.map.keep (hk M (by omega)), ?_, ?_, h2.loB, h2.loM⟩, ⟨hc.setRow (.inr (by omega)) _, ?_, .inl rfl⟩⟩
  · refine own_keep h2.crow fun g hg => hk g (fun e => ?_)
    rcases ho with ho | ho
    · rw [ho] at hg; have := own_lt h.crow hg; omega
    · have := ho g hg; omega
  · exact own_keep h2.irow fun g hg => hk g (fun e => by have := own_lt h.irow hg; omega)
  · rcases ho with ho | ho
    · exact .inl ho
    · exact .inr fun g hg => by have := ho g hg; omega

set_option maxHeartbeats 16000000 in
theorem instr_any (lo B M : Nat) (p : Pg) (cv iv : Value) (l : NLb) (a : Option Addr) (n cap : Nat) (W : World) (h : WrIn lo W B M p cv iv) (hlen : p.cs.length ≤ 1000000) :
    Calls Try.prog 36 #[.pointer (some ⟨B, 0, none⟩), .agg #[.int .i64 l.kd, .string l.op, .int .u8 (l.v.k : Int), .int .i64 l.v.n, .string l.v.s, .int .i64 l.sl, .int .u8 (l.ty : Int), .slice a n cap]] W (RetIs lo W B M cv iv (insV l n p).1 (insV l n p).2.1 (insV l n p).2.2) := by
  have HW := Lib.hid h
  have HLen := Lib.hid hlen
  obtain ⟨w0, hw0⟩ : ∃ w0, (W.alloc (.cells (l.csN (.slice a n cap)) 26)).alloc (.cells zeroIn 63) = w0 := ⟨_, rfl⟩
  have HBx : Hid (Blk w0 W.heap.size 26 (l.csN (.slice a n cap))) := by rw [← hw0]; exact (Blk.new W _ _).alloc _
  have HRs : Hid (Blk w0 (W.heap.size + 1) 63 zeroIn) := by
    rw [← hw0]
    have := Blk.new (W.alloc (.cells (l.csN (.slice a n cap)) 26)) 63 zeroIn
    rw [show (W.alloc (.cells (l.csN (.slice a n cap)) 26)).heap.size = W.heap.size + 1 by simp] at this
    exact this
  have HB0 : Hid (Below W.heap.size W w0) := by rw [← hw0]; exact ((Below.refl _ W).alloc (Nat.le_refl _) _).alloc (by simp) _
  have HS0 : Hid (w0.heap.size = W.heap.size + 2) := by rw [← hw0]; simp [Hid]
  obtain ⟨kd, op, ⟨vk, vn, vs⟩, sl, ty⟩ := l
  have c0 := (HBx.out.cell 0).trans rfl
  have qn : ((n : Int) == 0) = decide (n = 0) := by rw [Bool.eq_iff_iff]; simp
  have qn2 : (n == 0) = decide (n = 0) := by rw [Bool.eq_iff_iff]; simp
  have hnf : W.heap.size ∉ footW B M cv iv ∧ W.heap.size + 1 ∉ footW B M cv iv := by
    have h1 := h.box.lt
    have h2 := h.map.lt
    constructor
    all_goals
      unfold footW
      simp only [List.mem_cons, List.mem_append, Option.mem_toList, not_or]
      refine ⟨by omega, by omega, fun e => ?_, fun e => ?_⟩
      · have := own_lt h.crow e; omega
      · have := own_lt h.irow e; omega
  have HNf := Lib.hid hnf
  have HBd : Hid (Below W.heap.size W w0.drew) := HB0.out.drew
  by_cases k1 : kd = 1
  · subst k1
    have hv : insV ⟨1, op, ⟨vk, vn, vs⟩, sl, ty⟩ n p = (addC p ⟨vk, vn, vs⟩, ⟨1, (idxC p ⟨vk, vn, vs⟩ : Int)⟩, decide (n = 0)) := by unfold insV; rw [if_pos rfl]
    rw [hv]
    obtain ⟨S, hS⟩ : ∃ S, footW B M cv iv ++ [W.heap.size + 1] = S := ⟨_, rfl⟩
    have HSS := Lib.hid hS
    have hBS : W.heap.size ∉ S := by rw [← hS]; simp only [List.mem_append, List.mem_singleton, not_or]; exact ⟨hnf.1, by omega⟩
    have hlt : W.heap.size < w0.heap.size := by have := HS0.out; omega
    have b2 : ∀ V, Chg S w0.drew V → V.cell? ⟨W.heap.size, 2, none⟩ = some (.int .u8 (vk : Int)) := fun V hV => (hV.cell (b := W.heap.size) hlt hBS).trans ((HBx.out.cell 2).trans rfl)
    have b3 : ∀ V, Chg S w0.drew V → V.cell? ⟨W.heap.size, 3, none⟩ = some (.int .i64 vn) := fun V hV => (hV.cell (b := W.heap.size) hlt hBS).trans ((HBx.out.cell 3).trans rfl)
    have b4 : ∀ V, Chg S w0.drew V → V.cell? ⟨W.heap.size, 4, none⟩ = some (.string vs) := fun V hV => (hV.cell (b := W.heap.size) hlt hBS).trans ((HBx.out.cell 4).trans rfl)
    have b7 : ∀ V, Chg S w0.drew V → V.cell? ⟨W.heap.size, 7, none⟩ = some (.slice a n cap) := fun V hV => (hV.cell (b := W.heap.size) hlt hBS).trans ((HBx.out.cell 7).trans rfl)
    have HP := Lib.hid (place_any lo B M p cv iv ⟨vk, vn, vs⟩ w0.drew (h.keep HBd.out) hlen)
    generalize decide (n = 0) = bn at *
    clear h hlen hnf hS hBS hlt hv
    go_enter Try.func36, Try.ntmps36
    go_upto_region 3 with fail
    try rw [hw0]
    refine wp_region_ordS S [(0, true), (1, true), (2, true), (5, true), (6, true), (7, true), (8, true), (3, false), (4, true), (9, false), (10, true)] (by kernel_rfl) (by kernel_rfl) (by kernel_rfl) (by kernel_rfl) ?_
    repeat (first | (refine wpO_F (v := ?_) rfl (by rfl) (fun w' hL => ?_) ?_; rotate_left; (solve | (go_simp; with_reducible rfl) | go_simp); try simp only [Act.put, List.setIfInBounds_toArray, List.set_cons_zero, List.set_cons_succ]) | (refine wpO_G' (Chg.refl _) rfl (by rfl) ?_; try simp only [Act.put, List.setIfInBounds_toArray, List.set_cons_zero, List.set_cons_succ]))
    refine wpO_C rfl (by rfl) ?_
    go_simp
    refine HP.out.mono ?_
    rintro e w2 ⟨rfl, cv2, hI2, hO2⟩
    refine ⟨hO2.chg.sub (fun b hb => by rw [← HSS.out]; exact List.mem_append_left _ hb), ?_⟩
    try simp only [Act.put, List.setIfInBounds_toArray, List.set_cons_zero, List.set_cons_succ]
    have hRs2 : Blk w2 (W.heap.size + 1) 63 zeroIn := (hO2.chg.block _ (by show W.heap.size + 1 < w0.heap.size; have := HS0.out; omega) HNf.out.2).trans HRs.out
    obtain ⟨h1, h2, h3, h4⟩ := ins_end HW.out hRs2 hI2 ((below_chgN HBd.out).trans hO2.chg) (by rcases hO2.oc with ho | ho; exact .inl ho; exact .inr fun g hg => by have h1 := ho g hg; have h2 := HS0.out; have h3 : w0.drew.heap.size = w0.heap.size := rfl; omega) ⟨1, (idxC p ⟨vk, vn, vs⟩ : Int)⟩ bn
    have HS := Lib.hid h1
    have HL := Lib.hid h2
    have HC := Lib.hid h3
    have HE := Lib.hid h4
    generalize idxC p ⟨vk, vn, vs⟩ = ix at *
    replace HS : Hid ((storeVar 63 ⟨W.heap.size + 1, 0, none⟩ (.agg #[.int .i64 1, .int .i64 (ix : Int)])).run Try.prog w2 = .ok () (w2.setRow (W.heap.size + 1) #[.int .i64 1, .int .i64 (ix : Int)])) := HS.out
    clear h1 h2 h3 h4 hRs2 hI2 hO2
    repeat (first | (refine wpO_F (v := ?_) rfl (by rfl) (fun w' hL => ?_) ?_; rotate_left; (solve | (go_simp; with_reducible rfl) | go_simp); try simp only [Act.put, List.setIfInBounds_toArray, List.set_cons_zero, List.set_cons_succ]) | (refine wpO_G' (Chg.refl _) rfl (by rfl) ?_; try simp only [Act.put, List.setIfInBounds_toArray, List.set_cons_zero, List.set_cons_succ]))
    refine wpO_C rfl (by rfl) ?_
    refine wp_skp (exec_store rfl rfl rfl HS.out) ?_
    refine ⟨HC.out.sub (fun b hb => by rw [← HSS.out]; exact List.mem_append_right _ hb), ?_⟩
    try simp only [Act.put, List.setIfInBounds_toArray, List.set_cons_zero, List.set_cons_succ]
    repeat (first | (refine wpO_F (v := ?_) rfl (by rfl) (fun w' hL => ?_) ?_; rotate_left; (solve | (go_simp; with_reducible rfl) | go_simp); try simp only [Act.put, List.setIfInBounds_toArray, List.set_cons_zero, List.set_cons_succ]) | (refine wpO_G' (Chg.refl _) rfl (by rfl) ?_; try simp only [Act.put, List.setIfInBounds_toArray, List.set_cons_zero, List.set_cons_succ]))
    refine wpO_nil ?_
    clear b2 b3 b4 b7
    try go_wp2
    exact bodyPost_ret (results_cell_tmp Try.results36 _ _ rfl rfl HL.out) rfl HE.out
  by_cases k2 : kd = 2
  · subst k2
    have hv : insV ⟨2, op, ⟨vk, vn, vs⟩, sl, ty⟩ n p = (p, ⟨2, sl⟩, decide (n = 0)) := by unfold insV; rw [if_neg k1, if_pos rfl]
    rw [hv]
    have hlt : W.heap.size < w0.heap.size := by have := HS0.out; omega
    have b5 : ∀ V, Chg [W.heap.size + 1] w0.drew V → V.cell? ⟨W.heap.size, 5, none⟩ = some (.int .i64 sl) := fun V hV => (hV.cell (b := W.heap.size) hlt (by simp)).trans ((HBx.out.cell 5).trans rfl)
    have b7 : ∀ V, Chg [W.heap.size + 1] w0.drew V → V.cell? ⟨W.heap.size, 7, none⟩ = some (.slice a n cap) := fun V hV => (hV.cell (b := W.heap.size) hlt (by simp)).trans ((HBx.out.cell 7).trans rfl)
    generalize decide (n = 0) = bn at *
    obtain ⟨h1, h2, h3, h4⟩ := ins_end HW.out (w2 := w0.drew) HRs.out (h.keep HBd.out) (below_chgN HBd.out) (.inl rfl) ⟨2, sl⟩ bn
    have HS := Lib.hid h1
    have HL := Lib.hid h2
    have HC := Lib.hid h3
    have HE := Lib.hid h4
    replace HS : Hid ((storeVar 63 ⟨W.heap.size + 1, 0, none⟩ (.agg #[.int .i64 2, .int .i64 sl])).run Try.prog w0.drew = .ok () (w0.drew.setRow (W.heap.size + 1) #[.int .i64 2, .int .i64 sl])) := HS.out
    clear h hlen hnf hlt hv h1 h2 h3 h4
    go_enter Try.func36, Try.ntmps36
    go_upto_region 5 with fail
    try rw [hw0]
    refine wp_region_ordS [W.heap.size + 1] [(0, true), (1, true), (2, true), (3, true), (4, true), (5, true), (6, true), (7, false), (8, true)] (by kernel_rfl) (by kernel_rfl) (by kernel_rfl) (by kernel_rfl) ?_
    repeat (first | (refine wpO_F (v := ?_) rfl (by rfl) (fun w' hL => ?_) ?_; rotate_left; (solve | (go_simp; with_reducible rfl) | go_simp); try simp only [Act.put, List.setIfInBounds_toArray, List.set_cons_zero, List.set_cons_succ]) | (refine wpO_G' (Chg.refl _) rfl (by rfl) ?_; try simp only [Act.put, List.setIfInBounds_toArray, List.set_cons_zero, List.set_cons_succ]))
    refine wpO_C rfl (by rfl) ?_
    refine wp_skp (exec_store rfl rfl rfl HS.out) ?_
    refine ⟨HC.out, ?_⟩
    try simp only [Act.put, List.setIfInBounds_toArray, List.set_cons_zero, List.set_cons_succ]
    repeat (first | (refine wpO_F (v := ?_) rfl (by rfl) (fun w' hL => ?_) ?_; rotate_left; (solve | (go_simp; with_reducible rfl) | go_simp); try simp only [Act.put, List.setIfInBounds_toArray, List.set_cons_zero, List.set_cons_succ]) | (refine wpO_G' (Chg.refl _) rfl (by rfl) ?_; try simp only [Act.put, List.setIfInBounds_toArray, List.set_cons_zero, List.set_cons_succ]))
    refine wpO_nil ?_
    clear b5 b7
    try go_wp2
    exact bodyPost_ret (results_cell_tmp Try.results36 _ _ rfl rfl HL.out) rfl HE.out
  · have hv : insV ⟨kd, op, ⟨vk, vn, vs⟩, sl, ty⟩ n p = (p, (findV ⟨kd, op, n, true⟩).getD ⟨0, 0⟩, (findV ⟨kd, op, n, true⟩).isSome) := by unfold insV; rw [if_neg k1, if_neg k2]
    rw [hv]
    have q1 : (kd == 1) = false := by simpa using k1
    have q2 : (kd == 2) = false := by simpa using k2
    have HF := Lib.hid (find_any kd op n w0)
    obtain ⟨o, ho⟩ : ∃ o, findV ⟨kd, op, n, true⟩ = o := ⟨_, rfl⟩
    rw [ho] at HF ⊢
    obtain ⟨x, hx⟩ : ∃ x : Ins, o.getD ⟨0, 0⟩ = x := ⟨_, rfl⟩
    have hx1 : (o.map Ins.op).getD 0 = x.op := by rw [← hx]; cases o <;> rfl
    have hx2 : (o.map Ins.ag).getD 0 = x.ag := by rw [← hx]; cases o <;> rfl
    rw [hx]
    have HF2 : Hid (Calls Try.prog 48 #[.agg #[.int .i64 kd, .string op, .int .i64 (n : Int)]] w0 fun e w' => Below w0.heap.size w0 w' ∧ e = .returned (.tuple #[.agg #[.int .i64 x.op, .int .i64 x.ag], .bool o.isSome])) := by
      have := HF.out
      unfold RetIn at this
      rw [hx1, hx2] at this; exact this
    generalize o.isSome = bo at *
    have c1 := (HBx.out.cell 1).trans rfl
    have c7 := (HBx.out.cell 7).trans rfl
    clear h hlen hnf hv k1 k2 ho hx hx1 hx2 HF qn qn2
    go_enter Try.func36, Try.ntmps36
    go_wp2_with fail
    refine HF2.out.mono ?_
    rintro e w2 ⟨hb2, rfl⟩
    have hbW := HB0.out.trans (hb2.mono HB0.out.size)
    have hRs2 : Blk w2 (W.heap.size + 1) 63 zeroIn := (hb2.block _ (by have := HS0.out; omega)).trans HRs.out
    obtain ⟨h1, h2, h3, h4⟩ := ins_end HW.out hRs2 (HW.out.keep hbW) (below_chgN hbW) (.inl rfl) x bo
    have HS := Lib.hid h1
    have HL := Lib.hid h2
    have HE := Lib.hid h4
    clear h1 h2 h3 h4 hRs2 hbW hb2 c0 c1 c7 HF2
    go_wp2_with (first | (guard_target =~ wpList _ _ _ (Oper.mk _ (Op.store 63 _ _) _ _ _ _ :: _) _ _; refine wpList_skp rfl (exec_store rfl rfl rfl HS.out) ?_))
    exact bodyPost_ret (results_cell_tmp Try.results36 _ _ rfl rfl HL.out) rfl HE.out
end Go.Proofs.Ytapbhhehnbfdfaa

/- Package compile: add. -/
set_option linter.unusedSimpArgs false
set_option linter.unusedVariables false
set_option maxRecDepth 100000
namespace Go.Proofs.Ytapbhhehnbfdfaa
open Go.RowKit

/-- A node's program behind another one; none: it has none. -/
def addV : Nx → Pg → Option Pg
  | .mk l args, p =>
    if (insV l args.length p).2.2 = true then
      (args.attach.foldl (fun s y => s.bind (addV y.1)) (some (insV l args.length p).1)).map fun q => ⟨q.cs, q.code ++ [(insV l args.length p).2.1]⟩
    else none
termination_by e => SizeOf.sizeOf e
decreasing_by exact Rose.size_arg y.2
def foldA (l : List Nx) (p : Pg) : Option Pg := l.foldl (fun s y => s.bind (addV y)) (some p)
theorem addV_eq (x : Nx) (p : Pg) : addV x p = if (insV x.lab x.args.length p).2.2 = true then (foldA x.args (insV x.lab x.args.length p).1).map fun q => ⟨q.cs, q.code ++ [(insV x.lab x.args.length p).2.1]⟩ else none := by
  obtain ⟨l, args⟩ := x
  rw [addV]
  simp only [Rose.lab, Rose.args]
  have : args.attach.foldl (fun s y => s.bind (addV y.1)) (some (insV l args.length p).1) = foldA args (insV l args.length p).1 := by
    unfold foldA
    have h := List.foldl_map (f := fun y : {z // z ∈ args} => y.1) (g := fun (s : Option Pg) (y : Nx) => s.bind (addV y)) (l := args.attach) (init := some (insV l args.length p).1)
    have e : args.attach.map (fun y : {z // z ∈ args} => y.1) = args := by simp
    rw [e] at h
    exact h.symm
  rw [this]; rfl
theorem foldA_snoc (l : List Nx) (y : Nx) (p : Pg) : foldA (l ++ [y]) p = (foldA l p).bind (addV y) := by unfold foldA; rw [List.foldl_append]; rfl
theorem foldA_none (l r : List Nx) (p : Pg) (h : foldA l p = none) : foldA (l ++ r) p = none := by
  unfold foldA at h ⊢
  rw [List.foldl_append, h]
  induction r with
  | nil => rfl
  | cons y r ih => exact ih
theorem addC_len (p : Pg) (x : Vl) : (addC p x).cs.length ≤ p.cs.length + 1 ∧ (addC p x).code = p.code := by
  unfold addC
  split
  · exact ⟨by omega, rfl⟩
  · exact ⟨by simp, rfl⟩
theorem insV_len (l : NLb) (n : Nat) (p : Pg) : (insV l n p).1.cs.length ≤ p.cs.length + 1 ∧ (insV l n p).1.code = p.code := by
  unfold insV
  split
  · exact addC_len p l.v
  · split
    · exact ⟨by simp, rfl⟩
    · exact ⟨by simp, rfl⟩
theorem foldA_len {l : List Nx} (hl : ∀ y ∈ l, ∀ p q, addV y p = some q → q.cs.length ≤ p.cs.length + y.count ∧ q.code.length = p.code.length + y.count) (p q : Pg) (h : foldA l p = some q) : q.cs.length ≤ p.cs.length + (l.map Rose.count).sum ∧ q.code.length = p.code.length + (l.map Rose.count).sum := by
  induction l generalizing p with
  | nil => injection h with h; subst h; simp
  | cons y r ih =>
    unfold foldA at h
    rw [List.foldl_cons] at h
    cases hy : addV y p with
    | none =>
      have := foldA_none [y] r p (by unfold foldA; simp [hy])
      unfold foldA at this
      rw [List.singleton_append, List.foldl_cons] at this
      rw [this] at h; cases h
    | some p1 =>
      have h2 : foldA r p1 = some q := by
        unfold foldA
        rw [← hy]; exact h
      have k1 := hl y List.mem_cons_self p p1 hy
      have k2 := ih (fun z hz => hl z (List.mem_cons_of_mem _ hz)) p1 h2
      simp only [List.map_cons, List.sum_cons]
      omega
theorem addV_len (x : Nx) : ∀ p q, addV x p = some q → q.cs.length ≤ p.cs.length + x.count ∧ q.code.length = p.code.length + x.count := by
  induction x using Rose.ind with
  | h l args ih =>
    intro p q h
    rw [addV_eq] at h
    have e1 : (Rose.mk l args).lab = l := rfl
    have e2 : (Rose.mk l args).args = args := rfl
    rw [e1, e2] at h
    by_cases hb : (insV l args.length p).2.2 = true
    · rw [if_pos hb] at h
      cases hf : foldA args (insV l args.length p).1 with
      | none => rw [hf] at h; cases h
      | some r =>
        rw [hf] at h
        simp only [Option.map_some, Option.some.injEq] at h
        have h1 := foldA_len ih _ r hf
        have h2 := insV_len l args.length p
        have h3 : (Rose.mk l args).count = 1 + (args.map Rose.count).sum := Rose.count_eq _
        subst h
        simp only [List.length_append, List.length_singleton]
        rw [h2.2] at h1
        omega
    · rw [if_neg hb] at h; cases h
/-- What add comes to. -/
def RetAdd (lo : Nat) (W : World) (B M : Nat) (cv iv : Value) (r : Option Pg) (e : Ending) (W' : World) : Prop :=
  ∃ cv' iv', WrOut B M W cv iv W' cv' iv' ∧ ((r = none ∧ e = .returned (.bool false)) ∨ ∃ q, r = some q ∧ e = .returned (.bool true) ∧ WrIn lo W' B M q cv' iv')

/-- An instruction is appended to the code, and the row stored in the writer. -/
theorem add_end {lo B M : Nat} {W w5 : World} {p : Pg} {cv iv v5 : Value} {x : Ins} {o : Obj} (h : WrIn lo W B M p cv iv) (hown : w5.ownsRow lo 63 2 v5 (p.code.length + 1) (cellsIn p.code ++ insC x)) (hc : Chg iv.ownBlock.toList (W.drew.alloc o) w5)
    (hf : v5.ownBlock = iv.ownBlock ∨ ∀ g, v5.ownBlock = some g → W.drew.heap.size < g) :
    Blk w5 B 62 #[cv, iv, .map (some M)] ∧ WrIn lo (w5.setCell ⟨B, 1, none⟩ v5) B M ⟨p.cs, p.code ++ [x]⟩ cv v5 ∧ WrOut B M W cv iv (w5.setCell ⟨B, 1, none⟩ v5) cv v5 := by
  have hBM : B ≠ M := fun e => h.map.ne_blk h.box e.symm
  have hBI : iv.ownBlock ≠ some B := own_ne h.irow h.box (by decide)
  have hMI : iv.ownBlock ≠ some M := own_ne_map h.irow h.map
  have hBC : cv.ownBlock ≠ some B := own_ne h.crow h.box (by decide)
  have hcB : ∀ b, b < W.heap.size → iv.ownBlock ≠ some b → w5.heap[b]? = W.heap[b]? := fun b hb hn =>
    (hc.block b (by show b < (W.drew.alloc _).heap.size; have : W.drew.heap.size = W.heap.size := rfl; simp; omega) (by rw [Option.mem_toList]; exact hn)).trans (Below.heap_alloc W.drew _ b hb)
  have hbox : Blk w5 B 62 #[cv, iv, .map (some M)] := (hcB B h.box.lt hBI).trans h.box
  have hset : ∀ b, b ≠ B → (w5.setCell ⟨B, 1, none⟩ v5).heap[b]? = w5.heap[b]? := fun b hb => Below.heap_setCell w5 ⟨B, 1, none⟩ _ b hb
  refine ⟨hbox, ⟨hbox.set_ 1 _, ?_, ?_, ?_, h.loB, h.loM⟩, ⟨?_, .inl rfl, ?_⟩⟩
  · exact h.map.keep ((hset M (fun e => hBM e.symm)).trans (hcB M h.map.lt hMI))
  · exact own_keep h.crow fun g hg => (hset g (fun e => hBC (by rw [hg, e]))).trans (hcB g (own_lt h.crow hg) (own_own h.irow h.crow (by decide) hg))
  · show (w5.setCell ⟨B, 1, none⟩ v5).ownsRow lo _ 2 v5 (p.code ++ [x]).length (cellsIn (p.code ++ [x]))
    rw [cellsIn_snoc, List.length_append]
    exact own_keep hown fun g hg => hset g (fun e => own_ne hown hbox (by decide) (by rw [hg, e]))
  · have h1 : Chg (footW B M cv iv) W (W.drew.alloc o) := ((Chg.refl _ W).drew).alloc _
    exact (h1.trans (hc.sub (fun b hb => by unfold footW; simp [hb]))).setCell (.inl (by unfold footW; simp)) _
  · rcases hf with hf | hf
    · exact .inl hf
    · exact .inr fun g hg => by have h1 := hf g hg; have h2 : W.drew.heap.size = W.heap.size := rfl; omega

set_option maxHeartbeats 16000000 in
theorem add_is (lo B M : Nat) : ∀ (n : Nat) (x : NM) (W : World) (p : Pg) (cv iv : Value), NdAt lo W n x → WrIn lo W B M p cv iv → p.cs.length + x.t.count ≤ 1000000 → p.code.length + x.t.count ≤ 1000000 →
    Calls Try.prog 26 #[.pointer (some ⟨B, 0, none⟩), x.nv] W (RetAdd lo W B M cv iv (addV x.t p))
  | 0, _, _, _, _, _, h, _, _, _ => h.elim
  | n + 1, ⟨t, a, cap⟩, W, p, cv, iv, h, hw, hlc, hli => by
    rw [NM.nv_eq]
    obtain ⟨i0, hi, hz0, hz1, hz2⟩ := info_parts info_in
    have HA := Lib.hid h
    have hax := h.fair.2.1
    have hcx := h.fair.2.2
    have HWr := Lib.hid hw
    have HEq := Lib.hid (addV_eq t p)
    simp only at hax hcx hlc hli HEq ⊢
    obtain ⟨m, hm⟩ : ∃ m, t.args.length = m := ⟨_, rfl⟩
    have HM := Lib.hid hm
    rw [hm] at hax HEq ⊢
    have HLc := Lib.hid hlc
    have HLi := Lib.hid hli
    have HIL := Lib.hid (insV_len t.lab m p)
    have IH : Hid (∀ (y : NM) (V : World) (p' : Pg) (cv' iv' : Value), NdAt lo V n y → WrIn lo V B M p' cv' iv' → p'.cs.length + y.t.count ≤ 1000000 → p'.code.length + y.t.count ≤ 1000000 → Calls Try.prog 26 #[.pointer (some ⟨B, 0, none⟩), .agg #[.int .i64 y.t.lab.kd, .string y.t.lab.op, .int .u8 y.t.lab.v.k, .int .i64 y.t.lab.v.n, .string y.t.lab.v.s, .int .i64 y.t.lab.sl, .int .u8 (y.t.lab.ty : Int), .slice y.a y.t.args.length y.cap]] V (RetAdd lo V B M cv' iv' (addV y.t p'))) := fun y V p' cv' iv' h1 h2 h3 h4 => by
      have := add_is lo B M n y V p' cv' iv' h1 h2 h3 h4
      rw [NM.nv_eq] at this; exact this
    obtain ⟨w0, hw0⟩ : ∃ w0, W.alloc (.cells #[.int .i64 t.lab.kd, .string t.lab.op, .int .u8 t.lab.v.k, .int .i64 t.lab.v.n, .string t.lab.v.s, .int .i64 t.lab.sl, .int .u8 (t.lab.ty : Int), .slice a m cap] 26) = w0 := ⟨_, rfl⟩
    have hBx : Blk w0 W.heap.size 26 #[.int .i64 t.lab.kd, .string t.lab.op, .int .u8 t.lab.v.k, .int .i64 t.lab.v.n, .string t.lab.v.s, .int .i64 t.lab.sl, .int .u8 (t.lab.ty : Int), .slice a m cap] := by rw [← hw0]; exact Blk.new W _ _
    have hb0 : Below W.heap.size W w0 := by rw [← hw0]; exact (Below.refl _ W).alloc (Nat.le_refl _) _
    have HBx := Lib.hid hBx
    have HB0 := Lib.hid hb0
    have hcp : p.cs.length ≤ 1000000 := by omega
    have HY := Lib.hid (instr_any lo B M p cv iv t.lab a m cap w0 (hw.keep hb0) hcp)
    obtain ⟨⟨q, x, b⟩, hr⟩ : ∃ r, insV t.lab m p = r := ⟨_, rfl⟩
    rw [hr] at HY HEq HIL
    simp only at HEq HIL
    replace HY : Hid (Calls Try.prog 36 #[.pointer (some ⟨B, 0, none⟩), .agg #[.int .i64 t.lab.kd, .string t.lab.op, .int .u8 (t.lab.v.k : Int), .int .i64 t.lab.v.n, .string t.lab.v.s, .int .i64 t.lab.sl, .int .u8 (t.lab.ty : Int), .slice a m cap]] w0 fun e W' => e = .returned (.tuple #[.agg #[.int .i64 x.op, .int .i64 x.ag], .bool b]) ∧ ∃ cv', WrIn lo W' B M q cv' iv ∧ WrOut B M w0 cv iv W' cv' iv) := HY.out
    have c0 := (hBx.cell 0).trans rfl
    have c1 := (hBx.cell 1).trans rfl
    have c2 := (hBx.cell 2).trans rfl
    have c3 := (hBx.cell 3).trans rfl
    have c4 := (hBx.cell 4).trans rfl
    have c5 := (hBx.cell 5).trans rfl
    have c6 := (hBx.cell 6).trans rfl
    have c7 := (hBx.cell 7).trans rfl
    clear h hw hlc hli hm hBx hb0 hcp hr
    go_enter Try.func26, Try.ntmps26
    go_wp2_with fail
    refine HY.out.mono ?_
    rintro e w2 ⟨rfl, cv2, hI2, hO2⟩
    have hO2W : WrOut B M W cv iv w2 cv2 iv := (WrOut.refl B M cv iv HB0.out).trans hO2
    clear c0 c1 c2 c3 c4 c5 c6 c7 HY hw0
    have hBx2 : Blk w2 W.heap.size 26 #[.int .i64 t.lab.kd, .string t.lab.op, .int .u8 t.lab.v.k, .int .i64 t.lab.v.n, .string t.lab.v.s, .int .i64 t.lab.sl, .int .u8 (t.lab.ty : Int), .slice a m cap] := by
      have h1 := HWr.out.box.lt
      have h2 := HWr.out.map.lt
      refine (hO2.keepB HBx.out.lt (by omega) (by omega) (fun e => ?_) (fun e => ?_)).trans HBx.out
      · have := own_lt HWr.out.crow e; omega
      · have := own_lt HWr.out.irow e; omega
    obtain ⟨w3, hw3⟩ : ∃ w3, w2.alloc (.cells #[.int .i64 x.op, .int .i64 x.ag] 63) = w3 := ⟨_, rfl⟩
    have hb3 : Below w2.heap.size w2 w3 := by rw [← hw3]; exact (Below.refl _ w2).alloc (Nat.le_refl _) _
    have HI3 := Lib.hid (hI2.keep hb3)
    have HO3 : Hid (WrOut B M W cv iv w3 cv2 iv) := hO2W.trans (WrOut.refl B M cv2 iv hb3)
    have HBx3 : Hid (Blk w3 W.heap.size 26 #[.int .i64 t.lab.kd, .string t.lab.op, .int .u8 t.lab.v.k, .int .i64 t.lab.v.n, .string t.lab.v.s, .int .i64 t.lab.sl, .int .u8 (t.lab.ty : Int), .slice a m cap]) := (hb3.block _ hBx2.lt).trans hBx2
    have HX3 : Hid (Blk w3 w2.heap.size 63 #[.int .i64 x.op, .int .i64 x.ag]) := by rw [← hw3]; exact Blk.new w2 _ _
    have HIvl : Hid (∀ g, iv.ownBlock = some g → g < W.heap.size) := fun g hg => own_lt HWr.out.irow hg
    have hsz2 : W.heap.size ≤ w2.heap.size := hO2W.chg.size
    have HSz2 := Lib.hid hsz2
    have HB2l : Hid (B < w2.heap.size ∧ M < w2.heap.size) := ⟨hI2.box.lt, hI2.map.lt⟩
    have d7 := (HBx3.out.cell 7).trans rfl
    clear hI2 hO2 hO2W hBx2 hb3 hsz2
    cases b with
    | false =>
      have HR : Hid (RetAdd lo W B M cv iv (addV t p) (.returned (.bool false)) w3) := ⟨cv2, iv, HO3.out, .inl ⟨by rw [HEq.out]; rfl, rfl⟩⟩
      clear IH HA HI3 HO3 d7
      go_wp2
      go_ret
      exact HR.out
    | true =>
      have HEq2 : Hid (addV t p = (foldA t.args q).map fun r => ⟨r.cs, r.code ++ [x]⟩) := by show addV t p = _; rw [HEq.out]; rfl
      clear HEq
      go_wp2
      clear d7
      go_loopw [20] (fun iv2 wr => ∃ (k : Nat) (p' : Pg) (cv' iv' : Value), k ≤ m ∧ iv2 = .int .i64 (k : Int) ∧ Hid (foldA (t.args.take k) q = some p') ∧ Hid (WrIn lo wr B M p' cv' iv') ∧ Hid (WrOut B M w3 cv2 iv wr cv' iv')) (fun iv2 _ => m - (intOf iv2).toNat)
      case atStart => exact ⟨0, q, cv2, iv, by omega, rfl, rfl, HI3.out, WrOut.refl B M cv2 iv (Below.refl _ _)⟩
      case round =>
        obtain ⟨k, p', cv', iv', hk, rfl, HF, HI, HO⟩ := hrel
        have HOW : Hid (WrOut B M W cv iv wr cv' iv') := HO3.out.trans HO.out
        by_cases hlt : k < m
        · have hkl : k < t.args.length := by rw [HM.out]; exact hlt
          obtain ⟨y, hy, hAy, b, o, hab, hbN, hKid⟩ := (HA.out.below (HOW.out.below HWr.out)).kid8 (k := k) hkl
          simp only at hab hy
          subst hab
          obtain ⟨y0, y1, y2, y3, y4, y5, y6, y7⟩ := hKid
          have hlen := foldA_len (fun z _ => addV_len z) q p' HF.out
          have hsum := sumN_take_succ hkl
          have hsle := sumN_take_le t.args (k + 1)
          have hcnt := t.count_eq
          have hil := HIL.out
          have hlc := HLc.out
          have hli := HLi.out
          have hb1 : Below wr.heap.size wr (wr.alloc (.cells #[.int .i64 y.t.lab.kd, .string y.t.lab.op, .int .u8 y.t.lab.v.k, .int .i64 y.t.lab.v.n, .string y.t.lab.v.s, .int .i64 y.t.lab.sl, .int .u8 (y.t.lab.ty : Int), .slice y.a y.t.args.length y.cap] 26)) := (Below.refl _ wr).alloc (Nat.le_refl _) _
          have hlow : lo ≤ wr.heap.size := Nat.le_trans HI.out.loB (Nat.le_of_lt HI.out.box.lt)
          rw [hil.2] at hlen
          have HY2 := Lib.hid (IH.out y _ p' cv' iv' (hAy.below (hb1.mono hlow)) (HI.out.keep hb1) (by rw [hy]; omega) (by rw [hy]; omega))
          have HTk : Hid (foldA (t.args.take (k + 1)) q = addV y.t p') := by
            rw [List.take_succ_eq_append_getElem hkl, foldA_snoc, HF.out, ← hy]; exact rfl
          have HTn : Hid (addV y.t p' = none → addV t p = none) := fun hno => by
            have hc : t.args = t.args.take (k + 1) ++ t.args.drop (k + 1) := (List.take_append_drop _ _).symm
            have : foldA t.args q = none := by rw [hc]; exact foldA_none _ _ _ (HTk.out.trans hno)
            rw [HEq2.out, this]; rfl
          have HB1' := Lib.hid hb1
          clear hy hAy hb1 hlow hkl hlen hsum hsle hcnt hil hlc hli HA IH hbN
          go_wp2_with fail
          refine HY2.out.mono ?_
          rintro e w5 ⟨cv5, iv5, hO5, ⟨hno, rfl⟩ | ⟨r5, hr5, rfl, hI5⟩⟩
          · have HR : Hid (RetAdd lo W B M cv iv (addV t p) (.returned (.bool false)) w5) := ⟨cv5, iv5, HOW.out.trans ((WrOut.refl B M cv' iv' HB1'.out).trans hO5), .inl ⟨HTn.out hno, rfl⟩⟩
            clear hO5 hno HY2 y0 y1 y2 y3 y4 y5 y6 y7
            go_wp2
            go_ret
            exact HR.out
          · have HI5 := Lib.hid hI5
            have HO5 : Hid (WrOut B M w3 cv2 iv w5 cv5 iv5) := HO.out.trans ((WrOut.refl B M cv' iv' HB1'.out).trans hO5)
            have HF5 : Hid (foldA (t.args.take (k + 1)) q = some r5) := HTk.out.trans hr5
            clear hI5 hO5 hr5 HY2 y0 y1 y2 y3 y4 y5 y6 y7
            go_wp2
            go_roundw
            case rel => exact ⟨k + 1, r5, cv5, iv5, by omega, by go_num, HF5.out, HI5.out, HO5.out⟩
            case measure => simp [intOf]; omega
        · have HFe : Hid (foldA t.args q = some p') := by
            have := HF.out
            rwa [show k = m by omega, ← HM.out, List.take_length] at this
          obtain ⟨g, hg⟩ : ∃ g, p'.code.length = g := ⟨_, rfl⟩
          have HG := Lib.hid hg
          obtain ⟨ai, ci, hiv, hci, -, -⟩ := own_slice HI.out.irow
          rw [hg] at hiv
          have HIv := Lib.hid hiv
          obtain ⟨S, hS⟩ : ∃ S, iv'.ownBlock.toList = S := ⟨_, rfl⟩
          have HSS := Lib.hid hS
          have hgb : g ≤ 1000000 := by
            have h1 := foldA_len (fun z _ => addV_len z) q p' HFe.out
            have h2 := HIL.out
            have h3 := HLi.out
            have h4 := t.count_eq
            rw [h2.2] at h1
            omega
          have hX : Blk wr w2.heap.size 63 #[.int .i64 x.op, .int .i64 x.ag] := by
            have h1 := HB2l.out
            refine (HO.out.keepB HX3.out.lt (by omega) (by omega) (own_ne HI3.out.crow HX3.out (by decide)) (fun e => ?_)).trans HX3.out
            have := HIvl.out _ e
            have := HSz2.out
            omega
          have hXne : iv'.ownBlock ≠ some w2.heap.size := fun e => by
            rcases HO.out.oi with ho | ho
            · rw [ho] at e
              have h1 := HIvl.out _ e
              have := HSz2.out
              omega
            · have h1 := ho _ e
              have h2 := HX3.out.lt
              omega
          have hBI : iv'.ownBlock ≠ some B := own_ne HI.out.irow HI.out.box (by decide)
          have hrow : wr.drew.ownsRow lo 63 2 (.slice ai g ci) g (cellsIn p'.code) := by
            have := HI.out.irow
            rw [hg] at this
            rw [← hiv]; exact this
          have HRow := Lib.hid hrow
          have f1 : ∀ V, Chg S wr.drew V → V.cell? ⟨B, 1, none⟩ = some (.slice ai g ci) := fun V hV => (hV.cell (b := B) HI.out.box.lt (fun hm => hBI (by rw [← HSS.out, Option.mem_toList] at hm; exact hm))).trans (by rw [← HIv.out]; exact (HI.out.box.cell 1).trans rfl)
          have e0 : ∀ V, Chg S wr.drew V → V.cell? ⟨w2.heap.size, 0, none⟩ = some (.int .i64 x.op) := fun V hV => (hV.cell (b := w2.heap.size) hX.lt (fun hm => hXne (by rw [← HSS.out, Option.mem_toList] at hm; exact hm))).trans ((hX.cell 0).trans rfl)
          have e1 : ∀ V, Chg S wr.drew V → V.cell? ⟨w2.heap.size, 1, none⟩ = some (.int .i64 x.ag) := fun V hV => (hV.cell (b := w2.heap.size) hX.lt (fun hm => hXne (by rw [← HSS.out, Option.mem_toList] at hm; exact hm))).trans ((hX.cell 1).trans rfl)
          clear hg hiv hS hX hXne hBI hrow IH HA
          go_wp2_with fail
          refine wp_region_ordX S 12 [(0, true), (1, true), (2, true), (3, true), (4, true), (5, true), (6, true), (7, false), (8, false), (9, true), (10, true), (11, true)] (by kernel_rfl) (by kernel_rfl) (by kernel_rfl) (by kernel_rfl) ?_
          repeat (first | (refine wpOX_F (v := ?_) rfl (by rfl) (fun w' hL => ?_) ?_; rotate_left; (solve | (go_simp; with_reducible rfl) | go_simp); try simp only [Act.put, List.setIfInBounds_toArray, List.set_cons_zero, List.set_cons_succ]) | (refine wpOX_G (Chg.refl _) rfl (by rfl) ?_; try simp only [Act.put, List.setIfInBounds_toArray, List.set_cons_zero, List.set_cons_succ]))
          refine wpOX_C rfl (by rfl) ?_
          go_simp
          refine ⟨(Chg.refl _ _).alloc _, ?_⟩
          try simp only [Act.put, List.setIfInBounds_toArray, List.set_cons_zero, List.set_cons_succ]
          refine wpOX_C rfl (by rfl) ?_
          refine wp_appF (.tmp 34) (.tmp 36) 34 rfl lo 63 i0 (.agg #[.int .i64 0, .int .i64 0]) 2 16 1 Try.underlying34 hi hz0 rfl hz1 (by omega) hz2 (by omega) (.slice ai g ci) g _ (insC x) wr.drew HRow.out rfl _ rfl rfl (by intro u hu; simp [insC] at hu; rcases hu with rfl | rfl <;> rfl) rfl (by omega) (Nat.le_trans HI.out.loB (Nat.le_of_lt HI.out.box.lt)) ?_
          intro v5 w5 hown5 hc5 hsz5 hf5
          refine ⟨by rw [← HIv.out, HSS.out] at hc5; exact hc5, ?_⟩
          try simp only [Act.put, List.setIfInBounds_toArray, List.set_cons_zero, List.set_cons_succ]
          obtain ⟨a5, c5, hv5, -, -, -⟩ := own_slice hown5
          rw [← HIv.out] at hc5
          have hf5' : v5.ownBlock = iv'.ownBlock ∨ ∀ g, v5.ownBlock = some g → wr.drew.heap.size < g := by rw [HIv.out]; exact hf5
          have hown5' : w5.ownsRow lo 63 2 v5 (p'.code.length + 1) (cellsIn p'.code ++ insC x) := by rw [HG.out]; exact hown5
          obtain ⟨hbox5, hWI, hWO⟩ := add_end HI.out hown5' hc5 hf5'
          have p1 := ((hbox5.cell 1).trans rfl : w5.cell? ⟨B, 1, none⟩ = some iv')
          rw [HIv.out] at p1
          have pf := hbox5.frozen 1
          have pl := hbox5.lt
          have HE : Hid (RetAdd lo W B M cv iv (addV t p) (.returned (.bool true)) (w5.setCell ⟨B, 1, none⟩ v5)) := ⟨cv', v5, HOW.out.trans hWO, .inr ⟨_, by rw [HEq2.out, HFe.out]; rfl, rfl, hWI⟩⟩
          subst hv5
          clear hown5 hc5 hsz5 hf5 hf5' hown5' hbox5 hWI hWO HRow
          repeat (first | (refine wpOX_F (v := ?_) rfl (by rfl) (fun w' hL => ?_) ?_; rotate_left; (solve | (go_simp; with_reducible rfl) | go_simp); try simp only [Act.put, List.setIfInBounds_toArray, List.set_cons_zero, List.set_cons_succ]) | (refine wpOX_G (Chg.refl _) rfl (by rfl) ?_; try simp only [Act.put, List.setIfInBounds_toArray, List.set_cons_zero, List.set_cons_succ]))
          refine wpOX_end rfl (by rfl) ?_
          go_simp
          simp only [NoPanic]
          clear f1 e0 e1 p1 pf pl
          generalize w5.setCell ⟨B, 1, none⟩ (.slice a5 (g + 1) c5) = w6 at *
          go_wp2
          go_ret
          exact HE.out
end Go.Proofs.Ytapbhhehnbfdfaa
