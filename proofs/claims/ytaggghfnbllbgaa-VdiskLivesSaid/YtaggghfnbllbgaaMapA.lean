/- Maps whose keys and elements are arrays of integers. -/
import Derived.Test.YtaggghfnbllbgaaFoot
import Derived.ChangeKeysEq
import Derived.MapKept
namespace Go.Proofs.Ytaggghfnbllbgaa
open Go.RowKit

/-- An array of integers of kind k, by value. -/
def arrN (k : IntKind) (l : List Nat) : Value := .agg (l.map fun (c : Nat) => Value.int k (c : Int)).toArray

theorem run_part_arr {P : Program} {e : TypeId} {k : IntKind} (he : P.underlying e = some (.int k)) (l : List Nat) (i : Nat) (x : Nat) (hi : l[i]? = some x) (w : World) :
    (part e (l.map fun (c : Nat) => Value.int k (c : Int)).toArray i).run P w = .ok (.int k (x : Int)) w := by
  simp [part, isAgg, run_underlying he, hi]

theorem run_eqItems_arr {P : Program} {e : TypeId} {k : IntKind} (he : P.underlying e = some (.int k)) (hc : P.cellsOf e = 1) (d : Nat) (w : World) :
    ∀ (xs ys px py : List Nat), xs.length = ys.length → px.length = py.length →
    (Op.eqItems (d + 1) e (P.cellsOf e) ((px ++ xs).map fun (c : Nat) => Value.int k (c : Int)).toArray ((py ++ ys).map fun (c : Nat) => Value.int k (c : Int)).toArray (List.range' px.length xs.length)).run P w = .ok (xs == ys) w
  | [], [], _, _, _, _ => by simp [Op.eqItems]
  | [], y :: ys, _, _, h, _ => by simp at h
  | x :: xs, [], _, _, h, _ => by simp at h
  | x :: xs, y :: ys, px, py, h, hp => by
    have ih := run_eqItems_arr he hc d w xs ys (px ++ [x]) (py ++ [y]) (by simpa using h) (by simp [hp])
    rw [List.append_assoc, List.append_assoc, List.singleton_append, List.singleton_append, List.length_append, List.length_singleton] at ih
    rw [List.length_cons, List.range'_succ]
    have p1 := run_part_arr he (px ++ x :: xs) px.length x (by simp) w
    have p2 := run_part_arr he (py ++ y :: ys) px.length y (by rw [hp]; simp) w
    have p3 := run_equalIn_int (P := P) w d e k k (x : Int) (y : Int) he
    simp only [Op.eqItems, hc, Nat.mul_one, Sem.run_bind, p1, p2, p3, Result.andThen_ok]
    rw [hc] at ih
    by_cases hxy : x = y
    · subst hxy
      simp only [beq_self_eq_true, Bool.not_true, Bool.false_eq_true, if_false]
      rw [ih]
      simp
    · have e1 : ((x : Int) == (y : Int)) = false := by simp; omega
      have e2 : (x :: xs == y :: ys) = false := by simp [hxy]
      rw [e1, e2]
      simp

/-- Two arrays are the same. -/
theorem run_equalIn_arrN {P : Program} {t e : TypeId} {k : IntKind} {n : Nat} (ht : P.underlying t = some (.array n e)) (he : P.underlying e = some (.int k)) (hc : P.cellsOf e = 1)
    (d : Nat) (xs ys : List Nat) (hx : xs.length = n) (hy : ys.length = n) (w : World) : (Op.equalIn (d + 2) t (arrN k xs) (arrN k ys)).run P w = .ok (xs == ys) w := by
  obtain ⟨i, hi⟩ := info_of_underlying he
  unfold arrN
  rw [run_equalIn_array w (d + 1) _ _ ht hi, List.range_eq_range']
  have := run_eqItems_arr he hc d w xs ys [] [] (by omega) rfl
  simpa [hx] using this

theorem run_equal_arrN {P : Program} {t e : TypeId} {k : IntKind} {n : Nat} (ht : P.underlying t = some (.array n e)) (he : P.underlying e = some (.int k)) (hc : P.cellsOf e = 1)
    (xs ys : List Nat) (hx : xs.length = n) (hy : ys.length = n) (w : World) : (Op.equal t (arrN k xs) (arrN k ys)).run P w = .ok (xs == ys) w :=
  run_equalIn_arrN ht he hc 9998 xs ys hx hy w

/-- What an association list has at a key. -/
def alGet : List (List Nat × List Nat) → List Nat → Option (List Nat)
  | [], _ => none
  | p :: r, x => if p.1 == x then some p.2 else alGet r x
/-- The list with v at key x. -/
def alPut : List (List Nat × List Nat) → List Nat → List Nat → List (List Nat × List Nat)
  | [], x, v => [(x, v)]
  | p :: r, x, v => if p.1 == x then (x, v) :: r else p :: alPut r x v
theorem alGet_put : ∀ (l : List (List Nat × List Nat)) (x v y : List Nat), alGet (alPut l x v) y = if x == y then some v else alGet l y
  | [], x, v, y => by simp [alGet, alPut]
  | p :: r, x, v, y => by
    unfold alPut
    by_cases h : p.1 == x
    · rw [if_pos h]
      simp only [alGet]
      by_cases h2 : x == y
      · simp [h2]
      · have h3 : (p.1 == y) = false := by
          rw [eq_of_beq h]
          simpa using h2
        simp [h2, h3]
    · rw [if_neg h]
      simp only [alGet, alGet_put r x v y]
      by_cases h2 : p.1 == y
      · have h3 : (x == y) = false := by
          rw [← eq_of_beq h2]
          simp only [beq_eq_false_iff_ne, ne_eq]
          intro e
          subst e
          simp at h
        simp [h2, h3]
      · simp [h2]
/-- Where the key is. -/
def alFind : List (List Nat × List Nat) → List Nat → Nat → Option (Nat × List Nat)
  | [], _, _ => none
  | p :: r, x, i => if p.1 == x then some (i, p.2) else alFind r x (i + 1)
theorem alFind_get : ∀ (l : List (List Nat × List Nat)) (x : List Nat) (i : Nat), (alFind l x i).map (·.2) = alGet l x
  | [], _, _ => rfl
  | p :: r, x, i => by
    unfold alFind alGet
    split
    · rfl
    · exact alFind_get r x (i + 1)

/-- The entries of a map of arrays. -/
def EntsA (k kv : IntKind) (n : Nat) (es : List MapEntry) (al : List (List Nat × List Nat)) : Prop :=
  es.map (fun e => (e.key, e.val)) = al.map (fun p => (arrN k p.1, arrN kv p.2)) ∧ ∀ p ∈ al, p.1.length = n

theorem run_findAsking_arr {P : Program} {t e : TypeId} {k kv : IntKind} {n : Nat} (ht : P.underlying t = some (.array n e)) (he : P.underlying e = some (.int k)) (hc : P.cellsOf e = 1) (x : List Nat) (hx : x.length = n) (w : World) :
    ∀ (es : List MapEntry) (al : List (List Nat × List Nat)) (i : Nat), EntsA k kv n es al → (Instr.findAsking t (arrN k x) es i).run P w = .ok ((alFind al x i).map fun p => (p.1, arrN kv p.2)) w
  | [], [], _, _ => by simp [Instr.findAsking, alFind]
  | [], p :: al, _, h => by simp [EntsA] at h
  | m :: es, [], _, h => by simp [EntsA] at h
  | m :: es, p :: al, i, h => by
    obtain ⟨h1, h2⟩ := h
    simp only [List.map_cons, List.cons.injEq, Prod.mk.injEq] at h1
    have ih := run_findAsking_arr ht he hc x hx w es al (i + 1) ⟨h1.2, fun q hq => h2 q (by simp [hq])⟩
    have heq := run_equal_arrN ht he hc x p.1 hx (h2 p (by simp)) w
    unfold Instr.findAsking alFind
    simp only [Sem.run_bind, h1.1.1, heq, Result.andThen_ok]
    by_cases hxp : p.1 == x
    · have e1 := eq_of_beq hxp
      have : (x == p.1) = true := by rw [e1]; simp
      rw [if_pos hxp, this]
      simp [h1.1.2]
    · have : (x == p.1) = false := by
        simp only [beq_eq_false_iff_ne, ne_eq]
        intro e2
        subst e2
        simp at hxp
      rw [if_neg hxp, this]
      simpa using ih

theorem run_findKey_arr {P : Program} {t e : TypeId} {k kv : IntKind} {n : Nat} (ht : P.underlying t = some (.array n e)) (he : P.underlying e = some (.int k)) (hc : P.cellsOf e = 1) (x : List Nat) (hx : x.length = n) (w : World)
    (es : List MapEntry) (al : List (List Nat × List Nat)) (h : EntsA k kv n es al) : (Instr.findKey t (arrN k x) es).run P w = .ok ((alFind al x 0).map fun p => (p.1, arrN kv p.2)) w := by
  have hA := run_findAsking_arr ht he hc x hx w es al 0 h
  unfold Instr.findKey
  simp only [Sem.run_bind, run_underlying ht, Result.andThen_ok]
  cases es with
  | nil =>
    simp only [Instr.findNow]
    cases al with
    | nil => simp [alFind]
    | cons p al => simp [EntsA] at h
  | cons m es => simpa [Instr.findNow, Instr.sameNow] using hA

theorem run_checkKey_arr {P : Program} {t e : TypeId} {k : IntKind} {n : Nat} (ht : P.underlying t = some (.array n e)) (he : P.underlying e = some (.int k)) (hc : P.cellsOf e = 1) (x : List Nat) (hx : x.length = n) (w : World) (em : Bool) :
    (Instr.checkKey em 10000 t (arrN k x)).run P w = .ok () w := by
  obtain ⟨i, hi⟩ := info_of_underlying he
  unfold Instr.checkKey
  simp only [Sem.run_bind, run_underlying ht, Result.andThen_ok, arrN]
  simp only [Std.Legacy.Range.forIn_eq_forIn_range', Std.Legacy.Range.size, Nat.sub_zero, Nat.add_one_sub_one, Nat.div_one]
  have key : ∀ (is : List Nat), (∀ j ∈ is, j < n) → (forIn is PUnit.unit fun i (_ : PUnit) => do
      let n ← Go.sizeOf e
      let v ← part e (x.map fun (c : Nat) => Value.int k (c : Int)).toArray (i * n)
      Instr.checkKey em 9999 e v
      pure (ForInStep.yield PUnit.unit) : Sem PUnit).run P w = .ok PUnit.unit w := by
    intro is
    induction is with
    | nil => intro _; simp
    | cons j is ih =>
      intro hj
      have hjn : j < x.length := by have := hj j (by simp); omega
      simp only [List.forIn_cons, Sem.run_bind, run_sizeOf w hi, Result.andThen_ok, hc, Nat.mul_one]
      rw [run_part_arr he x j x[j] (List.getElem?_eq_getElem hjn)]
      simp only [Result.andThen_ok]
      rw [Go.MapKept.run_checkKey (d := .int k) he (k := .int k (x[j] : Int)) (by simp [Go.MapKept.IsKey]) em 9998]
      simp only [Result.andThen_ok, Sem.run_pure]
      exact ih (fun i hi => hj i (by simp [hi]))
  have := key (List.range' 0 n) (fun j hj => by simp [List.mem_range'] at hj; omega)
  simp only [bind_pure_comp] at this
  simp only [bind_pure_comp]
  rw [this]
  rfl

/-- Block g is a map of arrays: at key x it has g x. -/
def MapA (k kv : IntKind) (n : Nat) (w : World) (b : Nat) (g : List Nat → Option (List Nat)) : Prop :=
  ∃ (es : Array MapEntry) (clk : Nat) (al : List (List Nat × List Nat)), MapB w b es clk ∧ EntsA k kv n es.toList al ∧ ∀ x, alGet al x = g x

theorem MapA.chg {k kv : IntKind} {n : Nat} {w w' : World} {b : Nat} {g : List Nat → Option (List Nat)} {S : List Nat} (h : MapA k kv n w b g) (hc : Chg S w w') (hn : b ∉ S) : MapA k kv n w' b g := by
  obtain ⟨es, clk, al, h1, h2⟩ := h
  exact ⟨es, clk, al, h1.chg hc hn, h2⟩
theorem MapA.lt {k kv : IntKind} {n : Nat} {w : World} {b : Nat} {g : List Nat → Option (List Nat)} (h : MapA k kv n w b g) : b < w.heap.size := by
  obtain ⟨es, clk, al, h1, h2⟩ := h
  exact h1.lt
theorem MapA.setCell {k kv : IntKind} {n : Nat} {w : World} {b : Nat} {g : List Nat → Option (List Nat)} (h : MapA k kv n w b g) (c o : Nat) (u : Value) : MapA k kv n (w.setCell ⟨c, o, none⟩ u) b g := by
  obtain ⟨es, clk, al, h1, h2⟩ := h
  exact ⟨es, clk, al, h1.setCell u, h2⟩
theorem MapA.alloc {k kv : IntKind} {n : Nat} {w : World} {b : Nat} {g : List Nat → Option (List Nat)} (h : MapA k kv n w b g) (o : Obj) : MapA k kv n (w.alloc o) b g :=
  h.chg (S := []) ((Chg.refl _ _).alloc o) (by simp)
theorem MapA.drew {k kv : IntKind} {n : Nat} {w : World} {b : Nat} {g : List Nat → Option (List Nat)} (h : MapA k kv n w b g) : MapA k kv n w.drew b g := h
theorem MapA.ne_blk {k kv : IntKind} {n : Nat} {w : World} {b g' : Nat} {g : List Nat → Option (List Nat)} {t : TypeId} {cs : Array Value} (h : MapA k kv n w b g) (h' : Blk w g' t cs) : b ≠ g' := by
  obtain ⟨es, clk, al, h1, h2⟩ := h
  exact h1.ne_blk h'
theorem MapA.new (k kv : IntKind) (n : Nat) (w : World) : MapA k kv n (w.alloc (.map #[] 0)) w.heap.size fun _ => none :=
  ⟨#[], 0, [], heap_alloc_new w _, ⟨rfl, by simp⟩, fun _ => rfl⟩

/-- 'm[x]'. -/
theorem MapA.lookup {P : Program} {k kv : IntKind} {n : Nat} {w : World} {b : Nat} {g : List Nat → Option (List Nat)} (h : MapA k kv n w b g) {T t te e : TypeId} {z : Value} (hT : P.underlying T = some (.map t te)) (ht : P.underlying t = some (.array n e)) (he : P.underlying e = some (.int k)) (hc : P.cellsOf e = 1)
    (hz : ∀ W, (zeroValue te).run P W = .ok z W) (x : List Nat) (hx : x.length = n) : (Instr.lookup T (.map (some b)) (arrN k x) false).run P w = .ok (((g x).map (arrN kv)).getD z) w := by
  obtain ⟨es, clk, al, h1, h2, h3⟩ := h
  unfold Instr.lookup
  simp only [Sem.run_bind, run_underlying hT, Result.andThen_ok, Go.MapKept.run_getObj_map h1, Sem.run_pure, run_checkKey_arr ht he hc x hx, run_findKey_arr ht he hc x hx w _ al h2]
  rw [← h3 x, ← alFind_get al x 0]
  cases alFind al x 0 with
  | none => simp [hz]
  | some p => simp

theorem sameBits_arr (m : Nat) (k : IntKind) : ∀ x : List Nat, Instr.sameBits (m + 2) (arrN k x) (arrN k x) = true := by
  intro x
  unfold arrN Instr.sameBits
  simp only [beq_self_eq_true, Bool.true_and]
  rw [List.all_eq_true]
  intro p hp
  have : p.1 = p.2 ∧ ∃ c : Nat, p.1 = .int k (c : Int) := by
    have h1 : p ∈ (x.map fun (c : Nat) => Value.int k (c : Int)).zip (x.map fun (c : Nat) => Value.int k (c : Int)) := by simpa using hp
    rw [List.mem_iff_getElem] at h1
    obtain ⟨i, hi, rfl⟩ := h1
    exact ⟨by simp, x[i]'(by simpa using hi), by simp⟩
  obtain ⟨e1, c, e2⟩ := this
  rw [← e1, e2]
  simp [Instr.sameBits]

/-- 'm[x] = v'. -/
theorem MapA.update {P : Program} {k kv : IntKind} {n : Nat} {w : World} {b : Nat} {g : List Nat → Option (List Nat)} (h : MapA k kv n w b g) {T t te e : TypeId} (hT : P.underlying T = some (.map t te)) (ht : P.underlying t = some (.array n e)) (he : P.underlying e = some (.int k)) (hc : P.cellsOf e = 1)
    (x v : List Nat) (hx : x.length = n) : ∃ o, (Instr.mapUpdate T (.map (some b)) (arrN k x) (arrN kv v)).run P w = .ok () (putObj w b o) ∧ ∀ w', w'.heap[b]? = some o → MapA k kv n w' b fun y => if x == y then some v else g y := by
  obtain ⟨es, clk, al, h1, h2, h3⟩ := h
  have hfin : ∀ (es' : Array MapEntry) (clk' : Nat), EntsA k kv n es'.toList (alPut al x v) → ∀ w' : World, w'.heap[b]? = some (.map es' clk') → MapA k kv n w' b fun y => if x == y then some v else g y := by
    intro es' clk' he' w' hw'
    refine ⟨es', clk', _, hw', he', fun y => ?_⟩
    rw [alGet_put, h3]
  unfold Instr.mapUpdate
  simp only [Sem.run_bind, run_underlying hT, Result.andThen_ok, Go.MapKept.run_getObj_map h1, Sem.run_pure, run_checkKey_arr ht he hc x hx, run_findKey_arr ht he hc x hx w _ al h2]
  have hf : ∀ (es : List MapEntry) (al : List (List Nat × List Nat)) (i : Nat), EntsA k kv n es al →
      (alFind al x i = none ∧ (∀ m : MapEntry, m.key = arrN k x → m.val = arrN kv v → EntsA k kv n (es ++ [m]) (alPut al x v))) ∨
      (∃ j u m, alFind al x i = some (i + j, u) ∧ es[j]? = some m ∧ m.key = arrN k x ∧ (∀ m' : MapEntry, m'.key = arrN k x → m'.val = arrN kv v → EntsA k kv n (es.set j m') (alPut al x v))) := by
    intro es
    induction es with
    | nil =>
      intro al i h
      cases al with
      | cons p al => simp [EntsA] at h
      | nil => exact .inl ⟨rfl, fun m h1 h2 => ⟨by simp [alPut, h1, h2], by simp [alPut, hx]⟩⟩
    | cons m es ih =>
      intro al i h
      cases al with
      | nil => simp [EntsA] at h
      | cons p al =>
        obtain ⟨q1, q2⟩ := h
        simp only [List.map_cons, List.cons.injEq, Prod.mk.injEq] at q1
        have h' : EntsA k kv n es al := ⟨q1.2, fun q hq => q2 q (by simp [hq])⟩
        by_cases hxp : p.1 == x
        · right
          refine ⟨0, p.2, m, by simp [alFind, hxp], rfl, by rw [q1.1.1, eq_of_beq hxp], fun m' h1 h2 => ?_⟩
          unfold alPut
          rw [if_pos hxp]
          refine ⟨by simp [h1, h2, q1.2], fun q hq => ?_⟩
          rw [List.mem_cons] at hq
          rcases hq with rfl | hq
          · exact hx
          · exact q2 q (by simp [hq])
        · have e2 : alFind (p :: al) x i = alFind al x (i + 1) := by simp [alFind, hxp]
          have e3 : alPut (p :: al) x v = p :: alPut al x v := by simp [alPut, hxp]
          rw [e2, e3]
          rcases ih al (i + 1) h' with ⟨g1, g2⟩ | ⟨j, u, m1, g1, g2, g3, g4⟩
          · left
            refine ⟨g1, fun m' k1 k2 => ?_⟩
            obtain ⟨r1, r2⟩ := g2 m' k1 k2
            refine ⟨?_, fun q hq => ?_⟩
            · rw [List.cons_append, List.map_cons, List.map_cons, r1, q1.1.1, q1.1.2]
            · rw [List.mem_cons] at hq
              rcases hq with rfl | hq
              · exact q2 _ (by simp)
              · exact r2 q hq
          · right
            refine ⟨j + 1, u, m1, by rw [g1]; congr 2; omega, by simpa using g2, g3, fun m' k1 k2 => ?_⟩
            obtain ⟨r1, r2⟩ := g4 m' k1 k2
            refine ⟨?_, fun q hq => ?_⟩
            · rw [List.set_cons_succ, List.map_cons, List.map_cons, r1, q1.1.1, q1.1.2]
            · rw [List.mem_cons] at hq
              rcases hq with rfl | hq
              · exact q2 _ (by simp)
              · exact r2 q hq
  rcases hf es.toList al 0 h2 with ⟨e1, e2⟩ | ⟨j, u, m, e1, e2, e3, e4⟩
  · rw [e1]
    simp only [Option.map_none]
    refine ⟨_, Go.MapKept.run_setObj_map _ h1, hfin _ _ ?_⟩
    rw [Array.toList_push]
    exact e2 _ rfl rfl
  · rw [e1]
    simp only [Option.map_some, Nat.zero_add]
    have hm : es[j]? = some m := by rw [← Array.getElem?_toList]; exact e2
    simp only [hm, Option.map_some, Option.getD_some, e3]
    have hstay : (Instr.keyThatStays (arrN k x) (arrN k x)).run P w = .ok (arrN k x) w := by
      unfold Instr.keyThatStays
      rw [if_pos (sameBits_arr 9998 k x)]
      simp
    rw [Sem.run_bind, hstay]
    simp only [Result.andThen_ok]
    refine ⟨_, Go.MapKept.run_setObj_map _ h1, hfin _ _ ?_⟩
    have hset : (es.modify j fun e => { e with key := arrN k x, val := arrN kv v }).toList = es.toList.set j { m with key := arrN k x, val := arrN kv v } := by
      apply List.ext_getElem?
      intro i
      rw [Array.getElem?_toList, Array.getElem?_modify, List.getElem?_set]
      by_cases hij : j = i
      · subst hij
        have hlt : j < es.toList.length := (List.getElem?_eq_some_iff.1 e2).1
        rw [if_pos rfl, if_pos rfl, if_pos hlt, hm]
        rfl
      · rw [if_neg hij, if_neg hij, Array.getElem?_toList]
    rw [hset]
    exact e4 _ rfl rfl
end Go.Proofs.Ytaggghfnbllbgaa
