/- Several texts of one proof, one behind the other. -/
import Derived.Test.YtinddipgeldbpaaSPk18
import Derived.Deep.AppendLies
import Derived.Deep.Cut
set_option linter.unusedSimpArgs false
set_option linter.unusedVariables false

/- A disk, as mathematics. -/
set_option linter.unusedSimpArgs false
set_option linter.unusedVariables false
set_option maxRecDepth 100000
namespace Go.Proofs.Ytinddipgeldbpaa

/-- Contents: sectors that were written, and lengths. -/
structure Cont where
  get : Nat → Nat → Option (List Nat)
  len : Nat → Nat

/-- Bytes of a sector. -/
def SecOk (b : List Nat) : Prop := b.length = 128 ∧ ∀ c ∈ b, c < 256

def Cont.empty : Cont := ⟨fun _ _ => none, fun _ => 0⟩
def Cont.put (c : Cont) (f s : Nat) (b : List Nat) : Cont :=
  ⟨fun g t => if g = f ∧ t = s then some b else c.get g t, fun g => if g = f then max (c.len g) (s + 1) else c.len g⟩

/-- A write. -/
structure Wr where
  f : Nat
  s : Nat
  b : List Nat
def Wr.ok (x : Wr) : Prop := x.f < 2 ∧ x.s < 65536 ∧ SecOk x.b
def Cont.wr (c : Cont) (x : Wr) : Cont := c.put x.f x.s x.b

structure Cont.ok (c : Cont) : Prop where
  sec : ∀ f s b, c.get f s = some b → f < 2 ∧ s < c.len f ∧ SecOk b
  len : ∀ f, c.len f ≤ 65536

theorem Cont.ok_empty : Cont.empty.ok := ⟨fun f s b h => by simp [Cont.empty] at h, fun f => by simp [Cont.empty]⟩
theorem Cont.ok_wr {c : Cont} (h : c.ok) {x : Wr} (hx : x.ok) : (c.wr x).ok := by
  obtain ⟨h1, h2⟩ := h
  obtain ⟨x1, x2, x3⟩ := hx
  refine ⟨fun f s b hb => ?_, fun f => ?_⟩
  · simp only [Cont.wr, Cont.put] at hb ⊢
    by_cases hfs : f = x.f ∧ s = x.s
    · rw [if_pos hfs] at hb
      obtain ⟨rfl, rfl⟩ := hfs
      obtain rfl := Option.some.inj hb
      refine ⟨x1, ?_, x3⟩
      rw [if_pos rfl]; omega
    · rw [if_neg hfs] at hb
      obtain ⟨g1, g2, g3⟩ := h1 f s b hb
      refine ⟨g1, ?_, g3⟩
      split
      · rename_i e; subst e; omega
      · exact g2
  · simp only [Cont.wr, Cont.put]
    have := h2 f
    split
    · omega
    · exact this

/-- The state of a disk. -/
structure DS where
  quota : Nat
  vis : Cont
  dur : Cont
  pend : List Wr
  calls : Nat
  left : Option Nat
  down : Bool

structure DS.ok (d : DS) : Prop where
  quota : 1 ≤ d.quota ∧ d.quota ≤ 65536
  vis : d.vis.ok
  dur : d.dur.ok
  pend : ∀ x ∈ d.pend, x.ok
  left : ∀ n, d.left = some n → n < 9223372036854775808

/-- The number that the program keeps for calls that are left. -/
def leftI : Option Nat → Int
  | none => -1
  | some n => n

def DS.new (q : Nat) : DS := ⟨q, .empty, .empty, [], 0, none, false⟩
theorem DS.new_ok {q : Nat} (h1 : 1 ≤ q) (h2 : q ≤ 65536) : (DS.new q).ok := ⟨⟨h1, h2⟩, Cont.ok_empty, Cont.ok_empty, by simp [DS.new], by simp [DS.new]⟩

/-- A call that changes something: the state behind it, and whether it may go on. -/
def DS.change (d : DS) : DS × Bool := match d.left with
  | some 0 => ({ d with down := true }, false)
  | l => ({ d with left := l.map (· - 1), calls := d.calls + 1 }, true)

theorem DS.change_ok {d : DS} (h : d.ok) : d.change.1.ok := by
  obtain ⟨h1, h2, h3, h4, h5⟩ := h
  unfold DS.change
  split
  · exact ⟨h1, h2, h3, h4, h5⟩
  · refine ⟨h1, h2, h3, h4, fun n hn => ?_⟩
    simp only [Option.map_eq_some_iff] at hn
    obtain ⟨m, hm, rfl⟩ := hn
    have := h5 m hm
    omega

def noughts : List Nat := List.replicate 128 0
theorem noughts_ok : SecOk noughts := ⟨by simp [noughts], by simp [noughts]⟩

/-- What Read hands back: an error, or the bytes. -/
def DS.read (d : DS) (f s : Int) : Except Nat (List Nat) :=
  if (f < 0 ∨ 2 ≤ f) ∨ s < 0 then .error 1 else if d.down then .error 51 else if (d.vis.len f.toNat : Int) ≤ s then .error 4 else .ok ((d.vis.get f.toNat s.toNat).getD noughts)

/-- May the sector be written under the quota? -/
def DS.fits (d : DS) (f s : Nat) : Bool := decide (s < d.vis.len f) || decide (s + 1 + d.vis.len (1 - f) ≤ d.quota)

def DS.put (d : DS) (x : Wr) : DS := { d with vis := d.vis.wr x, pend := d.pend ++ [x] }
theorem DS.put_ok {d : DS} (h : d.ok) {x : Wr} (hx : x.ok) : (d.put x).ok := by
  obtain ⟨h1, h2, h3, h4, h5⟩ := h
  refine ⟨h1, Cont.ok_wr h2 hx, h3, fun y hy => ?_, h5⟩
  rcases List.mem_append.1 hy with hy | hy
  · exact h4 y hy
  · obtain rfl := List.mem_singleton.1 hy; exact hx

/-- What Write hands back, and the state behind it. -/
def DS.write (d : DS) (f s : Int) (b : List Nat) : Nat × DS :=
  if (f < 0 ∨ 2 ≤ f) ∨ s < 0 ∨ 65535 < s ∨ b.length ≠ 128 then (1, d) else if d.down then (51, d) else if d.fits f.toNat s.toNat = false then (50, d)
  else match d.change with
    | (d', false) => (51, d')
    | (d', true) => (0, d'.put ⟨f.toNat, s.toNat, b⟩)

def DS.sync (d : DS) (f : Int) : Nat × DS :=
  if f < 0 ∨ 2 ≤ f then (1, d) else if d.down then (51, d) else match d.change with
    | (d', false) => (51, d')
    | (d', true) => (0, { d' with dur := (d'.pend.filter fun x => x.f == f.toNat).foldl Cont.wr d'.dur, pend := d'.pend.filter fun x => x.f != f.toNat })

/-- Is bit i of keep 1? -/
def bitOf (keep : List Nat) (i : Nat) : Bool := (keep.getD (i / 8) 0 / 2 ^ (i % 8)) % 2 == 1

/-- Those of the writes that are kept, the first of which has number i. -/
def keptOf (keep : List Nat) : List Wr → Nat → List Wr
  | [], _ => []
  | x :: r, i => if bitOf keep i then x :: keptOf keep r (i + 1) else keptOf keep r (i + 1)

def DS.crash (d : DS) (keep : List Nat) : DS :=
  let c := (keptOf keep d.pend 0).foldl Cont.wr d.dur
  { d with vis := c, dur := c, pend := [], left := none, down := false }

theorem foldl_ok {c : Cont} (h : c.ok) : ∀ (l : List Wr), (∀ x ∈ l, x.ok) → (l.foldl Cont.wr c).ok := by
  intro l
  induction l generalizing c with
  | nil => intro _; exact h
  | cons x l ih => intro hl; exact ih (Cont.ok_wr h (hl x (by simp))) (fun y hy => hl y (by simp [hy]))
theorem kept_mem (keep : List Nat) : ∀ (l : List Wr) (i : Nat) (x : Wr), x ∈ keptOf keep l i → x ∈ l
  | [], _, _, h => by simp [keptOf] at h
  | y :: r, i, x, h => by
    unfold keptOf at h
    split at h
    · rcases List.mem_cons.1 h with rfl | h
      · simp
      · exact List.mem_cons_of_mem _ (kept_mem keep r _ x h)
    · exact List.mem_cons_of_mem _ (kept_mem keep r _ x h)

theorem DS.sync_ok {d : DS} (h : d.ok) (f : Int) : (d.sync f).2.ok := by
  unfold DS.sync
  have hc := DS.change_ok h
  split
  · exact h
  · split
    · exact h
    · split
      · rename_i d' e; rw [e] at hc; exact hc
      · rename_i d' e
        rw [e] at hc
        obtain ⟨h1, h2, h3, h4, h5⟩ := hc
        exact ⟨h1, h2, foldl_ok h3 _ (fun x hx => h4 x (List.mem_filter.1 hx).1), fun x hx => h4 x (List.mem_filter.1 hx).1, h5⟩
theorem DS.write_ok {d : DS} (h : d.ok) (f s : Int) {b : List Nat} (hb : ∀ c ∈ b, c < 256) : (d.write f s b).2.ok := by
  unfold DS.write
  have hc := DS.change_ok h
  split
  · exact h
  · rename_i hn
    split
    · exact h
    · split
      · exact h
      · split
        · rename_i d' e; rw [e] at hc; exact hc
        · rename_i d' e
          rw [e] at hc
          exact DS.put_ok hc ⟨by show f.toNat < 2; omega, by show s.toNat < 65536; omega, by show b.length = 128; omega, hb⟩
theorem DS.crash_ok {d : DS} (h : d.ok) (keep : List Nat) : (d.crash keep).ok := by
  obtain ⟨h1, h2, h3, h4, h5⟩ := h
  have := foldl_ok h3 (keptOf keep d.pend 0) (fun x hx => h4 x (kept_mem keep _ _ x hx))
  exact ⟨h1, this, this, by simp [DS.crash], by simp [DS.crash]⟩
end Go.Proofs.Ytinddipgeldbpaa

/- The disk in memory; its small methods. -/
set_option linter.unusedSimpArgs false
set_option linter.unusedVariables false
set_option maxRecDepth 100000
namespace Go.Proofs.Ytinddipgeldbpaa
open Go.RowKit

/-- The cells of a write. -/
def Wr.cells (x : Wr) : List Value := .int .i64 (x.f : Int) :: .int .i64 (x.s : Int) :: x.b.map fun (c : Nat) => Value.int .u8 (c : Int)
def cellsW (l : List Wr) : List Value := l.flatMap Wr.cells

/-- What a map of sectors has at a key. -/
def Cont.key (c : Cont) (x : List Nat) : Option (List Nat) := match x with
  | [f, s] => c.get f s
  | _ => none

/-- The row of a disk. -/
def rowD (B : Nat) (d : DS) (Mv Md : Nat) (pv : Value) : Array Value :=
  #[.pointer (some ⟨B, 0, none⟩), .int .i64 (d.quota : Int), .map (some Mv), .int .i64 (d.vis.len 0 : Int), .int .i64 (d.vis.len 1 : Int), .map (some Md), .int .i64 (d.dur.len 0 : Int), .int .i64 (d.dur.len 1 : Int), pv,
    .int .i64 (d.calls : Int), .int .i64 (leftI d.left), .bool d.down]

def footD (B Mv Md : Nat) (pv : Value) : List Nat := B :: Mv :: Md :: pv.ownBlock.toList

theorem own_ne_map {w : World} {base : Nat} {e : TypeId} {size n : Nat} {v : Value} {xs : List Value} (h : w.ownsRow base e size v n xs) {k kv : IntKind} {m : Nat} {b : Nat} {g : List Nat → Option (List Nat)} (hb : MapA k kv m w b g) : v.ownBlock ≠ some b := by
  rcases h.2 with ⟨rfl, _⟩ | ⟨g', cap, cur, rfl, _, hh, _⟩
  · simp [Value.ownBlock]
  · intro he
    have : g' = b := by simpa [Value.ownBlock] using he
    subst this
    exact hb.ne_blk (t := e) hh rfl

/-! Equal pointers -/
theorem run_eql_same {P : Program} {t e : TypeId} {n : Nat} (a : Addr) (ht : P.underlying t = some (.pointer e)) (hi : (P.info? e).map (·.size) = some (n + 1)) (w : World) :
    (binOp .eql t (.pointer (some a)) (.pointer (some a))).run P w = .ok (.bool true) w := by
  cases hq : P.info? e with
  | none => simp [hq] at hi
  | some i =>
    have hs : i.size = n + 1 := by simpa [hq] using hi
    have : ∀ d, (Op.equalIn (d + 1) t (.pointer (some a)) (.pointer (some a))).run P w = .ok true w := by
      intro d
      simp [Op.equalIn, run_underlying ht, sizeOf, typeInfo, hq, hs, sameAddr]
    have h2 : (Op.equal t (.pointer (some a)) (.pointer (some a))).run P w = .ok true w := this 9999
    simp only [binOp]
    simp [h2]
theorem run_eql_none {P : Program} {t e : TypeId} (a : Addr) (ht : P.underlying t = some (.pointer e)) (w : World) :
    (binOp .eql t (.pointer none) (.pointer (some a))).run P w = .ok (.bool false) w := by
  have : ∀ d, (Op.equalIn (d + 1) t (.pointer none) (.pointer (some a))).run P w = .ok false w := by
    intro d
    simp [Op.equalIn, run_underlying ht]
  have h2 : (Op.equal t (.pointer none) (.pointer (some a))).run P w = .ok false w := this 9999
  simp only [binOp]
  simp [h2]

/-! made, isFile, isQuota -/
def isFileB (f : Int) : Bool := decide (0 ≤ f) && decide (f < 2)
def isQuotaB (q : Int) : Bool := decide (1 ≤ q) && decide (q ≤ 65536)
end Go.Proofs.Ytinddipgeldbpaa

/- What chains that run side by side keep of each other: all but, of what was made since, rows of one type of element. -/
set_option linter.unusedSimpArgs false
set_option linter.unusedVariables false
set_option maxRecDepth 100000
namespace Go.Proofs.Ytinddipgeldbpaa
open Go.RowKit

/-- Nothing is changed but, of the blocks from N on, those of which p holds. -/
structure Kp (N : Nat) (p : Option Obj → Prop) (w w' : World) : Prop where
  os : w'.os = w.os
  tape : w'.tape = w.tape
  output : w'.output = w.output
  size : w.heap.size ≤ w'.heap.size
  block : ∀ k, k < w.heap.size → w'.heap[k]? = w.heap[k]? ∨ (N ≤ k ∧ p w.heap[k]?)
theorem Kp.refl (N : Nat) (p : Option Obj → Prop) (w : World) : Kp N p w w := ⟨rfl, rfl, rfl, Nat.le_refl _, fun _ _ => .inl rfl⟩
theorem Kp.trans {N : Nat} {p : Option Obj → Prop} {a b c : World} (h : Kp N p a b) (k : Kp N p b c) : Kp N p a c := by
  refine ⟨k.os.trans h.os, k.tape.trans h.tape, k.output.trans h.output, Nat.le_trans h.size k.size, fun i hi => ?_⟩
  rcases h.block i hi with h1 | h1
  · rcases k.block i (Nat.lt_of_lt_of_le hi h.size) with h2 | h2
    · exact .inl (h2.trans h1)
    · exact .inr (by rw [← h1]; exact h2)
  · exact .inr h1
theorem Kp.mono {N : Nat} {p q : Option Obj → Prop} {a b : World} (h : Kp N p a b) (hpq : ∀ o, p o → q o) : Kp N q a b :=
  ⟨h.os, h.tape, h.output, h.size, fun i hi => (h.block i hi).imp id fun h => ⟨h.1, hpq _ h.2⟩⟩
theorem Kp.of_chg {N : Nat} {p : Option Obj → Prop} {S : List Nat} {w w' : World} (h : Chg S w w') (hS : ∀ k ∈ S, N ≤ k ∧ p w.heap[k]?) : Kp N p w w' :=
  ⟨h.os, h.tape, h.output, h.size, fun k hk => by
    by_cases hm : k ∈ S
    · exact .inr (hS k hm)
    · exact .inl (h.block k hk hm)⟩
theorem Kp.of_below {N : Nat} {p : Option Obj → Prop} {w w' : World} (h : Below w.heap.size w w') : Kp N p w w' :=
  ⟨h.os, h.tape, h.output, h.size, fun k hk => .inl (h.block k hk)⟩
theorem Kp.below {N : Nat} {p : Option Obj → Prop} {w w' : World} (h : Kp N p w w') (hN : N ≤ w.heap.size) : Below N w w' :=
  ⟨h.os, h.tape, h.output, h.size, fun k hk => by
    rcases h.block k (by omega) with h1 | h1
    · exact h1
    · omega⟩
theorem Kp.undrew {N : Nat} {p : Option Obj → Prop} {w w' : World} (h : Kp N p w.drew w') : Kp N p w w' := ⟨h.os, h.tape, h.output, h.size, h.block⟩
def isT (t : TypeId) (o : Option Obj) : Prop := ∃ cs, o = some (.cells cs t)
theorem own_isT {w : World} {base : Nat} {T : TypeId} {z n : Nat} {v : Value} {xs : List Value} (h : w.ownsRow base T z v n xs) {g : Nat} (hg : g ∈ v.ownBlock.toList) : base ≤ g ∧ isT T w.heap[g]? := by
  rw [Option.mem_toList] at hg
  rcases h.2 with ⟨rfl, _⟩ | ⟨g', cap, cur, rfl, hb, hh, _⟩
  · cases hg
  · simp only [Value.ownBlock, Option.some.injEq] at hg
    subst hg
    exact ⟨hb, cur, hh⟩
theorem own_kp {w w' : World} {base N : Nat} {T t : TypeId} {z n : Nat} {v : Value} {xs : List Value} (h : w.ownsRow base T z v n xs) (hk : Kp N (isT t) w w') (hne : T ≠ t) : w'.ownsRow base T z v n xs := by
  refine own_keep h fun g hg => ?_
  rcases hk.block g (own_lt h hg) with h1 | ⟨_, cs, h1⟩
  · exact h1
  · obtain ⟨_, cs', h2⟩ := own_isT h (Option.mem_toList.2 hg)
    rw [h1] at h2
    injection h2 with h3
    injection h3 with _ h4
    exact absurd h4.symm hne
theorem own_kp0 {w w' : World} {base N : Nat} {T : TypeId} {z n : Nat} {v : Value} {xs : List Value} (h : w.ownsRow base T z v n xs) (hk : Kp N (fun _ => False) w w') : w'.ownsRow base T z v n xs := by
  refine own_keep h fun g hg => ?_
  rcases hk.block g (own_lt h hg) with h1 | ⟨_, h1⟩
  · exact h1
  · exact h1.elim
theorem Blk.kp {w w' : World} {g N : Nat} {T t : TypeId} {cs : Array Value} (h : Blk w g T cs) (hk : Kp N (isT t) w w') (hne : T ≠ t) : Blk w' g T cs := by
  rcases hk.block g h.lt with h1 | ⟨_, cs', h1⟩
  · exact h1.trans h
  · have h2 : w.heap[g]? = some (.cells cs T) := h
    rw [h1] at h2
    injection h2 with h3
    injection h3 with _ h4
    exact absurd h4.symm hne
/-- An empty row that has just been made. -/
theorem own_new0 (w : World) (base : Nat) (T : TypeId) (z : Nat) (hb : base ≤ w.heap.size) : (w.alloc (.cells #[] T)).ownsRow base T z (.slice (some ⟨w.heap.size, 0, none⟩) 0 0) 0 [] :=
  ⟨by simp, .inr ⟨w.heap.size, 0, #[], rfl, hb, heap_alloc_new w _, Nat.le_refl _, by unfold maxLen; omega, by simp, by simp⟩⟩

def kpA (N : Nat) (t : TypeId) : RG := ⟨Kp N (fun _ => False), Kp N (isT t)⟩
def kpB (N : Nat) (t : TypeId) : RG := ⟨Kp N (isT t), Kp N (fun _ => False)⟩
theorem kpA_ok (N : Nat) (t : TypeId) : (kpA N t).Ok (Kp N (fun _ => True)) := ⟨Kp.refl _ _, fun _ _ _ => Kp.trans, fun _ _ h => h.mono fun _ _ => trivial⟩
theorem kpB_ok (N : Nat) (t : TypeId) : (kpB N t).Ok (Kp N (fun _ => True)) := ⟨Kp.refl _ _, fun _ _ _ => Kp.trans, fun _ _ h => h.mono fun _ h => h.elim⟩
theorem kpAB (N : Nat) (t : TypeId) : (kpA N t).With (kpB N t) := ⟨fun _ _ h => h, fun _ _ h => h⟩
theorem kpBB (N : Nat) (t : TypeId) : (kpB N t).With (kpB N t) := ⟨fun _ _ h => h.mono fun _ h => h.elim, fun _ _ h => h.mono fun _ h => h.elim⟩

section
variable {P : Program} {ops : Array Oper} {Q : Exit → Act → World → Prop}
/-- The beginning of a region that draws, where all that was made since may be written. -/
theorem wp_region_parK {id : Nat} {a : Act} {w : World} (N : Nat) (ord : List It) (hm : P.follows .mixedOrders = true) (hs : Region.noSelect ops = true)
    (hl : decide (lenI ord ≤ ops.size) = true) (hc : checkI .any ops ord (Array.replicate ops.size false) = true) (h : wpP P ops (NoPanic Q) (Kp N (fun _ => True)) ord a w.drew) : (Code.region id ops true).wp P Q a w :=
  wp_region_noPanic (wp_region_held hm (wpP_sound (Kp.refl N _) Kp.trans hs ord ops.size _ a w.drew (of_decide_eq_true hl) hc h))
end

/-- 's[:m]'. -/
theorem Arr.front {P : Program} {N : Nat} {w : World} {a : Option Addr} {l : List Value} (h : Arr N w a l) (t e : TypeId) (z : Nat) (ht : P.underlying t = some (.slice e)) (hz : ∀ w, (Go.sizeOf e).run P w = .ok z w)
    (len cap m : Nat) (hlen : l.length = len * z) (hm : m ≤ len) (hcap : len ≤ cap) :
    ∃ a', Arr N w a' (l.take (m * z)) ∧ ∀ W, (Instr.slice t (.slice a len cap) none (some (.int .i64 (m : Int))) none).run P W = .ok (.slice a' m cap) W := by
  have ht' : P.underlying t = some (.slice (P.elem t)) := by simp [Program.elem, ht]
  have hee : P.elem t = e := by simp [Program.elem, ht]
  refine ⟨a, ?_, fun W => ?_⟩
  · rcases h with h2 | ⟨b, o, ha, hN, hc⟩
    · exact .inl (by simp [h2])
    · refine .inr ⟨b, o, ha, hN, fun i c hi => hc i c ?_⟩
      rw [List.getElem?_take] at hi
      split at hi
      · exact hi
      · simp at hi
  · have hu := run_underlying (P := P) (w := W) ht
    have hz' := hz W
    cases a <;> simp [Instr.slice, hu, hz', asIntOf, go_sem] <;> try omega
end Go.Proofs.Ytinddipgeldbpaa

/- A region walked along a tree of orders, where all that was made since its beginning may be written; the rest behind it is walked once, from what R tells. -/
set_option linter.unusedSimpArgs false
set_option linter.unusedVariables false
set_option maxRecDepth 100000
namespace Go.Proofs.Ytinddipgeldbpaa
open Go.RowKit

/-- What the region's end must tell. -/
def cutQ (R : Act → World → Prop) (Q : Exit → Act → World → Prop) : Exit → Act → World → Prop
  | .normal, a, w => R a w
  | e, a, w => Q e a w
theorem wp_region_treeK {P : Program} {ops : Array Oper} {Q : Exit → Act → World → Prop} {id : Nat} {a : Act} {w : World} (N : Nat) (t : OT) (R : Act → Act → World → Prop) (hm : P.follows .mixedOrders = true) (hs : Region.noSelect ops = true)
    (hl : decide (t.high ≤ ops.size) = true) (hc : checkT .any ops t (Array.replicate ops.size false) = true) (h : wpT P ops (NoPanic (cutQ (R a) Q)) (Kp N (fun _ => True)) t a w.drew) (hq : ∀ a' w', R a a' w' → Q .normal a' w') : (Code.region id ops true).wp P Q a w :=
  Code.wp_mono (Q := cutQ (R a) Q) (fun e a' w' h => by cases e <;> first | exact hq _ _ h | exact h)
    (wp_region_noPanic (wp_region_held hm (wpT_sound (Kp.refl N _) Kp.trans hs (NoPanic.put _) t ops.size _ a w.drew (of_decide_eq_true hl) hc h)))
end Go.Proofs.Ytinddipgeldbpaa

/- The law SchemaTables: its walk. -/
set_option linter.unusedSimpArgs false
set_option linter.unusedVariables false
set_option maxRecDepth 100000
namespace Go.Proofs.Ytinddipgeldbpaa
open Go.RowKit

/-- What stays: both tables' boxes, the tables. -/
structure TaW (w W : World) (t u : Tb) (m n : TM) : Prop where
  tb : TBox W w.heap.size m t
  ub : TBox W (w.heap.size + 1) n u
  ta : TAt W t m
  ua : TAt W u n
  bel : Below w.heap.size w W
  lt : w.heap.size + 1 < W.heap.size
theorem TaW.later {w W W' : World} {t u : Tb} {m n : TM} (h : TaW w W t u m n) (hb : Below W.heap.size W W') : TaW w W' t u m n :=
  ⟨h.tb.later (Nat.lt_trans (Nat.lt_succ_self _) h.lt) hb, h.ub.later h.lt hb, h.ta.later hb, h.ua.later hb, h.bel.trans (hb.mono h.bel.size), Nat.lt_of_lt_of_le h.lt hb.size⟩
/-- A table of the reference, made by 'As' from the row of columns on. -/
structure AsOf (W : World) (N : Nat) (t : Tb) (m x : TM) : Prop where
  ka : x.ka = m.ka
  kl : x.kl = m.kl
  kc : x.kc = m.kc
  cl : x.cl = t.cols.length
  row : W.ownsRow N 69 3 (.slice x.ca x.cl x.cc) x.cl (cellsO t.cols)
theorem AsOf.later {W W' : World} {N : Nat} {t : Tb} {m x : TM} (h : AsOf W N t m x) (hb : Below W.heap.size W W') : AsOf W' N t m x := ⟨h.ka, h.kl, h.kc, h.cl, own_below h.row (Nat.le_refl _) hb⟩
theorem AsOf.set {W : World} {N g : Nat} {t : Tb} {m x : TM} {cs new : Array Value} (h : AsOf W N t m x) (hB : Blk W g 30 cs) : AsOf (W.setRow g new) N t m x :=
  ⟨h.ka, h.kl, h.kc, h.cl, own_chg h.row ((Chg.refl _ _).setRow (.inl (List.mem_singleton.2 rfl)) new) (fun k hk hm => by
    rw [List.mem_singleton.1 hm] at hk
    exact own_ne h.row hB (by decide) hk)⟩
theorem AsOf.at_ {W : World} {N : Nat} {t : Tb} {m x : TM} (h : AsOf W N t m x) (hT : TAt W t m) : TAt W t x := by
  obtain ⟨a, c, e, h1, h2, h3⟩ := own_slice h.row
  injection e with e1 e2 e3
  subst e1 e3
  exact ⟨h.cl, by rw [h.kl]; exact hT.hk, h1, by rw [h.kl, h.kc]; exact hT.kcap, h3, by rw [h.ka]; exact hT.karr, hT.fair⟩
/-- How far the region that draws has come. -/
structure RS (w w2 W : World) (t u : Tb) (m n : TM) (o7 o8 : Option Nat) (c1 c2 : Option TM) : Prop where
  bel : Below w2.heap.size w2 W
  b7 : ∀ g, o7 = some g → Blk W g 30 zeroTc ∧ w2.heap.size ≤ g
  b8 : ∀ g, o8 = some g → Blk W g 30 zeroTc ∧ w2.heap.size ≤ g
  ne : ∀ g h, o7 = some g → o8 = some h → g ≠ h
  r1 : ∀ x, c1 = some x → AsOf W w2.heap.size t m x
  r2 : ∀ x, c2 = some x → AsOf W w2.heap.size u n x
theorem RS.later {w w2 W W' : World} {t u : Tb} {m n : TM} {o7 o8 : Option Nat} {c1 c2 : Option TM} (h : RS w w2 W t u m n o7 o8 c1 c2) (hb : Below W.heap.size W W') : RS w w2 W' t u m n o7 o8 c1 c2 :=
  ⟨h.bel.trans (hb.mono h.bel.size), fun g e => ⟨(h.b7 g e).1.belS hb (h.b7 g e).1.lt, (h.b7 g e).2⟩, fun g e => ⟨(h.b8 g e).1.belS hb (h.b8 g e).1.lt, (h.b8 g e).2⟩, h.ne, fun x e => (h.r1 x e).later hb, fun x e => (h.r2 x e).later hb⟩
theorem RS.new {w w2 : World} {t u : Tb} {m n : TM} : RS w w2 w2.drew t u m n none none none none :=
  ⟨(Below.refl _ _).drew, fun _ h => (by cases h), fun _ h => (by cases h), fun _ _ h => (by cases h), fun _ h => (by cases h), fun _ h => (by cases h)⟩
theorem RS.alloc7 {w w2 W : World} {t u : Tb} {m n : TM} {o8 : Option Nat} {c1 c2 : Option TM} (h : RS w w2 W t u m n none o8 c1 c2) : RS w w2 (W.alloc (.cells zeroTc 30)) t u m n (some W.heap.size) o8 c1 c2 := by
  have k := h.later ((Below.refl _ W).alloc (Nat.le_refl _) (.cells zeroTc 30))
  refine ⟨k.bel, fun g e => ?_, k.b8, fun g g' e e' => ?_, k.r1, k.r2⟩
  · injection e with e; subst e; exact ⟨Blk.new _ _ _, h.bel.size⟩
  · injection e with e; subst e; have := (h.b8 g' e').1.lt; omega
theorem RS.alloc8 {w w2 W : World} {t u : Tb} {m n : TM} {o7 : Option Nat} {c1 c2 : Option TM} (h : RS w w2 W t u m n o7 none c1 c2) : RS w w2 (W.alloc (.cells zeroTc 30)) t u m n o7 (some W.heap.size) c1 c2 := by
  have k := h.later ((Below.refl _ W).alloc (Nat.le_refl _) (.cells zeroTc 30))
  refine ⟨k.bel, k.b7, fun g e => ?_, fun g g' e e' => ?_, k.r1, k.r2⟩
  · injection e with e; subst e; exact ⟨Blk.new _ _ _, h.bel.size⟩
  · injection e' with e'; subst e'; have := (h.b7 g e).1.lt; omega
theorem RS.as1 {w w2 W W' : World} {t u : Tb} {m n x : TM} {o7 o8 : Option Nat} {c2 : Option TM} (h : RS w w2 W t u m n o7 o8 none c2) (hb : Below W.heap.size W W') (hx : x.ka = m.ka ∧ x.kl = m.kl ∧ x.kc = m.kc ∧ x.cl = t.cols.length ∧ W'.ownsRow W.heap.size 69 3 (.slice x.ca x.cl x.cc) x.cl (cellsO t.cols)) : RS w w2 W' t u m n o7 o8 (some x) c2 := by
  have k := h.later hb
  refine ⟨k.bel, k.b7, k.b8, k.ne, fun y e => ?_, k.r2⟩
  injection e with e; subst e
  exact ⟨hx.1, hx.2.1, hx.2.2.1, hx.2.2.2.1, own_base hx.2.2.2.2 h.bel.size⟩
theorem RS.as2 {w w2 W W' : World} {t u : Tb} {m n x : TM} {o7 o8 : Option Nat} {c1 : Option TM} (h : RS w w2 W t u m n o7 o8 c1 none) (hb : Below W.heap.size W W') (hx : x.ka = n.ka ∧ x.kl = n.kl ∧ x.kc = n.kc ∧ x.cl = u.cols.length ∧ W'.ownsRow W.heap.size 69 3 (.slice x.ca x.cl x.cc) x.cl (cellsO u.cols)) : RS w w2 W' t u m n o7 o8 c1 (some x) := by
  have k := h.later hb
  refine ⟨k.bel, k.b7, k.b8, k.ne, k.r1, fun y e => ?_⟩
  injection e with e; subst e
  exact ⟨hx.1, hx.2.1, hx.2.2.1, hx.2.2.2.1, own_base hx.2.2.2.2 h.bel.size⟩
/-- The reference's two tables in their variables. -/
structure RF (w W : World) (t u : Tb) (m n x y : TM) (g h : Nat) : Prop where
  base : TaW w W t u m n
  t7 : TBox W g x t
  t8 : TBox W h y u
  a7 : TAt W t x
  a8 : TAt W u y
  g7 : g < W.heap.size
  g8 : h < W.heap.size
theorem RF.later {w W W' : World} {t u : Tb} {m n x y : TM} {g h : Nat} (k : RF w W t u m n x y g h) (hb : Below W.heap.size W W') : RF w W' t u m n x y g h :=
  ⟨k.base.later hb, k.t7.later k.g7 hb, k.t8.later k.g8 hb, k.a7.later hb, k.a8.later hb, Nat.lt_of_lt_of_le k.g7 hb.size, Nat.lt_of_lt_of_le k.g8 hb.size⟩
theorem TBox.of_blk {W : World} {g : Nat} {x : TM} {t : Tb} {T : TypeId} (h : Blk W g T (x.cs t)) : TBox W g x t :=
  ⟨(h.cell 0).trans rfl, (h.cell 1).trans rfl, (h.cell 2).trans rfl, (h.cell 3).trans rfl, (h.cell 4).trans rfl, (h.cell 5).trans rfl, (h.cell 6).trans rfl, (h.cell 7).trans rfl⟩
theorem RS.final {w w2 W : World} {t u : Tb} {m n x y : TM} {g h : Nat} (k : RS w w2 W t u m n (some g) (some h) (some x) (some y)) (hT : TaW w w2 t u m n) : RF w ((W.setRow g (x.cs t)).setRow h (y.cs u)) t u m n x y g h := by
  obtain ⟨b7, n7⟩ := k.b7 g rfl
  obtain ⟨b8, n8⟩ := k.b8 h rfl
  have hne := k.ne g h rfl rfl
  have c1 : Chg [g] W (W.setRow g (x.cs t)) := (Chg.refl _ _).setRow (.inl (List.mem_singleton.2 rfl)) _
  have b7' : Blk (W.setRow g (x.cs t)) g 30 (x.cs t) := Blk.setRow b7
  have b8' : Blk (W.setRow g (x.cs t)) h 30 zeroTc := b8.chg c1 (fun hm => hne (List.mem_singleton.1 hm).symm)
  have c2 : Chg [h] (W.setRow g (x.cs t)) ((W.setRow g (x.cs t)).setRow h (y.cs u)) := (Chg.refl _ _).setRow (.inl (List.mem_singleton.2 rfl)) _
  have b7'' := b7'.chg c2 (fun hm => hne (List.mem_singleton.1 hm))
  have b8'' : Blk ((W.setRow g (x.cs t)).setRow h (y.cs u)) h 30 (y.cs u) := Blk.setRow b8'
  have hb : Below w2.heap.size w2 ((W.setRow g (x.cs t)).setRow h (y.cs u)) := (k.bel.trans (c1.below k.bel.size (by simpa using n7))).trans (c2.below (Nat.le_trans k.bel.size c1.size) (by simpa using n8))
  have hB := hT.later hb
  exact ⟨hB, TBox.of_blk b7'', TBox.of_blk b8'', (((k.r1 x rfl).set b7).set b8').at_ hB.ta, (((k.r2 y rfl).set b7).set b8').at_ hB.ua, b7''.lt, b8''.lt⟩
theorem TbIn.later {w W : World} {t : Tb} {m : TM} (h : TbIn w t m) (hb : Below w.heap.size w W) : TbIn W t m :=
  ⟨h.hc, h.hk, h.ccap, h.kcap, h.cmax, h.kmax, h.carr.later (N := 0) hb, h.karr.later (N := 0) hb, h.nm, h.per, h.fr, h.tt, h.cfair, h.kfair⟩
end Go.Proofs.Ytinddipgeldbpaa

/- The law SchemaTables: its walk. (Made by wip/gen/genlawt15.py.) -/
set_option linter.unusedSimpArgs false
set_option linter.unusedVariables false
set_option maxRecDepth 100000
namespace Go.Proofs.Ytinddipgeldbpaa
open Go.RowKit

theorem allocSz (w : World) (o : Obj) : (w.alloc o).heap.size = w.heap.size + 1 := by simp
theorem cutQ_intro {R : Act → World → Prop} {Q : Exit → Act → World → Prop} {a : Act} {w : World} (h : R a w) : cutQ R Q .normal a w := h
theorem RS.sets {w w2 W : World} {t u : Tb} {m n x y : TM} {g h : Nat} (k : RS w w2 W t u m n (some g) (some h) (some x) (some y)) : Blk W g 30 zeroTc ∧ Blk (W.setRow g (x.cs t)) h 30 zeroTc ∧ Kp w2.heap.size (fun _ => True) W (W.setRow g (x.cs t)) ∧ Kp w2.heap.size (fun _ => True) (W.setRow g (x.cs t)) ((W.setRow g (x.cs t)).setRow h (y.cs u)) := by
  obtain ⟨b7, n7⟩ := k.b7 g rfl
  obtain ⟨b8, n8⟩ := k.b8 h rfl
  have hne := k.ne g h rfl rfl
  have c1 : Chg [g] W (W.setRow g (x.cs t)) := (Chg.refl _ _).setRow (.inl (List.mem_singleton.2 rfl)) _
  have c2 : Chg [h] (W.setRow g (x.cs t)) ((W.setRow g (x.cs t)).setRow h (y.cs u)) := (Chg.refl _ _).setRow (.inl (List.mem_singleton.2 rfl)) _
  exact ⟨b7, b8.chg c1 (fun hm => hne (List.mem_singleton.1 hm).symm), Kp.of_chg c1 (fun q hq => by rw [List.mem_singleton.1 hq]; exact ⟨n7, trivial⟩), Kp.of_chg c2 (fun q hq => by rw [List.mem_singleton.1 hq]; exact ⟨n8, trivial⟩)⟩

set_option maxHeartbeats 16000000 in
theorem schemaTables_walk (t u : Tb) (m n : TM) (s : ByteArray) (w : World) (h : TbIn w t m) (h' : TbIn w u n) :
    Calls Try.prog 3 #[m.v t, n.v u, .string s] w fun e w' => e = .returned (.bool true) ∧ Below w.heap.size w w' := by
  have HAl := Lib.hid (fun W => alive15 W)
  have HB0 : Hid (Below w.heap.size w ((w.alloc (.cells (m.cs t) 25)).alloc (.cells (n.cs u) 25))) := ((Below.refl _ w).alloc (Nat.le_refl _) _).alloc (by simp) _
  have hs0 : w.heap.size + 1 < ((w.alloc (.cells (m.cs t) 25)).alloc (.cells (n.cs u) 25)).heap.size := by simp
  have HX0 : Hid (TBox ((w.alloc (.cells (m.cs t) 25)).alloc (.cells (n.cs u) 25)) w.heap.size m t) := (TBox.new w m t _).later (N := w.heap.size + 1) (by omega) ((Below.refl _ _).alloc (by simp) _)
  have HY0 : Hid (TBox ((w.alloc (.cells (m.cs t) 25)).alloc (.cells (n.cs u) 25)) (w.heap.size + 1) n u) := by
    have := TBox.new (w.alloc (.cells (m.cs t) 25)) n u 25
    rw [show (w.alloc (.cells (m.cs t) 25)).heap.size = w.heap.size + 1 by simp] at this
    exact this
  have HI := Lib.hid h
  have HI' := Lib.hid h'
  obtain ⟨w0, hw0⟩ : ∃ w0, ((w.alloc (.cells (m.cs t) 25)).alloc (.cells (n.cs u) 25)) = w0 := ⟨_, rfl⟩
  rw [hw0] at HB0 hs0 HX0 HY0
  have HG := Lib.hid (fun W (hb : Below w.heap.size w W) => great15_any t m W (HI.out.later hb))
  have HG' := Lib.hid (fun W (hb : Below w.heap.size w W) => great15_any u n W (HI'.out.later hb))
  have HW0 := Lib.hid hw0
  clear h h' hw0
  cases hg : greatT t with
  | true =>
    rw [hg] at HG
    clear hg
    go_enter Try.func3, Try.ntmps3
    go_upto_region 1 with (fail)
    rw [HW0.out]
    obtain ⟨x0, x1, x2, x3, x4, x5, x6, x7⟩ := HX0.out
    go_wp2_with fail
    refine (HG.out _ HB0.out).mono ?_
    rintro e w1 ⟨rfl, hb1⟩
    have HB1 := Lib.hid (HB0.out.trans (hb1.mono HB0.out.size))
    have HX1 := Lib.hid (HX0.out.later (Nat.lt_trans (Nat.lt_succ_self _) hs0) hb1)
    have HY1 := Lib.hid (HY0.out.later hs0 hb1)
    have hs1 : w.heap.size + 1 < w1.heap.size := Nat.lt_of_lt_of_le hs0 hb1.size
    clear hb1 x0 x1 x2 x3 x4 x5 x6 x7
    go_wp2_with fail
    refine (HAl.out _).mono ?_
    rintro e w9 ⟨rfl, hb9⟩
    have HB9 := Lib.hid (HB1.out.trans (hb9.mono HB1.out.size))
    clear hb9
    go_wp2
    go_ret
    exact ⟨rfl, HB9.out⟩
  | false =>
    rw [hg] at HG
    have hTa := HI.out.at_ hg
    have HTa := Lib.hid hTa
    clear hg hTa
    cases hg' : greatT u with
    | true =>
      rw [hg'] at HG'
      clear hg'
      go_enter Try.func3, Try.ntmps3
      go_upto_region 1 with (fail)
      rw [HW0.out]
      obtain ⟨x0, x1, x2, x3, x4, x5, x6, x7⟩ := HX0.out
      go_wp2_with fail
      refine (HG.out _ HB0.out).mono ?_
      rintro e w1 ⟨rfl, hb1⟩
      have HB1 := Lib.hid (HB0.out.trans (hb1.mono HB0.out.size))
      have HX1 := Lib.hid (HX0.out.later (Nat.lt_trans (Nat.lt_succ_self _) hs0) hb1)
      have HY1 := Lib.hid (HY0.out.later hs0 hb1)
      have hs1 : w.heap.size + 1 < w1.heap.size := Nat.lt_of_lt_of_le hs0 hb1.size
      clear hb1 x0 x1 x2 x3 x4 x5 x6 x7
      obtain ⟨y0, y1, y2, y3, y4, y5, y6, y7⟩ := HY1.out
      go_wp2_with fail
      refine (HG'.out _ HB1.out).mono ?_
      rintro e w2 ⟨rfl, hb2⟩
      have HB2 := Lib.hid (HB1.out.trans (hb2.mono HB1.out.size))
      have HX2 := Lib.hid (HX1.out.later (Nat.lt_trans (Nat.lt_succ_self _) hs1) hb2)
      have HY2 := Lib.hid (HY1.out.later hs1 hb2)
      have hs2 : w.heap.size + 1 < w2.heap.size := Nat.lt_of_lt_of_le hs1 hb2.size
      clear hb2 y0 y1 y2 y3 y4 y5 y6 y7
      go_wp2_with fail
      refine (HAl.out _).mono ?_
      rintro e w9 ⟨rfl, hb9⟩
      have HB9 := Lib.hid (HB2.out.trans (hb9.mono HB2.out.size))
      clear hb9
      go_wp2
      go_ret
      exact ⟨rfl, HB9.out⟩
    | false =>
      rw [hg'] at HG'
      have hUa := HI'.out.at_ hg'
      have HUa := Lib.hid hUa
      clear hg' hUa
      by_cases h100 : 100 < s.size
      · have q6 : decide ((100 : Int) < (s.size : Int)) = true := by simp; omega
        clear h100
        go_enter Try.func3, Try.ntmps3
        go_upto_region 1 with (fail)
        rw [HW0.out]
        obtain ⟨x0, x1, x2, x3, x4, x5, x6, x7⟩ := HX0.out
        go_wp2_with fail
        refine (HG.out _ HB0.out).mono ?_
        rintro e w1 ⟨rfl, hb1⟩
        have HB1 := Lib.hid (HB0.out.trans (hb1.mono HB0.out.size))
        have HX1 := Lib.hid (HX0.out.later (Nat.lt_trans (Nat.lt_succ_self _) hs0) hb1)
        have HY1 := Lib.hid (HY0.out.later hs0 hb1)
        have hs1 : w.heap.size + 1 < w1.heap.size := Nat.lt_of_lt_of_le hs0 hb1.size
        clear hb1 x0 x1 x2 x3 x4 x5 x6 x7
        obtain ⟨y0, y1, y2, y3, y4, y5, y6, y7⟩ := HY1.out
        go_wp2_with fail
        refine (HG'.out _ HB1.out).mono ?_
        rintro e w2 ⟨rfl, hb2⟩
        have HB2 := Lib.hid (HB1.out.trans (hb2.mono HB1.out.size))
        have HX2 := Lib.hid (HX1.out.later (Nat.lt_trans (Nat.lt_succ_self _) hs1) hb2)
        have HY2 := Lib.hid (HY1.out.later hs1 hb2)
        have hs2 : w.heap.size + 1 < w2.heap.size := Nat.lt_of_lt_of_le hs1 hb2.size
        clear hb2 y0 y1 y2 y3 y4 y5 y6 y7
        go_wp2_with fail
        refine (HAl.out _).mono ?_
        rintro e w9 ⟨rfl, hb9⟩
        have HB9 := Lib.hid (HB2.out.trans (hb9.mono HB2.out.size))
        clear hb9
        go_wp2
        go_ret
        exact ⟨rfl, HB9.out⟩
      · have q6 : decide ((100 : Int) < (s.size : Int)) = false := by simp; omega
        clear h100
        have HWr := Lib.hid (fun W (h1 : TAt W t m) => sWrite_any t m W h1)
        have HR := Lib.hid (fun W (h1 : TAt W t m) => sRight_any t m W h1)
        have HRr := Lib.hid (fun x W (h1 : TAt W t x) => rRight_any t x W h1)
        have HFi := Lib.hid (fun W (h1 : TAt W t m) => sFind_any t m s W h1)
        have HFr := Lib.hid (fun x W (h1 : TAt W t x) => rFind_any t x s W h1)
        have HSm := Lib.hid (fun W (h1 : TAt W t m) (h2 : TAt W u n) => sSame_any t u m n W h1 h2)
        have HSr := Lib.hid (fun x y W (h1 : TAt W t x) (h2 : TAt W u y) => rSame_any t u x y W h1 h2)
        obtain ⟨LT, E, hWE, hE⟩ : ∃ LT E, writeT t = (LT, E) ∧ ((t.ok = true ∧ E = 0) ∨ (t.ok = false ∧ E = 3)) := by
          unfold writeT
          by_cases ht : t.ok = true
          · exact ⟨_, _, if_pos ht, .inl ⟨ht, rfl⟩⟩
          · exact ⟨_, _, if_neg ht, .inr ⟨by simpa using ht, rfl⟩⟩
        rw [hWE] at HWr
        clear hWE
        have HE := Lib.hid hE
        clear hE
        generalize findC t.cols s = FC at *
        generalize decide (t = u) = DC at *
        go_enter Try.func3, Try.ntmps3
        go_upto_region 1 with (fail)
        rw [HW0.out]
        obtain ⟨x0, x1, x2, x3, x4, x5, x6, x7⟩ := HX0.out
        go_wp2_with fail
        refine (HG.out _ HB0.out).mono ?_
        rintro e w1 ⟨rfl, hb1⟩
        have HB1 := Lib.hid (HB0.out.trans (hb1.mono HB0.out.size))
        have HX1 := Lib.hid (HX0.out.later (Nat.lt_trans (Nat.lt_succ_self _) hs0) hb1)
        have HY1 := Lib.hid (HY0.out.later hs0 hb1)
        have hs1 : w.heap.size + 1 < w1.heap.size := Nat.lt_of_lt_of_le hs0 hb1.size
        clear hb1 x0 x1 x2 x3 x4 x5 x6 x7
        obtain ⟨y0, y1, y2, y3, y4, y5, y6, y7⟩ := HY1.out
        go_wp2_with fail
        refine (HG'.out _ HB1.out).mono ?_
        rintro e w2 ⟨rfl, hb2⟩
        have HB2 := Lib.hid (HB1.out.trans (hb2.mono HB1.out.size))
        have HX2 := Lib.hid (HX1.out.later (Nat.lt_trans (Nat.lt_succ_self _) hs1) hb2)
        have HY2 := Lib.hid (HY1.out.later hs1 hb2)
        have hs2 : w.heap.size + 1 < w2.heap.size := Nat.lt_of_lt_of_le hs1 hb2.size
        clear hb2 y0 y1 y2 y3 y4 y5 y6 y7
        have HT2 : Hid (TaW w w2 t u m n) := ⟨HX2.out, HY2.out, HTa.out.later HB2.out, HUa.out.later HB2.out, HB2.out, hs2⟩
        have HTW : Hid (∀ W, Below w2.heap.size w2 W → TaW w W t u m n) := fun W hb => HT2.out.later hb
        clear HX0 HY0 HX1 HY1 HX2 HY2 hs0 hs1 hs2 HG HG' HI HI' HW0 HB0 HB1 HB2 HTa HUa
        go_wp2_with fail
        refine wp_region_treeK (w2.heap.size) (.free 0 (.free 2 (.three 1 4 5 (.three 3 4 5 (.two 4 5 (.one 5 (.one 6 (.one 7 (.nil)))) (.one 4 (.one 6 (.one 7 (.nil))))) (.two 3 5 (.one 5 (.one 6 (.one 7 (.nil)))) (.one 3 (.one 6 (.one 7 (.nil))))) (.two 3 4 (.one 4 (.one 6 (.one 7 (.nil)))) (.one 3 (.one 6 (.one 7 (.nil)))))) (.two 1 5 (.two 3 5 (.one 5 (.one 6 (.one 7 (.nil)))) (.one 3 (.one 6 (.one 7 (.nil))))) (.one 1 (.one 3 (.one 6 (.one 7 (.nil)))))) (.two 1 4 (.two 3 4 (.one 4 (.one 6 (.one 7 (.nil)))) (.one 3 (.one 6 (.one 7 (.nil))))) (.one 1 (.one 3 (.one 6 (.one 7 (.nil))))))))) (fun a a' W => ∃ (x y : TM) (g h : Nat), a' = puts a [(some 23, m.v t), (some 25, n.v u), (some 24, .agg #[.string t.name, .slice x.ca x.cl x.cc, .slice x.ka x.kl x.kc, .string t.per, .int .i64 t.fr, .int .i64 t.tt, .bool t.apart, .bool t.vers]), (some 26, .agg #[.string u.name, .slice y.ca y.cl y.cc, .slice y.ka y.kl y.kc, .string u.per, .int .i64 u.fr, .int .i64 u.tt, .bool u.apart, .bool u.vers]), (some 7, .pointer (some ⟨g, 0, none⟩)), (some 8, .pointer (some ⟨h, 0, none⟩))] ∧ RF w W t u m n x y g h) (by kernel_rfl) (by kernel_rfl) (by kernel_rfl) (by kernel_rfl) ?_ ?_
        · have HS := Lib.hid (RS.new (w := w) (w2 := w2) (t := t) (u := u) (m := m) (n := n))
          refine wpT_F (v := m.v t) rfl (by rfl) (fun w' hL => ?_) ?_
          · obtain ⟨x0, x1, x2, x3, x4, x5, x6, x7⟩ := (HTW.out w' (Kp.below (Kp.undrew hL) (Nat.le_refl _))).tb
            clear hL HS
            go_simp
          refine wpT_F (v := n.v u) rfl (by rfl) (fun w' hL => ?_) ?_
          · obtain ⟨y0, y1, y2, y3, y4, y5, y6, y7⟩ := (HTW.out w' (Kp.below (Kp.undrew hL) (Nat.le_refl _))).ub
            clear hL HS
            go_simp
          try simp only [Act.put, List.setIfInBounds_toArray, List.set_cons_zero, List.set_cons_succ]
          repeat' (first
            | refine wpT_three ?_ ?_ ?_
            | refine wpT_two ?_ ?_
            | (refine wpT_C (i := 4) rfl (by rfl) ?_; go_simp; refine ⟨Kp.of_below ((Below.refl _ _).alloc (Nat.le_refl _) _), ?_⟩; (try simp only [Act.put, List.setIfInBounds_toArray, List.set_cons_zero, List.set_cons_succ]); replace HS := Lib.hid HS.out.alloc7)
            | (refine wpT_C (i := 5) rfl (by rfl) ?_; go_simp; refine ⟨Kp.of_below ((Below.refl _ _).alloc (Nat.le_refl _) _), ?_⟩; (try simp only [Act.put, List.setIfInBounds_toArray, List.set_cons_zero, List.set_cons_succ]); replace HS := Lib.hid HS.out.alloc8)
            | (refine wpT_C (i := 1) rfl (by rfl) ?_; go_simp; refine (as15_any t m _ (HTW.out _ HS.out.bel).ta).mono ?_; rintro e z1 ⟨x1, rfl, hx, ho, hb⟩; refine ⟨Kp.of_below hb, ?_⟩; (try simp only [Act.put, List.setIfInBounds_toArray, List.set_cons_zero, List.set_cons_succ]); replace HS := Lib.hid (HS.out.as1 hb ho); clear hx ho hb)
            | (refine wpT_C (i := 3) rfl (by rfl) ?_; go_simp; refine (as15_any u n _ (HTW.out _ HS.out.bel).ua).mono ?_; rintro e z3 ⟨x3, rfl, hx, ho, hb⟩; refine ⟨Kp.of_below hb, ?_⟩; (try simp only [Act.put, List.setIfInBounds_toArray, List.set_cons_zero, List.set_cons_succ]); replace HS := Lib.hid (HS.out.as2 hb ho); clear hx ho hb))
          all_goals (
            have hL := HS.out
            try simp only [allocSz] at hL
            replace HS := Lib.hid hL
            clear hL
            obtain ⟨B7, B8, K7, K8⟩ := HS.out.sets
            refine wpT_C (i := 6) rfl (by rfl) ?_
            refine wp_skp (exec_store (ty := 30) rfl rfl rfl (run_storeVar_row _ _ _ 30 _ (x1.cs t) B7 (by rw [infoRT]; rfl) rfl (by simp [Value.oneCell']))) ?_
            refine ⟨K7, ?_⟩
            try simp only [Act.put, List.setIfInBounds_toArray, List.set_cons_zero, List.set_cons_succ]
            refine wpT_C (i := 7) rfl (by rfl) ?_
            refine wp_skp (exec_store (ty := 30) rfl rfl rfl (run_storeVar_row _ _ _ 30 _ (x3.cs u) B8 (by rw [infoRT]; rfl) rfl (by simp [Value.oneCell']))) ?_
            refine ⟨K8, ?_⟩
            try simp only [Act.put, List.setIfInBounds_toArray, List.set_cons_zero, List.set_cons_succ]
            exact wpT_nil (cutQ_intro ⟨x1, x3, _, _, by (simp only [puts, List.nil_append, List.cons_append, List.foldl_cons, List.foldl_nil, Act.put, List.setIfInBounds_toArray, List.set_cons_zero, List.set_cons_succ]) <;> rfl, HS.out.final HT2.out⟩))
        rintro a3 w3 ⟨x, y, g, h, rfl, hF⟩
        have HF := Lib.hid hF
        clear hF HT2 HTW
        simp only [puts, List.nil_append, List.cons_append, List.foldl_cons, List.foldl_nil, Act.put, List.setIfInBounds_toArray, List.set_cons_zero, List.set_cons_succ]
        obtain ⟨x0, x1, x2, x3, x4, x5, x6, x7⟩ := HF.out.base.tb
        have HWx := Lib.hid (HWr.out _ HF.out.base.ta)
        go_wp2_with fail
        refine HWx.out.mono ?_
        rintro e w4 ⟨a2, c2, rfl, hc2, hB2, hb⟩
        replace HF := Lib.hid (HF.out.later hb)
        clear hb hc2 hB2 HWx HWr
        clear x0 x1 x2 x3 x4 x5 x6 x7
        rcases HE.out with ⟨hok, rfl⟩ | ⟨hok, rfl⟩
        all_goals (
          rw [hok] at HR HRr
          clear HE hok
          go_wp2_with fail
          refine wp_region_ord [(0, false), (1, true), (2, true), (4, true), (3, false), (5, false), (6, true), (7, true), (8, true), (9, true), (10, true), (11, true), (12, false), (13, true), (14, true), (15, true), (16, true), (17, true), (18, true), (19, true), (20, true), (21, true), (22, true), (23, true), (24, true), (25, true), (27, true), (28, true), (26, false), (29, false), (30, true), (31, true), (32, true), (33, true), (34, true), (36, true), (37, true), (35, false), (38, false), (39, true), (40, true), (41, true)] (by kernel_rfl) (by kernel_rfl) (by kernel_rfl) (by kernel_rfl) ?_
          replace HF := Lib.hid (HF.out.later (Below.refl w4.heap.size w4).drew)
          refine wpO_C rfl (by rfl) ?_
          go_simp
          refine (HAl.out _).mono ?_
          rintro e z1 ⟨rfl, hb⟩
          refine ⟨hb, ?_⟩
          try simp only [Act.put, List.setIfInBounds_toArray, List.set_cons_zero, List.set_cons_succ]
          replace HF := Lib.hid (HF.out.later hb)
          clear hb
          have x0 := fun W (hW : Later z1 W) => (HF.out.later (hW)).base.tb.c0
          have x1 := fun W (hW : Later z1 W) => (HF.out.later (hW)).base.tb.c1
          have x2 := fun W (hW : Later z1 W) => (HF.out.later (hW)).base.tb.c2
          have x3 := fun W (hW : Later z1 W) => (HF.out.later (hW)).base.tb.c3
          have x4 := fun W (hW : Later z1 W) => (HF.out.later (hW)).base.tb.c4
          have x5 := fun W (hW : Later z1 W) => (HF.out.later (hW)).base.tb.c5
          have x6 := fun W (hW : Later z1 W) => (HF.out.later (hW)).base.tb.c6
          have x7 := fun W (hW : Later z1 W) => (HF.out.later (hW)).base.tb.c7
          have p0 := fun W (hW : Later z1 W) => (HF.out.later (hW)).t7.c0
          have p1 := fun W (hW : Later z1 W) => (HF.out.later (hW)).t7.c1
          have p2 := fun W (hW : Later z1 W) => (HF.out.later (hW)).t7.c2
          have p3 := fun W (hW : Later z1 W) => (HF.out.later (hW)).t7.c3
          have p4 := fun W (hW : Later z1 W) => (HF.out.later (hW)).t7.c4
          have p5 := fun W (hW : Later z1 W) => (HF.out.later (hW)).t7.c5
          have p6 := fun W (hW : Later z1 W) => (HF.out.later (hW)).t7.c6
          have p7 := fun W (hW : Later z1 W) => (HF.out.later (hW)).t7.c7
          repeat (first | (refine wpO_F (v := ?_) rfl (by rfl) (fun w' hL => ?_) ?_; rotate_left; (solve | (go_simp; with_reducible rfl) | go_simp); try simp only [Act.put, List.setIfInBounds_toArray, List.set_cons_zero, List.set_cons_succ]) | (refine wpO_G rfl (by rfl) ?_; try simp only [Act.put, List.setIfInBounds_toArray, List.set_cons_zero, List.set_cons_succ]))
          clear x0 x1 x2 x3 x4 x5 x6 x7 p0 p1 p2 p3 p4 p5 p6 p7
          refine wpO_C rfl (by rfl) ?_
          go_simp
          refine (HR.out _ HF.out.base.ta).mono ?_
          rintro e z2 ⟨rfl, hb⟩
          refine ⟨hb, ?_⟩
          try simp only [Act.put, List.setIfInBounds_toArray, List.set_cons_zero, List.set_cons_succ]
          replace HF := Lib.hid (HF.out.later hb)
          clear hb
          refine wpO_C rfl (by rfl) ?_
          go_simp
          refine (HRr.out x _ HF.out.a7).mono ?_
          rintro e z3 ⟨rfl, hb⟩
          refine ⟨hb, ?_⟩
          try simp only [Act.put, List.setIfInBounds_toArray, List.set_cons_zero, List.set_cons_succ]
          replace HF := Lib.hid (HF.out.later hb)
          clear hb
          have p0 := fun W (hW : Later z3 W) => (HF.out.later (hW)).t7.c0
          have p1 := fun W (hW : Later z3 W) => (HF.out.later (hW)).t7.c1
          have p2 := fun W (hW : Later z3 W) => (HF.out.later (hW)).t7.c2
          have p3 := fun W (hW : Later z3 W) => (HF.out.later (hW)).t7.c3
          have p4 := fun W (hW : Later z3 W) => (HF.out.later (hW)).t7.c4
          have p5 := fun W (hW : Later z3 W) => (HF.out.later (hW)).t7.c5
          have p6 := fun W (hW : Later z3 W) => (HF.out.later (hW)).t7.c6
          have p7 := fun W (hW : Later z3 W) => (HF.out.later (hW)).t7.c7
          repeat (first | (refine wpO_F (v := ?_) rfl (by rfl) (fun w' hL => ?_) ?_; rotate_left; (solve | (go_simp; with_reducible rfl) | go_simp); try simp only [Act.put, List.setIfInBounds_toArray, List.set_cons_zero, List.set_cons_succ]) | (refine wpO_G rfl (by rfl) ?_; try simp only [Act.put, List.setIfInBounds_toArray, List.set_cons_zero, List.set_cons_succ]))
          clear p0 p1 p2 p3 p4 p5 p6 p7
          refine wpO_C rfl (by rfl) ?_
          go_simp
          refine (HRr.out x _ HF.out.a7).mono ?_
          rintro e z4 ⟨rfl, hb⟩
          refine ⟨hb, ?_⟩
          try simp only [Act.put, List.setIfInBounds_toArray, List.set_cons_zero, List.set_cons_succ]
          replace HF := Lib.hid (HF.out.later hb)
          clear hb
          have x0 := fun W (hW : Later z4 W) => (HF.out.later (hW)).base.tb.c0
          have x1 := fun W (hW : Later z4 W) => (HF.out.later (hW)).base.tb.c1
          have x2 := fun W (hW : Later z4 W) => (HF.out.later (hW)).base.tb.c2
          have x3 := fun W (hW : Later z4 W) => (HF.out.later (hW)).base.tb.c3
          have x4 := fun W (hW : Later z4 W) => (HF.out.later (hW)).base.tb.c4
          have x5 := fun W (hW : Later z4 W) => (HF.out.later (hW)).base.tb.c5
          have x6 := fun W (hW : Later z4 W) => (HF.out.later (hW)).base.tb.c6
          have x7 := fun W (hW : Later z4 W) => (HF.out.later (hW)).base.tb.c7
          have p0 := fun W (hW : Later z4 W) => (HF.out.later (hW)).t7.c0
          have p1 := fun W (hW : Later z4 W) => (HF.out.later (hW)).t7.c1
          have p2 := fun W (hW : Later z4 W) => (HF.out.later (hW)).t7.c2
          have p3 := fun W (hW : Later z4 W) => (HF.out.later (hW)).t7.c3
          have p4 := fun W (hW : Later z4 W) => (HF.out.later (hW)).t7.c4
          have p5 := fun W (hW : Later z4 W) => (HF.out.later (hW)).t7.c5
          have p6 := fun W (hW : Later z4 W) => (HF.out.later (hW)).t7.c6
          have p7 := fun W (hW : Later z4 W) => (HF.out.later (hW)).t7.c7
          repeat (first | (refine wpO_F (v := ?_) rfl (by rfl) (fun w' hL => ?_) ?_; rotate_left; (solve | (go_simp; with_reducible rfl) | go_simp); try simp only [Act.put, List.setIfInBounds_toArray, List.set_cons_zero, List.set_cons_succ]) | (refine wpO_G rfl (by rfl) ?_; try simp only [Act.put, List.setIfInBounds_toArray, List.set_cons_zero, List.set_cons_succ]))
          clear x0 x1 x2 x3 x4 x5 x6 x7 p0 p1 p2 p3 p4 p5 p6 p7
          refine wpO_C rfl (by rfl) ?_
          go_simp
          refine (HFi.out _ HF.out.base.ta).mono ?_
          rintro e z5 ⟨rfl, hb⟩
          refine ⟨hb, ?_⟩
          try simp only [Act.put, List.setIfInBounds_toArray, List.set_cons_zero, List.set_cons_succ]
          replace HF := Lib.hid (HF.out.later hb)
          clear hb
          refine wpO_C rfl (by rfl) ?_
          go_simp
          refine (HFr.out x _ HF.out.a7).mono ?_
          rintro e z6 ⟨rfl, hb⟩
          refine ⟨hb, ?_⟩
          try simp only [Act.put, List.setIfInBounds_toArray, List.set_cons_zero, List.set_cons_succ]
          replace HF := Lib.hid (HF.out.later hb)
          clear hb
          have x0 := fun W (hW : Later z6 W) => (HF.out.later (hW)).base.tb.c0
          have x1 := fun W (hW : Later z6 W) => (HF.out.later (hW)).base.tb.c1
          have x2 := fun W (hW : Later z6 W) => (HF.out.later (hW)).base.tb.c2
          have x3 := fun W (hW : Later z6 W) => (HF.out.later (hW)).base.tb.c3
          have x4 := fun W (hW : Later z6 W) => (HF.out.later (hW)).base.tb.c4
          have x5 := fun W (hW : Later z6 W) => (HF.out.later (hW)).base.tb.c5
          have x6 := fun W (hW : Later z6 W) => (HF.out.later (hW)).base.tb.c6
          have x7 := fun W (hW : Later z6 W) => (HF.out.later (hW)).base.tb.c7
          have y0 := fun W (hW : Later z6 W) => (HF.out.later (hW)).base.ub.c0
          have y1 := fun W (hW : Later z6 W) => (HF.out.later (hW)).base.ub.c1
          have y2 := fun W (hW : Later z6 W) => (HF.out.later (hW)).base.ub.c2
          have y3 := fun W (hW : Later z6 W) => (HF.out.later (hW)).base.ub.c3
          have y4 := fun W (hW : Later z6 W) => (HF.out.later (hW)).base.ub.c4
          have y5 := fun W (hW : Later z6 W) => (HF.out.later (hW)).base.ub.c5
          have y6 := fun W (hW : Later z6 W) => (HF.out.later (hW)).base.ub.c6
          have y7 := fun W (hW : Later z6 W) => (HF.out.later (hW)).base.ub.c7
          have p0 := fun W (hW : Later z6 W) => (HF.out.later (hW)).t7.c0
          have p1 := fun W (hW : Later z6 W) => (HF.out.later (hW)).t7.c1
          have p2 := fun W (hW : Later z6 W) => (HF.out.later (hW)).t7.c2
          have p3 := fun W (hW : Later z6 W) => (HF.out.later (hW)).t7.c3
          have p4 := fun W (hW : Later z6 W) => (HF.out.later (hW)).t7.c4
          have p5 := fun W (hW : Later z6 W) => (HF.out.later (hW)).t7.c5
          have p6 := fun W (hW : Later z6 W) => (HF.out.later (hW)).t7.c6
          have p7 := fun W (hW : Later z6 W) => (HF.out.later (hW)).t7.c7
          have r0 := fun W (hW : Later z6 W) => (HF.out.later (hW)).t8.c0
          have r1 := fun W (hW : Later z6 W) => (HF.out.later (hW)).t8.c1
          have r2 := fun W (hW : Later z6 W) => (HF.out.later (hW)).t8.c2
          have r3 := fun W (hW : Later z6 W) => (HF.out.later (hW)).t8.c3
          have r4 := fun W (hW : Later z6 W) => (HF.out.later (hW)).t8.c4
          have r5 := fun W (hW : Later z6 W) => (HF.out.later (hW)).t8.c5
          have r6 := fun W (hW : Later z6 W) => (HF.out.later (hW)).t8.c6
          have r7 := fun W (hW : Later z6 W) => (HF.out.later (hW)).t8.c7
          repeat (first | (refine wpO_F (v := ?_) rfl (by rfl) (fun w' hL => ?_) ?_; rotate_left; (solve | (go_simp; with_reducible rfl) | go_simp); try simp only [Act.put, List.setIfInBounds_toArray, List.set_cons_zero, List.set_cons_succ]) | (refine wpO_G rfl (by rfl) ?_; try simp only [Act.put, List.setIfInBounds_toArray, List.set_cons_zero, List.set_cons_succ]))
          clear x0 x1 x2 x3 x4 x5 x6 x7 y0 y1 y2 y3 y4 y5 y6 y7 p0 p1 p2 p3 p4 p5 p6 p7 r0 r1 r2 r3 r4 r5 r6 r7
          refine wpO_C rfl (by rfl) ?_
          go_simp
          refine (HSm.out _ HF.out.base.ta HF.out.base.ua).mono ?_
          rintro e z7 ⟨rfl, hb⟩
          refine ⟨hb, ?_⟩
          try simp only [Act.put, List.setIfInBounds_toArray, List.set_cons_zero, List.set_cons_succ]
          replace HF := Lib.hid (HF.out.later hb)
          clear hb
          refine wpO_C rfl (by rfl) ?_
          go_simp
          refine (HSr.out x y _ HF.out.a7 HF.out.a8).mono ?_
          rintro e z8 ⟨rfl, hb⟩
          refine ⟨hb, ?_⟩
          try simp only [Act.put, List.setIfInBounds_toArray, List.set_cons_zero, List.set_cons_succ]
          replace HF := Lib.hid (HF.out.later hb)
          clear hb
          repeat (first | (refine wpO_F (v := ?_) rfl (by rfl) (fun w' hL => ?_) ?_; rotate_left; (solve | (go_simp; with_reducible rfl) | go_simp); try simp only [Act.put, List.setIfInBounds_toArray, List.set_cons_zero, List.set_cons_succ]) | (refine wpO_G rfl (by rfl) ?_; try simp only [Act.put, List.setIfInBounds_toArray, List.set_cons_zero, List.set_cons_succ]))
          refine wpO_nil ?_
          have HEND := Lib.hid HF.out.base.bel
          clear HF
          go_wp2
          go_ret
          exact ⟨ret_b (by simp), HEND.out⟩)
end Go.Proofs.Ytinddipgeldbpaa
