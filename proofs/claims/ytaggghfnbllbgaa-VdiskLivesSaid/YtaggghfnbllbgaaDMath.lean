/- A disk, as mathematics. -/
import Derived.Test.YtaggghfnbllbgaaMapA
namespace Go.Proofs.Ytaggghfnbllbgaa

/-- Contents: sectors that were written, and lengths. -/
structure Cont where
  get : Nat → Nat → Option (List Nat)
  len : Nat → Nat

/-- Bytes of a sector. -/
def SecOk (b : List Nat) : Prop := b.length = 128 ∧ ∀ c ∈ b, c < 256

def Cont.empty : Cont := ⟨fun _ _ => none, fun _ => 0⟩
def Cont.put (c : Cont) (f s : Nat) (b : List Nat) : Cont :=
  ⟨fun g t => if g = f ∧ t = s then some b else c.get g t, fun g => if g = f then max (c.len g) (s + 1) else c.len g⟩

/-- A write. -/
structure Wr where
  f : Nat
  s : Nat
  b : List Nat
def Wr.ok (x : Wr) : Prop := x.f < 2 ∧ x.s < 65536 ∧ SecOk x.b
def Cont.wr (c : Cont) (x : Wr) : Cont := c.put x.f x.s x.b

structure Cont.ok (c : Cont) : Prop where
  sec : ∀ f s b, c.get f s = some b → f < 2 ∧ s < c.len f ∧ SecOk b
  len : ∀ f, c.len f ≤ 65536

theorem Cont.ok_empty : Cont.empty.ok := ⟨fun f s b h => by simp [Cont.empty] at h, fun f => by simp [Cont.empty]⟩
theorem Cont.ok_wr {c : Cont} (h : c.ok) {x : Wr} (hx : x.ok) : (c.wr x).ok := by
  obtain ⟨h1, h2⟩ := h
  obtain ⟨x1, x2, x3⟩ := hx
  refine ⟨fun f s b hb => ?_, fun f => ?_⟩
  · simp only [Cont.wr, Cont.put] at hb ⊢
    by_cases hfs : f = x.f ∧ s = x.s
    · rw [if_pos hfs] at hb
      obtain ⟨rfl, rfl⟩ := hfs
      obtain rfl := Option.some.inj hb
      refine ⟨x1, ?_, x3⟩
      rw [if_pos rfl]; omega
    · rw [if_neg hfs] at hb
      obtain ⟨g1, g2, g3⟩ := h1 f s b hb
      refine ⟨g1, ?_, g3⟩
      split
      · rename_i e; subst e; omega
      · exact g2
  · simp only [Cont.wr, Cont.put]
    have := h2 f
    split
    · omega
    · exact this

/-- The state of a disk. -/
structure DS where
  quota : Nat
  vis : Cont
  dur : Cont
  pend : List Wr
  calls : Nat
  left : Option Nat
  down : Bool

structure DS.ok (d : DS) : Prop where
  quota : 1 ≤ d.quota ∧ d.quota ≤ 65536
  vis : d.vis.ok
  dur : d.dur.ok
  pend : ∀ x ∈ d.pend, x.ok
  left : ∀ n, d.left = some n → n < 9223372036854775808

/-- The number that the program keeps for calls that are left. -/
def leftI : Option Nat → Int
  | none => -1
  | some n => n

def DS.new (q : Nat) : DS := ⟨q, .empty, .empty, [], 0, none, false⟩
theorem DS.new_ok {q : Nat} (h1 : 1 ≤ q) (h2 : q ≤ 65536) : (DS.new q).ok := ⟨⟨h1, h2⟩, Cont.ok_empty, Cont.ok_empty, by simp [DS.new], by simp [DS.new]⟩

/-- A call that changes something: the state behind it, and whether it may go on. -/
def DS.change (d : DS) : DS × Bool := match d.left with
  | some 0 => ({ d with down := true }, false)
  | l => ({ d with left := l.map (· - 1), calls := d.calls + 1 }, true)

theorem DS.change_ok {d : DS} (h : d.ok) : d.change.1.ok := by
  obtain ⟨h1, h2, h3, h4, h5⟩ := h
  unfold DS.change
  split
  · exact ⟨h1, h2, h3, h4, h5⟩
  · refine ⟨h1, h2, h3, h4, fun n hn => ?_⟩
    simp only [Option.map_eq_some_iff] at hn
    obtain ⟨m, hm, rfl⟩ := hn
    have := h5 m hm
    omega

def noughts : List Nat := List.replicate 128 0
theorem noughts_ok : SecOk noughts := ⟨by simp [noughts], by simp [noughts]⟩

/-- What Read hands back: an error, or the bytes. -/
def DS.read (d : DS) (f s : Int) : Except Nat (List Nat) :=
  if (f < 0 ∨ 2 ≤ f) ∨ s < 0 then .error 1 else if d.down then .error 51 else if (d.vis.len f.toNat : Int) ≤ s then .error 4 else .ok ((d.vis.get f.toNat s.toNat).getD noughts)

/-- May the sector be written under the quota? -/
def DS.fits (d : DS) (f s : Nat) : Bool := decide (s < d.vis.len f) || decide (s + 1 + d.vis.len (1 - f) ≤ d.quota)

def DS.put (d : DS) (x : Wr) : DS := { d with vis := d.vis.wr x, pend := d.pend ++ [x] }
theorem DS.put_ok {d : DS} (h : d.ok) {x : Wr} (hx : x.ok) : (d.put x).ok := by
  obtain ⟨h1, h2, h3, h4, h5⟩ := h
  refine ⟨h1, Cont.ok_wr h2 hx, h3, fun y hy => ?_, h5⟩
  rcases List.mem_append.1 hy with hy | hy
  · exact h4 y hy
  · obtain rfl := List.mem_singleton.1 hy; exact hx

/-- What Write hands back, and the state behind it. -/
def DS.write (d : DS) (f s : Int) (b : List Nat) : Nat × DS :=
  if (f < 0 ∨ 2 ≤ f) ∨ s < 0 ∨ 65535 < s ∨ b.length ≠ 128 then (1, d) else if d.down then (51, d) else if d.fits f.toNat s.toNat = false then (50, d)
  else match d.change with
    | (d', false) => (51, d')
    | (d', true) => (0, d'.put ⟨f.toNat, s.toNat, b⟩)

def DS.sync (d : DS) (f : Int) : Nat × DS :=
  if f < 0 ∨ 2 ≤ f then (1, d) else if d.down then (51, d) else match d.change with
    | (d', false) => (51, d')
    | (d', true) => (0, { d' with dur := (d'.pend.filter fun x => x.f == f.toNat).foldl Cont.wr d'.dur, pend := d'.pend.filter fun x => x.f != f.toNat })

/-- Is bit i of keep 1? -/
def bitOf (keep : List Nat) (i : Nat) : Bool := (keep.getD (i / 8) 0 / 2 ^ (i % 8)) % 2 == 1

/-- Those of the writes that are kept, the first of which has number i. -/
def keptOf (keep : List Nat) : List Wr → Nat → List Wr
  | [], _ => []
  | x :: r, i => if bitOf keep i then x :: keptOf keep r (i + 1) else keptOf keep r (i + 1)

def DS.crash (d : DS) (keep : List Nat) : DS :=
  let c := (keptOf keep d.pend 0).foldl Cont.wr d.dur
  { d with vis := c, dur := c, pend := [], left := none, down := false }

theorem foldl_ok {c : Cont} (h : c.ok) : ∀ (l : List Wr), (∀ x ∈ l, x.ok) → (l.foldl Cont.wr c).ok := by
  intro l
  induction l generalizing c with
  | nil => intro _; exact h
  | cons x l ih => intro hl; exact ih (Cont.ok_wr h (hl x (by simp))) (fun y hy => hl y (by simp [hy]))
theorem kept_mem (keep : List Nat) : ∀ (l : List Wr) (i : Nat) (x : Wr), x ∈ keptOf keep l i → x ∈ l
  | [], _, _, h => by simp [keptOf] at h
  | y :: r, i, x, h => by
    unfold keptOf at h
    split at h
    · rcases List.mem_cons.1 h with rfl | h
      · simp
      · exact List.mem_cons_of_mem _ (kept_mem keep r _ x h)
    · exact List.mem_cons_of_mem _ (kept_mem keep r _ x h)

theorem DS.sync_ok {d : DS} (h : d.ok) (f : Int) : (d.sync f).2.ok := by
  unfold DS.sync
  have hc := DS.change_ok h
  split
  · exact h
  · split
    · exact h
    · split
      · rename_i d' e; rw [e] at hc; exact hc
      · rename_i d' e
        rw [e] at hc
        obtain ⟨h1, h2, h3, h4, h5⟩ := hc
        exact ⟨h1, h2, foldl_ok h3 _ (fun x hx => h4 x (List.mem_filter.1 hx).1), fun x hx => h4 x (List.mem_filter.1 hx).1, h5⟩
theorem DS.write_ok {d : DS} (h : d.ok) (f s : Int) {b : List Nat} (hb : ∀ c ∈ b, c < 256) : (d.write f s b).2.ok := by
  unfold DS.write
  have hc := DS.change_ok h
  split
  · exact h
  · rename_i hn
    split
    · exact h
    · split
      · exact h
      · split
        · rename_i d' e; rw [e] at hc; exact hc
        · rename_i d' e
          rw [e] at hc
          exact DS.put_ok hc ⟨by show f.toNat < 2; omega, by show s.toNat < 65536; omega, by show b.length = 128; omega, hb⟩
theorem DS.crash_ok {d : DS} (h : d.ok) (keep : List Nat) : (d.crash keep).ok := by
  obtain ⟨h1, h2, h3, h4, h5⟩ := h
  have := foldl_ok h3 (keptOf keep d.pend 0) (fun x hx => h4 x (kept_mem keep _ _ x hx))
  exact ⟨h1, this, this, by simp [DS.crash], by simp [DS.crash]⟩
end Go.Proofs.Ytaggghfnbllbgaa
