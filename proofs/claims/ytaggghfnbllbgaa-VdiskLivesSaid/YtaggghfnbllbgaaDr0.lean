/- The reference's disk: a list of all that was written; the mathematics. -/
import Derived.Test.YtaggghfnbllbgaaDMath
namespace Go.Proofs.Ytaggghfnbllbgaa
set_option linter.unusedSimpArgs false

/-- A write of the reference: with its mark. -/
structure RWr where
  x : Wr
  sure : Bool

def atW (f s : Nat) (x : Wr) : Bool := x.f == f && x.s == s
/-- What a list of writes wrote last at a sector, and the length that it gives a file. -/
def lastAt (l : List Wr) (f s : Nat) : Option (List Nat) := ((l.filter (atW f s)).getLast?).map (·.b)
def lenAt (l : List Wr) (f : Nat) : Nat := l.foldl (fun n x => if x.f = f then max n (x.s + 1) else n) 0

theorem lastAt_cons (x : Wr) (l : List Wr) (f s : Nat) : lastAt (x :: l) f s = match lastAt l f s with
    | some b => some b
    | none => if atW f s x then some x.b else none := by
  unfold lastAt
  rw [List.filter_cons]
  by_cases h : atW f s x = true
  · rw [if_pos h, List.getLast?_cons]
    cases hl : (l.filter (atW f s)).getLast? with
    | none => simp [h]
    | some y => simp
  · rw [if_neg h]
    cases hl : (l.filter (atW f s)).getLast? with
    | none => simp [h]
    | some y => simp
theorem lastAt_append (l r : List Wr) (f s : Nat) : lastAt (l ++ r) f s = (lastAt r f s).or (lastAt l f s) := by
  unfold lastAt
  rw [List.filter_append, List.getLast?_append]
  cases (r.filter (atW f s)).getLast? <;> simp
theorem lastAt_file (l : List Wr) (f s : Nat) : lastAt (l.filter fun x => x.f == f) f s = lastAt l f s := by
  unfold lastAt
  rw [List.filter_filter]
  congr 2
  apply List.filter_congr
  intro x _
  unfold atW
  by_cases h : x.f = f <;> simp [h]
theorem lastAt_off (l : List Wr) (f g s : Nat) (h : g ≠ f) : lastAt (l.filter fun x => x.f == f) g s = none := by
  unfold lastAt
  rw [List.filter_filter]
  have : (l.filter fun x => atW g s x && x.f == f) = [] := by
    rw [List.filter_eq_nil_iff]
    intro x _
    unfold atW
    simp
    intro h1 _ h2
    exact h (h1.symm.trans h2)
  rw [this]; rfl

theorem foldl_max (l : List Wr) (f : Nat) : ∀ n, l.foldl (fun n x => if x.f = f then max n (x.s + 1) else n) n = max n (lenAt l f) := by
  unfold lenAt
  induction l with
  | nil => intro n; simp
  | cons x l ih =>
    intro n
    rw [List.foldl_cons, List.foldl_cons, ih, ih (if x.f = f then max 0 (x.s + 1) else 0)]
    split <;> omega
theorem lenAt_append (l r : List Wr) (f : Nat) : lenAt (l ++ r) f = max (lenAt l f) (lenAt r f) := by
  rw [lenAt, List.foldl_append, foldl_max r f]; rfl
theorem lenAt_cons (x : Wr) (l : List Wr) (f : Nat) : lenAt (x :: l) f = max (if x.f = f then x.s + 1 else 0) (lenAt l f) := by
  rw [lenAt, List.foldl_cons, foldl_max l f]
  split <;> omega
theorem lenAt_file (l : List Wr) (f : Nat) : lenAt (l.filter fun x => x.f == f) f = lenAt l f := by
  induction l with
  | nil => rfl
  | cons x l ih =>
    rw [List.filter_cons, lenAt_cons]
    by_cases h : x.f = f
    · rw [if_pos (by simp [h]), lenAt_cons, ih]
    · rw [if_neg (by simp [h]), ih, if_neg h]; omega
theorem lenAt_off (l : List Wr) (f g : Nat) (h : g ≠ f) : lenAt (l.filter fun x => x.f == f) g = 0 := by
  induction l with
  | nil => rfl
  | cons x l ih =>
    rw [List.filter_cons]
    by_cases hx : x.f = f
    · rw [if_pos (by simp [hx]), lenAt_cons, ih, if_neg (by rw [hx]; exact fun e => h e.symm)]; rfl
    · rw [if_neg (by simp [hx]), ih]

theorem foldW_get : ∀ (l : List Wr) (c : Cont) (f s : Nat), (l.foldl Cont.wr c).get f s = (lastAt l f s).or (c.get f s)
  | [], c, f, s => rfl
  | x :: l, c, f, s => by
    rw [List.foldl_cons, foldW_get l, lastAt_cons]
    cases hl : lastAt l f s with
    | some b => simp
    | none =>
      simp only [Option.none_or]
      show (if f = x.f ∧ s = x.s then some x.b else c.get f s) = _
      by_cases h : f = x.f ∧ s = x.s
      · rw [if_pos h, if_pos (by unfold atW; simp [h.1, h.2])]; rfl
      · rw [if_neg h, if_neg (by unfold atW; simp; intro h1 h2; exact h ⟨h1.symm, h2.symm⟩)]; rfl
theorem foldW_len : ∀ (l : List Wr) (c : Cont) (f : Nat), (l.foldl Cont.wr c).len f = max (c.len f) (lenAt l f)
  | [], c, f => by simp [lenAt]
  | x :: l, c, f => by
    rw [List.foldl_cons, foldW_len l, lenAt_cons]
    show max (if f = x.f then max (c.len f) (x.s + 1) else c.len f) (lenAt l f) = _
    by_cases h : f = x.f
    · rw [if_pos h, if_pos h.symm]; omega
    · rw [if_neg h, if_neg (fun e => h e.symm)]; omega

def allW (L : List RWr) : List Wr := L.map (·.x)
def sureW (L : List RWr) : List Wr := (L.filter (·.sure)).map (·.x)
def pendW (L : List RWr) : List Wr := (L.filter fun y => !y.sure).map (·.x)

/-- In no file does a write that is sure stand behind one that is not. -/
def InOrder : List RWr → Prop
  | [] => True
  | y :: L => (y.sure = false → ∀ z ∈ L, z.sure = true → z.x.f ≠ y.x.f) ∧ InOrder L

theorem split_file {f : Nat} : ∀ {L : List RWr}, InOrder L → (allW L).filter (fun x => x.f == f) = ((sureW L).filter fun x => x.f == f) ++ ((pendW L).filter fun x => x.f == f)
  | [], _ => rfl
  | y :: L, ⟨h1, h2⟩ => by
    have ih := split_file (f := f) h2
    have e1 : allW (y :: L) = y.x :: allW L := rfl
    cases hs : y.sure with
    | true =>
      have e2 : sureW (y :: L) = y.x :: sureW L := by unfold sureW; simp [hs]
      have e3 : pendW (y :: L) = pendW L := by unfold pendW; simp [hs]
      rw [e1, e2, e3, List.filter_cons, List.filter_cons, ih]
      split <;> simp
    | false =>
      have e2 : sureW (y :: L) = sureW L := by unfold sureW; simp [hs]
      have e3 : pendW (y :: L) = y.x :: pendW L := by unfold pendW; simp [hs]
      rw [e1, e2, e3, List.filter_cons, List.filter_cons]
      by_cases hf : y.x.f = f
      · rw [if_pos (by simp [hf]), if_pos (by simp [hf]), ih]
        have : ((sureW L).filter fun x => x.f == f) = [] := by
          rw [List.filter_eq_nil_iff]
          intro x hx
          unfold sureW at hx
          obtain ⟨z, hz, rfl⟩ := List.mem_map.1 hx
          obtain ⟨hz1, hz2⟩ := List.mem_filter.1 hz
          have := h1 hs z hz1 (by simpa using hz2)
          rw [hf] at this
          simpa using this
        rw [this]; rfl
      · rw [if_neg (by simp [hf]), if_neg (by simp [hf]), ih]

theorem InOrder.append_pend {L : List RWr} (h : InOrder L) (x : Wr) : InOrder (L ++ [⟨x, false⟩]) := by
  induction L with
  | nil => exact ⟨fun _ z hz => by simp at hz, trivial⟩
  | cons y L ih =>
    obtain ⟨h1, h2⟩ := h
    refine ⟨fun hs z hz hz2 => ?_, ih h2⟩
    rcases List.mem_append.1 hz with hz | hz
    · exact h1 hs z hz hz2
    · obtain rfl := List.mem_singleton.1 hz
      cases hz2

/-- The marks behind a Sync. -/
def markF (f : Nat) (y : RWr) : RWr := if y.x.f = f then ⟨y.x, true⟩ else y
theorem InOrder.mark {L : List RWr} (h : InOrder L) (f : Nat) : InOrder (L.map (markF f)) := by
  induction L with
  | nil => trivial
  | cons y L ih =>
    obtain ⟨h1, h2⟩ := h
    refine ⟨fun hs z hz hz2 => ?_, ih h2⟩
    obtain ⟨u, hu, rfl⟩ := List.mem_map.1 hz
    unfold markF at hs hz2 ⊢
    by_cases hy : y.x.f = f
    · rw [if_pos hy] at hs; cases hs
    · rw [if_neg hy] at hs ⊢
      by_cases hu2 : u.x.f = f
      · rw [if_pos hu2]
        show u.x.f ≠ y.x.f
        rw [hu2]; exact fun e => hy e.symm
      · rw [if_neg hu2] at hz2 ⊢
        exact h1 hs u hu hz2
theorem InOrder.allSure : ∀ {L : List RWr}, (∀ y ∈ L, y.sure = true) → InOrder L
  | [], _ => trivial
  | y :: L, h => ⟨fun hs => absurd hs (by rw [h y (by simp)]; simp), InOrder.allSure (fun z hz => h z (by simp [hz]))⟩

/-- What a crash leaves of the list, the first of whose pending writes has number i. -/
def crashL (keep : List Nat) : List RWr → Nat → List RWr
  | [], _ => []
  | y :: L, i => if y.sure then y :: crashL keep L i else if bitOf keep i then ⟨y.x, true⟩ :: crashL keep L (i + 1) else crashL keep L (i + 1)

theorem crashL_sure (keep : List Nat) : ∀ (L : List RWr) (i : Nat), ∀ y ∈ crashL keep L i, y.sure = true
  | [], _, y, h => by simp [crashL] at h
  | z :: L, i, y, h => by
    unfold crashL at h
    split at h
    · rename_i hz
      rcases List.mem_cons.1 h with rfl | h
      · exact hz
      · exact crashL_sure keep L i y h
    · split at h
      · rcases List.mem_cons.1 h with rfl | h
        · rfl
        · exact crashL_sure keep L _ y h
      · exact crashL_sure keep L _ y h

theorem crash_file {keep : List Nat} {f : Nat} : ∀ {L : List RWr} {i : Nat}, InOrder L →
    (allW (crashL keep L i)).filter (fun x => x.f == f) = ((sureW L).filter fun x => x.f == f) ++ ((keptOf keep (pendW L) i).filter fun x => x.f == f)
  | [], i, _ => rfl
  | y :: L, i, ⟨h1, h2⟩ => by
    cases hs : y.sure with
    | true =>
      have ih := crash_file (keep := keep) (f := f) (i := i) h2
      have e2 : sureW (y :: L) = y.x :: sureW L := by unfold sureW; simp [hs]
      have e3 : pendW (y :: L) = pendW L := by unfold pendW; simp [hs]
      have e1 : allW (crashL keep (y :: L) i) = y.x :: allW (crashL keep L i) := by rw [crashL, if_pos hs]; rfl
      rw [e1, e2, e3, List.filter_cons, List.filter_cons, ih]
      split <;> simp
    | false =>
      have ih := crash_file (keep := keep) (f := f) (i := i + 1) h2
      have e2 : sureW (y :: L) = sureW L := by unfold sureW; simp [hs]
      have e3 : pendW (y :: L) = y.x :: pendW L := by unfold pendW; simp [hs]
      rw [e2, e3]
      have e1 : allW (crashL keep (y :: L) i) = if bitOf keep i then y.x :: allW (crashL keep L (i + 1)) else allW (crashL keep L (i + 1)) := by
        rw [crashL, if_neg (by simp [hs])]
        split <;> rfl
      have e4 : keptOf keep (y.x :: pendW L) i = if bitOf keep i then y.x :: keptOf keep (pendW L) (i + 1) else keptOf keep (pendW L) (i + 1) := rfl
      rw [e1, e4]
      by_cases hb : bitOf keep i = true
      · rw [if_pos hb, if_pos hb, List.filter_cons, List.filter_cons]
        by_cases hf : y.x.f = f
        · rw [if_pos (by simp [hf]), if_pos (by simp [hf]), ih]
          have : ((sureW L).filter fun x => x.f == f) = [] := by
            rw [List.filter_eq_nil_iff]
            intro x hx
            unfold sureW at hx
            obtain ⟨z, hz, rfl⟩ := List.mem_map.1 hx
            obtain ⟨hz1, hz2⟩ := List.mem_filter.1 hz
            have := h1 hs z hz1 (by simpa using hz2)
            rw [hf] at this
            simpa using this
          rw [this]; rfl
        · rw [if_neg (by simp [hf]), if_neg (by simp [hf]), ih]
      · rw [if_neg hb, if_neg hb, ih]

/-- The state of the reference's disk. -/
structure RS where
  quota : Int
  L : List RWr
  calls : Nat
  plan : Int
  down : Bool

/-- The disk d and the reference's x tell the same. -/
structure Twin (d : DS) (x : RS) : Prop where
  quota : x.quota = (d.quota : Int)
  calls : x.calls = d.calls
  plan : x.plan = leftI d.left
  down : x.down = d.down
  pend : d.pend = pendW x.L
  vget : ∀ f s, d.vis.get f s = lastAt (allW x.L) f s
  vlen : ∀ f, d.vis.len f = lenAt (allW x.L) f
  dget : ∀ f s, d.dur.get f s = lastAt (sureW x.L) f s
  dlen : ∀ f, d.dur.len f = lenAt (sureW x.L) f
  order : InOrder x.L

theorem Twin.new (q : Nat) : Twin (DS.new q) ⟨q, [], 0, -1, false⟩ :=
  ⟨rfl, rfl, rfl, rfl, rfl, fun _ _ => rfl, fun _ => rfl, fun _ _ => rfl, fun _ => rfl, trivial⟩

theorem allW_snoc (L : List RWr) (y : RWr) : allW (L ++ [y]) = allW L ++ [y.x] := by simp [allW]
theorem sureW_snoc (L : List RWr) (x : Wr) : sureW (L ++ [⟨x, false⟩]) = sureW L := by simp [sureW]
theorem pendW_snoc (L : List RWr) (x : Wr) : pendW (L ++ [⟨x, false⟩]) = pendW L ++ [x] := by simp [pendW]

theorem Twin.put {d : DS} {x : RS} (h : Twin d x) (y : Wr) : Twin (d.put y) { x with L := x.L ++ [⟨y, false⟩] } := by
  refine ⟨h.quota, h.calls, h.plan, h.down, ?_, fun f s => ?_, fun f => ?_, fun f s => ?_, fun f => ?_, h.order.append_pend y⟩
  · show d.pend ++ [y] = _
    rw [pendW_snoc, h.pend]
  · show (d.vis.wr y).get f s = _
    rw [allW_snoc, lastAt_append, ← h.vget]
    exact foldW_get [y] d.vis f s
  · show (d.vis.wr y).len f = _
    rw [allW_snoc, lenAt_append, ← h.vlen]
    exact foldW_len [y] d.vis f
  · show d.dur.get f s = _
    rw [sureW_snoc, h.dget]
  · show d.dur.len f = _
    rw [sureW_snoc, h.dlen]

theorem allW_mark (L : List RWr) (f : Nat) : allW (L.map (markF f)) = allW L := by
  unfold allW
  rw [List.map_map]
  congr 1
  funext y
  show (markF f y).x = y.x
  unfold markF
  split <;> rfl
theorem pendW_mark (L : List RWr) (f : Nat) : pendW (L.map (markF f)) = (pendW L).filter fun x => x.f != f := by
  induction L with
  | nil => rfl
  | cons y L ih =>
    unfold pendW at ih ⊢
    rw [List.map_cons, List.filter_cons, List.filter_cons]
    by_cases hy : y.x.f = f
    · have : (markF f y).sure = true := by unfold markF; rw [if_pos hy]
      rw [if_neg (by simp [this]), ih]
      split
      · rw [List.map_cons, List.filter_cons, if_neg (by simp [hy])]
      · rfl
    · have e : markF f y = y := by unfold markF; rw [if_neg hy]
      rw [e]
      split
      · rw [List.map_cons, List.map_cons, List.filter_cons, if_pos (by simp [hy]), ih]
      · exact ih
theorem sureW_mark_off (L : List RWr) (f g : Nat) (h : g ≠ f) : ((sureW (L.map (markF f))).filter fun x => x.f == g) = (sureW L).filter fun x => x.f == g := by
  induction L with
  | nil => rfl
  | cons y L ih =>
    unfold sureW at ih ⊢
    rw [List.map_cons, List.filter_cons, List.filter_cons]
    by_cases hy : y.x.f = f
    · have e : (markF f y).sure = true := by unfold markF; rw [if_pos hy]
      have e2 : (markF f y).x = y.x := by unfold markF; rw [if_pos hy]
      have hg : ¬ y.x.f = g := fun e => h (e.symm.trans hy)
      rw [if_pos e, List.map_cons, List.filter_cons, e2, if_neg (by simpa using hg), ih]
      split
      · rw [List.map_cons, List.filter_cons, if_neg (by simpa using hg)]
      · rfl
    · have e : markF f y = y := by unfold markF; rw [if_neg hy]
      rw [e]
      split
      · rw [List.map_cons, List.map_cons, List.filter_cons, List.filter_cons, ih]
      · exact ih
theorem sureW_mark_on (L : List RWr) (f : Nat) : ((sureW (L.map (markF f))).filter fun x => x.f == f) = (allW L).filter fun x => x.f == f := by
  induction L with
  | nil => rfl
  | cons y L ih =>
    unfold sureW allW at ih ⊢
    rw [List.map_cons, List.filter_cons, List.map_cons, List.filter_cons]
    by_cases hy : y.x.f = f
    · have e : (markF f y).sure = true := by unfold markF; rw [if_pos hy]
      have e2 : (markF f y).x = y.x := by unfold markF; rw [if_pos hy]
      rw [if_pos e, List.map_cons, List.filter_cons, e2, if_pos (by simp [hy]), if_pos (by simp [hy]), ih]
    · have e : markF f y = y := by unfold markF; rw [if_neg hy]
      rw [e, if_neg (show ¬ (y.x.f == f) = true by simp [hy])]
      split
      · rw [List.map_cons, List.filter_cons, if_neg (show ¬ (y.x.f == f) = true by simp [hy]), ih]
      · exact ih

theorem lastAt_byfile {l r : List Wr} {f : Nat} (h : (l.filter fun x => x.f == f) = r.filter fun x => x.f == f) (s : Nat) : lastAt l f s = lastAt r f s := by
  rw [← lastAt_file l, ← lastAt_file r, h]
theorem lenAt_byfile {l r : List Wr} {f : Nat} (h : (l.filter fun x => x.f == f) = r.filter fun x => x.f == f) : lenAt l f = lenAt r f := by
  rw [← lenAt_file l, ← lenAt_file r, h]

/-- The contents behind a Sync are those of the marked list. -/
theorem Twin.marked {d : DS} {x : RS} (h : Twin d x) (f : Nat) :
    Twin { d with dur := (d.pend.filter fun y => y.f == f).foldl Cont.wr d.dur, pend := d.pend.filter fun y => y.f != f } { x with L := x.L.map (markF f) } := by
  refine ⟨h.quota, h.calls, h.plan, h.down, ?_, fun g s => ?_, fun g => ?_, fun g s => ?_, fun g => ?_, h.order.mark f⟩
  · show (d.pend.filter fun y => y.f != f) = _
    rw [pendW_mark, h.pend]
  · show d.vis.get g s = _
    rw [allW_mark]; exact h.vget g s
  · show d.vis.len g = _
    rw [allW_mark]; exact h.vlen g
  · show ((d.pend.filter fun y => y.f == f).foldl Cont.wr d.dur).get g s = _
    rw [foldW_get, h.dget, h.pend]
    by_cases hg : g = f
    · subst hg
      rw [lastAt_byfile (sureW_mark_on x.L g) s, ← lastAt_file (allW x.L), split_file h.order, lastAt_append, lastAt_file, lastAt_file]
    · rw [lastAt_off _ _ _ _ hg, lastAt_byfile (sureW_mark_off x.L f g hg) s]; rfl
  · show ((d.pend.filter fun y => y.f == f).foldl Cont.wr d.dur).len g = _
    rw [foldW_len, h.dlen, h.pend]
    by_cases hg : g = f
    · subst hg
      rw [lenAt_byfile (sureW_mark_on x.L g), ← lenAt_file (allW x.L), split_file h.order, lenAt_append, lenAt_file, lenAt_file]
    · rw [lenAt_off _ _ _ hg, lenAt_byfile (sureW_mark_off x.L f g hg)]; omega

theorem allW_eq_sureW {L : List RWr} (h : ∀ y ∈ L, y.sure = true) : sureW L = allW L ∧ pendW L = [] := by
  unfold sureW allW pendW
  constructor
  · rw [List.filter_eq_self.2 h]
  · rw [List.filter_eq_nil_iff.2 (fun y hy => by simp [h y hy])]; rfl

theorem Twin.crash {d : DS} {x : RS} (h : Twin d x) (keep : List Nat) : Twin (d.crash keep) { x with L := crashL keep x.L 0, plan := -1, down := false } := by
  obtain ⟨e1, e2⟩ := allW_eq_sureW (crashL_sure keep x.L 0)
  have hget : ∀ f s, ((keptOf keep d.pend 0).foldl Cont.wr d.dur).get f s = lastAt (allW (crashL keep x.L 0)) f s := fun f s => by
    rw [foldW_get, h.dget, h.pend, ← lastAt_file (allW _), crash_file h.order, lastAt_append, lastAt_file, lastAt_file]
  have hlen : ∀ f, ((keptOf keep d.pend 0).foldl Cont.wr d.dur).len f = lenAt (allW (crashL keep x.L 0)) f := fun f => by
    rw [foldW_len, h.dlen, h.pend, ← lenAt_file (allW _), crash_file h.order, lenAt_append, lenAt_file, lenAt_file]
  exact ⟨h.quota, h.calls, rfl, rfl, by show [] = pendW _; rw [e2], hget, hlen, fun f s => by show _ = lastAt (sureW _) f s; rw [e1]; exact hget f s, fun f => by show _ = lenAt (sureW _) f; rw [e1]; exact hlen f, InOrder.allSure (crashL_sure keep x.L 0)⟩
end Go.Proofs.Ytaggghfnbllbgaa
