/- VdiskLasts: the mathematics. -/
import Derived.Test.YtaggghfnbllbgaaDk20
namespace Go.Proofs.Ytaggghfnbllbgaa
set_option linter.unusedSimpArgs false
open Go.RowKit

/-- A pending write of one byte, in short: its file, sector and byte. -/
abbrev PW := Nat × Nat × Nat
def pwWr (x : PW) : Wr := ⟨x.1, x.2.1, List.replicate 128 x.2.2⟩
def atP (f s : Nat) (x : PW) : Bool := x.1 == f && x.2.1 == s
/-- The bytes that wait for a sector, in their order. -/
def waitsOf (P : List PW) (f s : Nat) : List Nat := (P.filter (atP f s)).map (·.2.2)

theorem waitsOf_snoc (P : List PW) (x : PW) (f s : Nat) : waitsOf (P ++ [x]) f s = if atP f s x then waitsOf P f s ++ [x.2.2] else waitsOf P f s := by
  unfold waitsOf
  rw [List.filter_append]
  by_cases h : atP f s x = true <;> simp [h]
theorem waitsOf_cons (P : List PW) (x : PW) (f s : Nat) : waitsOf (x :: P) f s = if atP f s x then x.2.2 :: waitsOf P f s else waitsOf P f s := by
  unfold waitsOf
  by_cases h : atP f s x = true <;> simp [h]
theorem waitsOf_sub {P Q : List PW} (h : ∀ x ∈ Q, x ∈ P) {f s c : Nat} (hc : c ∈ waitsOf Q f s) : c ∈ waitsOf P f s := by
  unfold waitsOf at hc ⊢
  obtain ⟨x, hx, rfl⟩ := List.mem_map.1 hc
  obtain ⟨h1, h2⟩ := List.mem_filter.1 hx
  exact List.mem_map.2 ⟨x, List.mem_filter.2 ⟨h x h1, h2⟩, rfl⟩
theorem waitsOf_le (P : List PW) (f s : Nat) : (waitsOf P f s).length ≤ P.length := by
  unfold waitsOf
  rw [List.length_map]
  exact List.length_filter_le _ _
theorem waitsOf_file (P : List PW) (f g s : Nat) : waitsOf (P.filter fun x => x.1 != f) g s = if g = f then [] else waitsOf P g s := by
  induction P with
  | nil => unfold waitsOf; split <;> rfl
  | cons x P ih =>
    rw [List.filter_cons, waitsOf_cons]
    by_cases hx : x.1 = f
    · rw [if_neg (by simp [hx]), ih]
      by_cases hg : g = f
      · rw [if_pos hg, if_pos hg]
      · rw [if_neg hg, if_neg hg, if_neg]
        unfold atP
        simp
        intro h
        exact absurd (h.symm.trans hx) hg
    · rw [if_pos (by simp [hx]), waitsOf_cons, ih]
      by_cases hg : g = f
      · rw [if_pos hg, if_pos hg]
        rw [if_neg]
        unfold atP
        simp
        intro h
        exact absurd (h.trans hg) hx
      · rw [if_neg hg, if_neg hg]
theorem waitsOf_of (P : List PW) (f s : Nat) : waitsOf (P.filter fun x => x.1 == f) f s = waitsOf P f s := by
  unfold waitsOf
  rw [List.filter_filter]
  congr 1
  apply List.filter_congr
  intro x _
  unfold atP
  by_cases h : x.1 = f <;> simp [h]
theorem waitsOf_off (P : List PW) (f g s : Nat) (h : g ≠ f) : waitsOf (P.filter fun x => x.1 == f) g s = [] := by
  unfold waitsOf
  rw [List.filter_filter]
  have : (P.filter fun x => atP g s x && x.1 == f) = [] := by
    rw [List.filter_eq_nil_iff]
    intro x _
    unfold atP
    simp
    intro h1 _ h2
    exact h (h1.symm.trans h2)
  rw [this]; rfl

/-- What a list of writes makes of a sector. -/
theorem fold_get : ∀ (P : List PW) (c : Cont) (f s : Nat), ((P.map pwWr).foldl Cont.wr c).get f s = match (waitsOf P f s).getLast? with
    | some b => some (List.replicate 128 b)
    | none => c.get f s
  | [], c, f, s => rfl
  | x :: P, c, f, s => by
    rw [List.map_cons, List.foldl_cons, fold_get P, waitsOf_cons]
    by_cases h : atP f s x = true
    · rw [if_pos h, List.getLast?_cons]
      have h' : x.1 = f ∧ x.2.1 = s := by unfold atP at h; simpa using h
      cases hl : (waitsOf P f s).getLast? with
      | none =>
        simp only [Option.getD_none]
        show (if f = x.1 ∧ s = x.2.1 then _ else _) = _
        rw [if_pos ⟨h'.1.symm, h'.2.symm⟩]
        rfl
      | some b => simp only [Option.getD_some]
    · rw [if_neg h]
      have h' : ¬ (x.1 = f ∧ x.2.1 = s) := by unfold atP at h; simpa using h
      cases hl : (waitsOf P f s).getLast? with
      | none =>
        simp only
        show (if f = x.1 ∧ s = x.2.1 then _ else _) = _
        rw [if_neg (fun e => h' ⟨e.1.symm, e.2.symm⟩)]
      | some b => rfl
theorem fold_len : ∀ (P : List PW) (c : Cont), (∀ x ∈ P, x.2.1 < 4) → (∀ f, c.len f ≤ 4) → ∀ f, ((P.map pwWr).foldl Cont.wr c).len f ≤ 4 ∧ c.len f ≤ ((P.map pwWr).foldl Cont.wr c).len f
  | [], c, _, h, f => ⟨h f, Nat.le_refl _⟩
  | x :: P, c, hx, h, f => by
    rw [List.map_cons, List.foldl_cons]
    have hs := hx x (by simp)
    have hl : ∀ g, (c.wr (pwWr x)).len g ≤ 4 ∧ c.len g ≤ (c.wr (pwWr x)).len g := fun g => by
      show (if g = x.1 then max (c.len g) (x.2.1 + 1) else c.len g) ≤ 4 ∧ c.len g ≤ (if g = x.1 then max (c.len g) (x.2.1 + 1) else c.len g)
      have := h g
      split <;> omega
    have ih := fold_len P (c.wr (pwWr x)) (fun y hy => hx y (by simp [hy])) (fun g => (hl g).1) f
    exact ⟨ih.1, Nat.le_trans (hl f).2 ih.2⟩

structure LastR (d : DS) (sure : Nat → Nat → Nat) (P : List PW) (k : Nat) : Prop where
  quota : d.quota = 20
  calls : d.calls ≤ k
  pend : d.pend = P.map pwWr
  few : P.length ≤ k
  each : ∀ x ∈ P, x.1 < 2 ∧ x.2.1 < 4 ∧ x.2.2 < 256
  len : ∀ f, d.dur.len f ≤ 4
  vlen : ∀ f, d.vis.len f ≤ 4
  get : ∀ f s, (d.dur.get f s).getD noughts = List.replicate 128 (sure f s)
  byte : ∀ f s, sure f s < 256

theorem LastR.new : LastR (DS.new 20) (fun _ _ => 0) [] 0 :=
  ⟨rfl, by simp [DS.new], rfl, by simp, by simp, fun f => by simp [DS.new, Cont.empty], fun f => by simp [DS.new, Cont.empty], fun f s => by simp [DS.new, Cont.empty, noughts], fun _ _ => by omega⟩
theorem LastR.mono {d : DS} {sure : Nat → Nat → Nat} {P : List PW} {k : Nat} (h : LastR d sure P k) : LastR d sure P (k + 1) :=
  ⟨h.quota, by have := h.calls; omega, h.pend, by have := h.few; omega, h.each, h.len, h.vlen, h.get, h.byte⟩
/-- A state that has the same contents. -/
theorem LastR.same {d d' : DS} {sure : Nat → Nat → Nat} {P : List PW} {k : Nat} (h : LastR d sure P k) (hq : d'.quota = d.quota) (hc : d'.calls ≤ k + 1) (hp : d'.pend = d.pend) (hd : d'.dur = d.dur) (hv : d'.vis = d.vis) : LastR d' sure P (k + 1) :=
  ⟨hq.trans h.quota, hc, hp.trans h.pend, by have := h.few; omega, h.each, by rw [hd]; exact h.len, by rw [hv]; exact h.vlen, by rw [hd]; exact h.get, h.byte⟩

theorem change_calls (d : DS) : d.change.1.calls ≤ d.calls + 1 := by
  unfold DS.change
  split
  · show d.calls ≤ _; omega
  · exact Nat.le_refl _
theorem change_keeps (d : DS) : d.change.1.quota = d.quota ∧ d.change.1.pend = d.pend ∧ d.change.1.dur = d.dur ∧ d.change.1.vis = d.vis := by
  unfold DS.change
  split <;> exact ⟨rfl, rfl, rfl, rfl⟩

theorem LastR.write {d : DS} {sure : Nat → Nat → Nat} {P : List PW} {k : Nat} (h : LastR d sure P k) (f s c : Nat) (hf : f < 2) (hs : s < 4) (hc : c < 256) :
    ∃ r d', d.write (f : Int) (s : Int) (List.replicate 128 c) = (r, d') ∧ ((r = 0 ∧ LastR d' sure (P ++ [(f, s, c)]) (k + 1)) ∨ (r = 51 ∧ LastR d' sure P (k + 1))) := by
  have hfit : d.fits f s = true := by
    unfold DS.fits
    have h1 := h.vlen (1 - f)
    rw [h.quota]
    simp only [Bool.or_eq_true, decide_eq_true_eq]
    omega
  have hcl := h.calls
  have hch := change_calls d
  obtain ⟨e1, e2, e3, e4⟩ := change_keeps d
  unfold DS.write
  rw [if_neg (by simp; omega), Int.toNat_natCast, Int.toNat_natCast]
  by_cases hd : d.down = true
  · rw [if_pos hd]
    exact ⟨51, d, rfl, .inr ⟨rfl, h.mono⟩⟩
  · rw [if_neg hd, hfit, if_neg (by simp)]
    rcases hcd : d.change with ⟨d', go⟩
    rw [hcd] at hch e1 e2 e3 e4
    cases go with
    | false => exact ⟨51, d', rfl, .inr ⟨rfl, h.same e1 (by simp only at hch; omega) e2 e3 e4⟩⟩
    | true =>
      refine ⟨0, _, rfl, .inl ⟨rfl, ⟨e1.trans h.quota, ?_, ?_, ?_, ?_, ?_, ?_, ?_, h.byte⟩⟩⟩
      · show d'.calls ≤ _
        simp only at hch; omega
      · show d'.pend ++ [_] = _
        rw [show d'.pend = d.pend from e2, h.pend, List.map_append]; rfl
      · have := h.few; simp; omega
      · intro x hx
        rcases List.mem_append.1 hx with hx | hx
        · exact h.each x hx
        · obtain rfl := List.mem_singleton.1 hx; exact ⟨hf, hs, hc⟩
      · show ∀ g, d'.dur.len g ≤ 4
        rw [show d'.dur = d.dur from e3]; exact h.len
      · intro g
        show (if g = f then max (d'.vis.len g) (s + 1) else d'.vis.len g) ≤ 4
        rw [show d'.vis = d.vis from e4]
        have := h.vlen g
        split <;> omega
      · show ∀ g t, (d'.dur.get g t).getD noughts = _
        rw [show d'.dur = d.dur from e3]; exact h.get

/-- What is sure behind the Sync of a file. -/
def syncS (sure : Nat → Nat → Nat) (P : List PW) (f : Nat) : Nat → Nat → Nat := fun g s => if g = f then ((waitsOf P f s).getLast?).getD (sure g s) else sure g s

theorem LastR.sync {d : DS} {sure : Nat → Nat → Nat} {P : List PW} {k : Nat} (h : LastR d sure P k) (f : Nat) (hf : f < 2) :
    ∃ r d', d.sync (f : Int) = (r, d') ∧ ((r = 0 ∧ LastR d' (syncS sure P f) (P.filter fun x => x.1 != f) (k + 1)) ∨ (r = 51 ∧ LastR d' sure P (k + 1))) := by
  have hcl := h.calls
  have hch := change_calls d
  obtain ⟨e1, e2, e3, e4⟩ := change_keeps d
  unfold DS.sync
  rw [if_neg (by omega), Int.toNat_natCast]
  by_cases hd : d.down = true
  · rw [if_pos hd]
    exact ⟨51, d, rfl, .inr ⟨rfl, h.mono⟩⟩
  · rw [if_neg hd]
    rcases hcd : d.change with ⟨d', go⟩
    rw [hcd] at hch e1 e2 e3 e4
    simp only at hch e1 e2 e3 e4
    cases go with
    | false => exact ⟨51, d', rfl, .inr ⟨rfl, h.same e1 (by omega) e2 e3 e4⟩⟩
    | true =>
      have hA : (d'.pend.filter fun x => x.f == f) = (P.filter fun x => x.1 == f).map pwWr := by
        rw [e2, h.pend, List.filter_map]; rfl
      have hB : (d'.pend.filter fun x => x.f != f) = (P.filter fun x => x.1 != f).map pwWr := by
        rw [e2, h.pend, List.filter_map]; rfl
      have hin : ∀ x ∈ (P.filter fun x => x.1 == f), x.2.1 < 4 := fun x hx => (h.each x (List.mem_filter.1 hx).1).2.1
      refine ⟨0, _, rfl, .inl ⟨rfl, ⟨e1.trans h.quota, ?_, hB, ?_, ?_, ?_, ?_, ?_, ?_⟩⟩⟩
      · show d'.calls ≤ _
        omega
      · have := h.few
        have := List.length_filter_le (fun x : PW => x.1 != f) P
        omega
      · intro x hx
        exact h.each x (List.mem_filter.1 hx).1
      · intro g
        show ((d'.pend.filter fun x => x.f == f).foldl Cont.wr d'.dur).len g ≤ 4
        rw [hA, e3]
        exact (fold_len _ _ hin h.len g).1
      · show ∀ g, d'.vis.len g ≤ 4
        rw [e4]; exact h.vlen
      · intro g t
        show (((d'.pend.filter fun x => x.f == f).foldl Cont.wr d'.dur).get g t).getD noughts = _
        rw [hA, e3, fold_get]
        unfold syncS
        by_cases hg : g = f
        · subst hg
          rw [if_pos rfl, waitsOf_of]
          cases hl : (waitsOf P g t).getLast? with
          | none => simp only [Option.getD_none]; exact h.get g t
          | some b => rfl
        · rw [if_neg hg, waitsOf_off _ _ _ _ hg]
          exact h.get g t
      · intro g t
        unfold syncS
        split
        · cases hl : (waitsOf P f t).getLast? with
          | none => exact h.byte g t
          | some b =>
            have hm := List.mem_of_getLast? hl
            unfold waitsOf at hm
            obtain ⟨x, hx, rfl⟩ := List.mem_map.1 hm
            exact (h.each x (List.mem_filter.1 hx).1).2.2
        · exact h.byte g t

theorem LastR.fail {d : DS} {sure : Nat → Nat → Nat} {P : List PW} {k : Nat} (h : LastR d sure P k) (n : Int) : LastR (d.fail n).2 sure P (k + 1) := by
  unfold DS.fail
  have := h.calls
  split
  · exact h.mono
  · exact h.same rfl (by show d.calls ≤ _; omega) rfl rfl rfl

theorem kept_map (keep : List Nat) : ∀ (P : List PW) (i : Nat), ∃ Q : List PW, keptOf keep (P.map pwWr) i = Q.map pwWr ∧ ∀ x ∈ Q, x ∈ P
  | [], _ => ⟨[], rfl, by simp⟩
  | y :: P, i => by
    obtain ⟨Q, h1, h2⟩ := kept_map keep P (i + 1)
    rw [List.map_cons]
    unfold keptOf
    split
    · exact ⟨y :: Q, by rw [h1]; rfl, fun x hx => by
        rcases List.mem_cons.1 hx with rfl | hx
        · simp
        · exact List.mem_cons_of_mem _ (h2 x hx)⟩
    · exact ⟨Q, h1, fun x hx => List.mem_cons_of_mem _ (h2 x hx)⟩

/-- Behind a crash. -/
structure LastC (d : DS) (sure : Nat → Nat → Nat) (W : Nat → Nat → List Nat) : Prop where
  down : d.down = false
  pend : d.pend = []
  len : ∀ f, d.vis.len f ≤ 4
  get : ∀ f s, ∃ c, c < 256 ∧ (d.vis.get f s).getD noughts = List.replicate 128 c ∧ (c = sure f s ∨ c ∈ W f s)
  rest : ∀ f s, d.vis.len f ≤ s → sure f s = 0

theorem LastR.crash {d : DS} {sure : Nat → Nat → Nat} {P : List PW} {k : Nat} (h : LastR d sure P k) (hok : d.ok) (keep : List Nat) : LastC (d.crash keep) sure (waitsOf P) := by
  obtain ⟨Q, hQ, hsub⟩ := kept_map keep P 0
  have hv : (d.crash keep).vis = (Q.map pwWr).foldl Cont.wr d.dur := by
    show (keptOf keep d.pend 0).foldl Cont.wr d.dur = _
    rw [h.pend, hQ]
  have hin : ∀ x ∈ Q, x.2.1 < 4 := fun x hx => (h.each x (hsub x hx)).2.1
  have hl := fold_len Q d.dur hin h.len
  refine ⟨rfl, rfl, fun f => by rw [hv]; exact (hl f).1, fun f s => ?_, fun f s hs => ?_⟩
  · rw [hv, fold_get]
    cases hg : (waitsOf Q f s).getLast? with
    | none => exact ⟨sure f s, h.byte f s, h.get f s, .inl rfl⟩
    | some b =>
      have hm := waitsOf_sub hsub (List.mem_of_getLast? hg)
      refine ⟨b, ?_, rfl, .inr hm⟩
      unfold waitsOf at hm
      obtain ⟨x, hx, rfl⟩ := List.mem_map.1 hm
      exact (h.each x (List.mem_filter.1 hx).1).2.2
  · rw [hv] at hs
    have hle := (hl f).2
    have hg := h.get f s
    cases hgd : d.dur.get f s with
    | none =>
      rw [hgd] at hg
      simp only [Option.getD_none] at hg
      unfold noughts at hg
      have := congrArg (fun l => l.head?) hg
      simpa using this.symm
    | some b =>
      have := (hok.dur.sec f s b hgd).2.1
      omega

theorem LastC.readOk {d : DS} {sure : Nat → Nat → Nat} {W : Nat → Nat → List Nat} (h : LastC d sure W) (f s : Nat) (hf : f < 2) (hs : s < d.vis.len f) : ∃ c, c < 256 ∧ d.read (f : Int) (s : Int) = .ok (List.replicate 128 c) ∧ (c = sure f s ∨ c ∈ W f s) := by
  obtain ⟨c, h1, h2, h3⟩ := h.get f s
  refine ⟨c, h1, ?_, h3⟩
  unfold DS.read
  rw [if_neg (by omega), h.down, if_neg (by simp), Int.toNat_natCast, Int.toNat_natCast, if_neg (by omega), h2]
end Go.Proofs.Ytaggghfnbllbgaa
