/- Several texts of one proof, one behind the other. -/
import Derived.Test.YtmfdnphjhbbkiaaRPk10
set_option linter.unusedSimpArgs false
set_option linter.unusedVariables false

/- The walk of schema.Read: what holds at work. -/
set_option linter.unusedSimpArgs false
set_option linter.unusedVariables false
set_option maxRecDepth 100000
namespace Go.Proofs.Ytmfdnphjhbbkiaa
open Go.RowKit

/-- A table's cells, with the values of its two slices. -/
abbrev Tb.cs (t : Tb) (cv kv : Value) : Array Value := #[.string t.name, cv, kv, .string t.per, .int .i64 t.fr, .int .i64 t.tt, .bool t.apart, .bool t.vers]
abbrev zeroTc : Array Value := #[.string ⟨#[]⟩, .slice none 0 0, .slice none 0 0, .string ⟨#[]⟩, .int .i64 0, .int .i64 0, .bool false, .bool false]

section
variable {w W W' : World} {R D T : Nat} {m : BM} {l : List Nat} {cv kv : Value} {t : Tb} {p : Nat}
end

theorem info_colS : (Try.prog.info? 69).map (fun i => (i.zero, i.size, i.bytes)) = some (some (.agg #[.string ⟨#[]⟩, .int .u8 0, .bool false]), 3, 24) := by kernel_rfl
end Go.Proofs.Ytmfdnphjhbbkiaa

/- What is read of a table's bytes is fair. -/
set_option linter.unusedSimpArgs false
set_option linter.unusedVariables false
set_option maxRecDepth 100000
namespace Go.Proofs.Ytmfdnphjhbbkiaa
open Go.RowKit


theorem wrap8_lt (z : Int) : (IntKind.u8.wrap z).toNat < 256 := by rw [IntKind.wrap_u8]; omega
theorem sdI_pos (l : List Nat) (h : ∀ c ∈ l, c < 256) (hl : l.length ≤ 1000000) (p : Nat) (hp : p ≤ l.length) : (sdI l p).2 ≤ l.length := by
  have := (sdI_bd l h p (by omega)).2; omega
theorem sdS_pos (l : List Nat) (h : ∀ c ∈ l, c < 256) (hl : l.length ≤ 1000000) (p : Nat) (hp : p ≤ l.length) : (sdS l p).2 ≤ l.length := by
  have := (sdS_bd l h p (by omega)).2; omega
theorem sdC_fair (l : List Nat) (h : ∀ c ∈ l, c < 256) (hl : l.length ≤ 1000000) (p : Nat) (hp : p ≤ l.length) : (sdC l p).2 ≤ l.length ∧ (sdC l p).1.nm.size ≤ 1000000 ∧ (sdC l p).1.kd < 256 := by
  have h1 := sdS_pos l h hl p hp
  have h2 := sdI_pos l h hl _ h1
  have h3 := sdI_pos l h hl _ h2
  have h4 := (sdS_bd l h p (by omega)).1
  unfold sdC sdF
  exact ⟨h3, Nat.le_trans h4 hl, wrap8_lt _⟩
theorem sdCs_fair (l : List Nat) (h : ∀ c ∈ l, c < 256) (hl : l.length ≤ 1000000) (p : Nat) (hp : p ≤ l.length) : ∀ k, (sdCs l p k).2 ≤ l.length ∧ (sdCs l p k).1.length = k ∧ ∀ c ∈ (sdCs l p k).1, c.nm.size ≤ 1000000 ∧ c.kd < 256
  | 0 => ⟨hp, rfl, by simp [sdCs]⟩
  | k + 1 => by
    obtain ⟨i1, i2, i3⟩ := sdCs_fair l h hl p hp k
    obtain ⟨j1, j2, j3⟩ := sdC_fair l h hl _ i1
    unfold sdCs
    refine ⟨j1, by simp [i2], fun c hc => ?_⟩
    rcases List.mem_append.1 hc with hc | hc
    · exact i3 c hc
    · simp at hc; subst hc; exact ⟨j2, j3⟩
theorem sdKs_fair (l : List Nat) (h : ∀ c ∈ l, c < 256) (hl : l.length ≤ 1000000) (p : Nat) (hp : p ≤ l.length) : ∀ k, (sdKs l p k).2 ≤ l.length ∧ (sdKs l p k).1.length = k ∧ ∀ c ∈ (sdKs l p k).1, -9223372036854775808 ≤ c ∧ c ≤ 9223372036854775807
  | 0 => ⟨hp, rfl, by simp [sdKs]⟩
  | k + 1 => by
    obtain ⟨i1, i2, i3⟩ := sdKs_fair l h hl p hp k
    have j1 := sdI_pos l h hl _ i1
    have j2 := (sdI_bd l h _ (by omega : ((sdKs l p k).2 : Int) ≤ 9223372036854775807)).1
    unfold sdKs
    refine ⟨j1, by simp [i2], fun c hc => ?_⟩
    rcases List.mem_append.1 hc with hc | hc
    · exact i3 c hc
    · simp at hc; subst hc; exact j2
theorem sdN_le (l : List Nat) (p : Nat) (most : Int) (h : 0 ≤ most) : ((sdN l p most).1 : Int) ≤ most := by
  unfold sdN
  dsimp only
  split <;> omega
theorem sdN_pos (l : List Nat) (h : ∀ c ∈ l, c < 256) (hl : l.length ≤ 1000000) (p : Nat) (most : Int) (hp : p ≤ l.length) : (sdN l p most).2 ≤ l.length := sdI_pos l h hl p hp
/-- All that is read is fair. -/
theorem decT_fair (l : List Nat) (h : ∀ c ∈ l, c < 256) (hl : l.length ≤ 1000000) : (decT l).Fair := by
  have h1 := sdS_pos l h hl 0 (by omega)
  have h1s := (sdS_bd l h 0 (by omega)).1
  have h2 : (dn2 l).2 ≤ l.length := sdN_pos l h hl _ 16 h1
  have h2n : ((dn2 l).1 : Int) ≤ 16 := sdN_le l _ 16 (by omega)
  obtain ⟨h3, h3n, h3f⟩ := sdCs_fair l h hl _ h2 (dn2 l).1
  have h4 : (dn4 l).2 ≤ l.length := sdN_pos l h hl _ 8 h3
  have h4n : ((dn4 l).1 : Int) ≤ 8 := sdN_le l _ 8 (by omega)
  obtain ⟨h5, h5n, h5f⟩ := sdKs_fair l h hl _ h4 (dn4 l).1
  have h5' : (dk5 l).2 ≤ l.length := h5
  have h6 : (ds6 l).2 ≤ l.length := sdS_pos l h hl _ h5'
  have h6s := (sdS_bd l h _ (by omega : ((dk5 l).2 : Int) ≤ 9223372036854775807)).1
  have h7 : (di7 l).2 ≤ l.length := sdI_pos l h hl _ h6
  have h7b := (sdI_bd l h _ (by omega : ((ds6 l).2 : Int) ≤ 9223372036854775807)).1
  have h8b := (sdI_bd l h _ (by omega : ((di7 l).2 : Int) ≤ 9223372036854775807)).1
  refine ⟨?_, ?_, ?_, ?_, h7b, h8b, h3f, h5f⟩
  · show (dc3 l).1.length ≤ _
    have : (dc3 l).1.length = (dn2 l).1 := h3n
    omega
  · show (dk5 l).1.length ≤ _
    have : (dk5 l).1.length = (dn4 l).1 := h5n
    omega
  · show (sdS l 0).1.size ≤ _
    omega
  · show (ds6 l).1.size ≤ _
    have : (ds6 l).1.size ≤ l.length := h6s
    omega
end Go.Proofs.Ytmfdnphjhbbkiaa

/- The walk of schema.Read. -/
set_option linter.unusedSimpArgs false
set_option linter.unusedVariables false
set_option maxRecDepth 100000
namespace Go.Proofs.Ytmfdnphjhbbkiaa
open Go.RowKit

theorem own_base {w : World} {base base' : Nat} {e : TypeId} {size n : Nat} {v : Value} {xs : List Value} (h : w.ownsRow base e size v n xs) (hb : base' ≤ base) : w.ownsRow base' e size v n xs := by
  obtain ⟨h1, h2⟩ := h
  refine ⟨h1, ?_⟩
  rcases h2 with h2 | ⟨g, cap, cur, hv, hg, r⟩
  · exact .inl h2
  · exact .inr ⟨g, cap, cur, hv, by omega, r⟩

end Go.Proofs.Ytmfdnphjhbbkiaa

/- schema.Read's answer as a table in memory. -/
set_option linter.unusedSimpArgs false
set_option linter.unusedVariables false
set_option maxRecDepth 100000
namespace Go.Proofs.Ytmfdnphjhbbkiaa
open Go.RowKit

def zeroTb : Tb := ⟨⟨#[]⟩, [], [], ⟨#[]⟩, 0, 0, false, false⟩
theorem zeroTb_fair : zeroTb.Fair := ⟨by decide, by decide, by decide, by decide, by decide, by decide, (by intro c hc; cases hc), (by intro c hc; cases hc)⟩
def RetRd (w : World) (l : List Nat) (e : Ending) (w' : World) : Prop := ∃ (t : Tb) (m : TM) (q : Int), e = .returned (.tuple #[.agg #[.string t.name, .slice m.ca m.cl m.cc, .slice m.ka m.kl m.kc, .string t.per, .int .i64 t.fr, .int .i64 t.tt, .bool t.apart, .bool t.vers], .int .i64 q]) ∧
  TAt w' t m ∧ Below w.heap.size w w' ∧ ((t = decT l ∧ writeT (decT l) = (l, 0) ∧ q = 0) ∨ (t = zeroTb ∧ writeT (decT l) ≠ (l, 0) ∧ q = 52))

theorem writeT_ok {t : Tb} {l : List Nat} (h : writeT t = (l, 0)) : t.ok = true ∧ encT t = l := by
  unfold writeT at h
  by_cases ht : t.ok = true
  · rw [if_pos ht] at h
    exact ⟨ht, congrArg Prod.fst h⟩
  · rw [if_neg ht] at h
    have := congrArg Prod.snd h
    simp at this
theorem zeroTb_ok : zeroTb.ok = false := by
  by_cases h : zeroTb.ok = true
  · have := (Tb.ok_iff.1 h).2.1.1
    simp [zeroTb] at this
  · simpa using h
end Go.Proofs.Ytmfdnphjhbbkiaa

/- What may stand in a column; the walk of Column.check. -/
set_option linter.unusedSimpArgs false
set_option linter.unusedVariables false
set_option maxRecDepth 100000
namespace Go.Proofs.Ytmfdnphjhbbkiaa
open Go.RowKit

/-- The error of a value in a column. -/
def chkV (c : Col) (x : Vl) : Int := if x.right = false then 3 else if x.k = 0 then (if c.nn then 23 else 0) else if x.k = c.kd then 0 else 20
/-- The first one's. -/
def rowErr : List Col → List Vl → Int
  | c :: cs, x :: xs => if chkV c x = 0 then rowErr cs xs else chkV c x
  | _, _ => 0
theorem rowErr_first : ∀ (cs : List Col) (xs : List Vl) (k : Nat) (hc : k < cs.length) (hx : k < xs.length), (∀ (i : Nat) c x, i < k → cs[i]? = some c → xs[i]? = some x → chkV c x = 0) → chkV cs[k] xs[k] ≠ 0 → rowErr cs xs = chkV cs[k] xs[k]
  | [], _, k, hc, _, _, _ => by simp at hc
  | _ :: _, [], k, _, hx, _, _ => by simp at hx
  | c :: cs, x :: xs, 0, _, _, _, h => by
    unfold rowErr
    exact if_neg h
  | c :: cs, x :: xs, k + 1, hc, hx, h0, h => by
    unfold rowErr
    rw [if_pos (h0 0 c x (by omega) rfl rfl)]
    exact rowErr_first cs xs k (by simpa using hc) (by simpa using hx) (fun i c x hi h1 h2 => h0 (i + 1) c x (by omega) h1 h2) h
theorem rowErr_none : ∀ (cs : List Col) (xs : List Vl), (∀ (i : Nat) c x, cs[i]? = some c → xs[i]? = some x → chkV c x = 0) → rowErr cs xs = 0
  | [], _, _ => by simp [rowErr]
  | _ :: _, [], _ => by simp [rowErr]
  | c :: cs, x :: xs, h => by
    unfold rowErr
    rw [if_pos (h 0 c x rfl rfl)]
    exact rowErr_none cs xs (fun i c x h1 h2 => h (i + 1) c x h1 h2)
theorem rowErr_ok : ∀ (cs : List Col) (xs : List Vl), rowErr cs xs = 0 → ∀ (i : Nat) c x, cs[i]? = some c → xs[i]? = some x → chkV c x = 0
  | [], _, _, i, c, x, h1, _ => by simp at h1
  | _ :: _, [], _, i, c, x, _, h2 => by simp at h2
  | d :: cs, y :: xs, h, i, c, x, h1, h2 => by
    unfold rowErr at h
    by_cases h0 : chkV d y = 0
    · rw [if_pos h0] at h
      cases i with
      | zero => simp at h1 h2; subst h1 h2; exact h0
      | succ i => exact rowErr_ok cs xs h i c x (by simpa using h1) (by simpa using h2)
    · rw [if_neg h0] at h; exact absurd h h0
theorem rowErr_bd : ∀ (cs : List Col) (xs : List Vl), 0 ≤ rowErr cs xs ∧ rowErr cs xs ≤ 100
  | [], _ => by simp [rowErr]
  | _ :: _, [] => by simp [rowErr]
  | d :: cs, y :: xs => by
    unfold rowErr
    split
    · exact rowErr_bd cs xs
    · unfold chkV; split <;> (try split) <;> (try split) <;> omega

end Go.Proofs.Ytmfdnphjhbbkiaa

/- The walks of schema.front and schema.span. -/
set_option linter.unusedSimpArgs false
set_option linter.unusedVariables false
set_option maxRecDepth 100000
namespace Go.Proofs.Ytmfdnphjhbbkiaa
open Go.RowKit

def zeroVl : Vl := ⟨0, 0, ⟨#[]⟩⟩
/-- The values of Key of a row. -/
def frontV (ks : List Int) (l : List Vl) : List Vl := ks.map fun k => l.getD k.toNat zeroVl
theorem frontV_snoc (ks : List Int) (l : List Vl) (k : Nat) (h : k < ks.length) : frontV (ks.take (k + 1)) l = frontV (ks.take k) l ++ [l.getD ks[k].toNat zeroVl] := by
  unfold frontV
  rw [List.take_succ_eq_append_getElem h, List.map_append]
  rfl

theorem info_valS : (Try.prog.info? 51).map (fun i => (i.zero, i.size, i.bytes)) = some (some (.agg #[.int .u8 0, .int .i64 0, .string ⟨#[]⟩]), 3, 32) := by kernel_rfl

end Go.Proofs.Ytmfdnphjhbbkiaa

/- The walk of schema.span. -/
set_option linter.unusedSimpArgs false
set_option linter.unusedVariables false
set_option maxRecDepth 100000
namespace Go.Proofs.Ytmfdnphjhbbkiaa
open Go.RowKit

theorem results_cell1 {P : Program} {fn : Func} {p : Tmp} {ty : TypeId} (h : fn.results = #[.cell p ty]) (tmps : Array Value) (w : World) {ad : Addr} {v : Value}
    (hp : tmps.getD p undef = .pointer (some ad)) (hl : (loadVar ty ad).run P w = .ok v w) : (results fn tmps).run P w = .ok v w := by
  have hp' : tmps[p]?.getD undef = .pointer (some ad) := by simpa using hp
  simp [results, h, hp', asAddr, hl]

end Go.Proofs.Ytmfdnphjhbbkiaa

/- The walk of hindsightlaw15.As. -/
set_option linter.unusedSimpArgs false
set_option linter.unusedVariables false
set_option maxRecDepth 100000
namespace Go.Proofs.Ytmfdnphjhbbkiaa
open Go.RowKit

theorem info_colR : (Try.prog.info? 66).map (fun i => (i.zero, i.size, i.bytes)) = some (some (.agg #[.string ⟨#[]⟩, .int .u8 0, .bool false]), 3, 24) := by kernel_rfl
theorem infoRT : (Try.prog.info? 62).map (·.size) = some 8 := by kernel_rfl

/-- 'As' is at work. -/
structure AsIn (w W : World) (m : TM) (t : Tb) (cv : Value) (k : Nat) : Prop where
  out : Blk W (w.heap.size + 2) 62 (t.cs cv (.slice m.ka m.kl m.kc))
  row : W.ownsRow (w.heap.size + 3) 66 3 cv k (cellsO (t.cols.take k))
  tab : TBox W w.heap.size m t
  res : Blk W (w.heap.size + 1) 62 zeroTc
  bel : Below w.heap.size w W
theorem AsIn.new (w : World) (m : TM) (t : Tb) : AsIn w (((w.alloc (.cells (m.cs t) 44)).alloc (.cells zeroTc 62)).alloc (.cells (Tb.cs t (.slice none 0 0) (.slice m.ka m.kl m.kc)) 62)) m t (.slice none 0 0) 0 := by
  have e1 : (w.alloc (.cells (m.cs t) 44)).heap.size = w.heap.size + 1 := by simp
  have e2 : ((w.alloc (.cells (m.cs t) 44)).alloc (.cells zeroTc 62)).heap.size = w.heap.size + 2 := by simp
  refine ⟨?_, World.ownsRow_nil _ _ _ _, ?_, ?_, (((Below.refl _ w).alloc (Nat.le_refl _) _).alloc (by simp) _).alloc (by simp; omega) _⟩
  · have := Blk.new ((w.alloc (.cells (m.cs t) 44)).alloc (.cells zeroTc 62)) 62 (t.cs (.slice none 0 0) (.slice m.ka m.kl m.kc))
    rw [e2] at this; exact this
  · exact (TBox.new w m t _).later (N := w.heap.size + 1) (by omega) (((Below.refl _ _).alloc (by simp) _).alloc (by simp) _)
  · have := (Blk.new (w.alloc (.cells (m.cs t) 44)) 62 zeroTc).alloc (.cells (t.cs (.slice none 0 0) (.slice m.ka m.kl m.kc)) 62)
    rw [e1] at this; exact this
theorem AsIn.rowC {w W : World} {m : TM} {t : Tb} {cv : Value} {k : Nat} (h : AsIn w W m t cv k) {g : Nat} (hg : cv.ownBlock = some g) : w.heap.size + 2 < g := (h.row.lt g hg).1
theorem AsIn.drew {w W : World} {m : TM} {t : Tb} {cv : Value} {k : Nat} (h : AsIn w W m t cv k) : AsIn w W.drew m t cv k := ⟨h.out, h.row, ⟨h.tab.c0, h.tab.c1, h.tab.c2, h.tab.c3, h.tab.c4, h.tab.c5, h.tab.c6, h.tab.c7⟩, h.res, h.bel.drew⟩
theorem AsIn.add {w W W' : World} {m : TM} {t : Tb} {cv cv' : Value} {k : Nat} {T0 : TypeId} {cs : Array Value} (h : AsIn w W m t cv k) (hr : W'.ownsRow (w.heap.size + 3) 66 3 cv' (k + 1) (cellsO (t.cols.take (k + 1)))) (hc : Chg cv.ownBlock.toList (W.alloc (.cells cs T0)) W') :
    AsIn w (W'.setCell ⟨w.heap.size + 2, 1, none⟩ cv') m t cv' (k + 1) := by
  have hc0 : Chg cv.ownBlock.toList W W' := ((Chg.refl _ _).alloc _).trans hc
  have hgt : ∀ g ∈ cv.ownBlock.toList, w.heap.size + 2 < g := fun g hm => by rw [Option.mem_toList] at hm; exact h.rowC hm
  have hcS : Chg [w.heap.size + 2] W' (W'.setCell ⟨w.heap.size + 2, 1, none⟩ cv') := (Chg.refl _ _).setCell (.inl (by simp)) _
  have hlt := h.out.lt
  have hsz := hc0.size
  have hall : Below (w.heap.size + 2) W (W'.setCell ⟨w.heap.size + 2, 1, none⟩ cv') := (hc0.below (by omega) (fun g hm => by have := hgt g hm; omega)).trans (hcS.below (by omega) (by simp))
  exact ⟨(h.out.chg hc0 (fun hm => by have := hgt _ hm; omega)).set_ 1 cv', own_chg hr hcS (fun g hg => by have := (hr.lt g hg).1; simp; omega), h.tab.later (by omega) hall, (hall.block _ (by omega)).trans h.res, h.bel.trans (hall.mono (by omega))⟩

set_option maxHeartbeats 4000000 in
theorem as15_any (t : Tb) (m : TM) (w : World) (h : TAt w t m) :
    Calls Try.prog 17 #[m.v t] w fun e w' => ∃ n : TM, e = .returned (.agg #[.string t.name, .slice n.ca n.cl n.cc, .slice n.ka n.kl n.kc, .string t.per, .int .i64 t.fr, .int .i64 t.tt, .bool t.apart, .bool t.vers]) ∧ TAt w' t n ∧ (n.ka = m.ka ∧ n.kl = m.kl ∧ n.kc = m.kc ∧ n.cl = t.cols.length ∧ w'.ownsRow w.heap.size 66 3 (.slice n.ca n.cl n.cc) n.cl (cellsO t.cols)) ∧ Below w.heap.size w w' := by
  obtain ⟨iC, hiC, hzC, hsC, hbC⟩ := info_parts info_colR
  have HI0 := Lib.hid (AsIn.new w m t)
  have HTA := Lib.hid h
  have HCol := Lib.hid h.carr
  have hcl := h.hc
  have hcm := h.cmax
  obtain ⟨ca, cl, cc, ka, kl, kc⟩ := m
  dsimp only at hcl HCol hcm
  subst hcl
  clear h
  go_enter Try.func17, Try.ntmps17
  go_wp2_with fail
  go_loopw [4] (fun i wr => ∃ (k : Nat) (cv : Value), k ≤ t.cols.length ∧ i = .int .i64 k ∧ Hid (AsIn w wr ⟨ca, t.cols.length, cc, ka, kl, kc⟩ t cv k)) (fun i _ => t.cols.length - (intOf i).toNat)
  case atStart => exact ⟨0, _, by omega, rfl, HI0⟩
  case round =>
    clear HI0
    obtain ⟨k, cv, hk, rfl, HI⟩ := hrel
    have x1 := HI.out.tab.c1
    dsimp only at x1
    by_cases hlt : k < t.cols.length
    · obtain ⟨b, o, rfl, hbN, c0, c1, c2⟩ := colAt HCol.out hlt
      have hTlt := HI.out.out.lt
      have hTS : w.heap.size + 2 ∉ cv.ownBlock.toList := by
        intro hm; rw [Option.mem_toList] at hm
        have := HI.out.rowC hm; omega
      have hBS : w.heap.size ∉ cv.ownBlock.toList := by
        intro hm; rw [Option.mem_toList] at hm
        have := HI.out.rowC hm; omega
      have hbS : b ∉ cv.ownBlock.toList := by
        intro hm; rw [Option.mem_toList] at hm
        have := HI.out.rowC hm; omega
      have HSn : Hid (cellsO (t.cols.take (k + 1)) = cellsO (t.cols.take k) ++ [.string t.cols[k].nm, .int .u8 (t.cols[k].kd : Int), .bool t.cols[k].nn]) := by
        show _ = _
        rw [List.take_succ_eq_append_getElem hlt]; exact cellsOf_snoc _ _ _
      have e0 : ∀ W, Chg cv.ownBlock.toList wr.drew W → W.cell? ⟨w.heap.size + 2, 1, none⟩ = some cv := fun W hW => (hW.cell (b := w.heap.size + 2) hTlt hTS).trans ((HI.out.out.cell 1).trans rfl)
      have e1 : ∀ W, Chg cv.ownBlock.toList wr.drew W → W.cell? ⟨w.heap.size, 1, none⟩ = some (.slice (some ⟨b, o, none⟩) t.cols.length cc) := fun W hW => (hW.cell (b := w.heap.size) (by show w.heap.size < wr.heap.size; omega) hBS).trans x1
      have d0 : ∀ W, Chg cv.ownBlock.toList wr.drew W → W.cell? ⟨b, o + k * 3, none⟩ = some (.string t.cols[k].nm) := fun W hW => (hW.cell (b := b) (by show b < wr.heap.size; omega) hbS).trans ((HI.out.bel.cell (p := ⟨b, o + k * 3, none⟩) hbN).trans c0)
      have d1 : ∀ W, Chg cv.ownBlock.toList wr.drew W → W.cell? ⟨b, o + k * 3 + 1, none⟩ = some (.int .u8 (t.cols[k].kd : Int)) := fun W hW => (hW.cell (b := b) (by show b < wr.heap.size; omega) hbS).trans ((HI.out.bel.cell (p := ⟨b, o + k * 3 + 1, none⟩) hbN).trans c1)
      have d2 : ∀ W, Chg cv.ownBlock.toList wr.drew W → W.cell? ⟨b, o + k * 3 + 2, none⟩ = some (.bool t.cols[k].nn) := fun W hW => (hW.cell (b := b) (by show b < wr.heap.size; omega) hbS).trans ((HI.out.bel.cell (p := ⟨b, o + k * 3 + 2, none⟩) hbN).trans c2)
      generalize t.cols[k].nm = nm at *
      generalize t.cols[k].kd = kd at *
      generalize t.cols[k].nn = nn at *
      clear c0 c1 c2 hbN hBS hbS
      go_wp2_with fail
      clear x1
      refine wp_region_ordX cv.ownBlock.toList 24 [(0, true), (1, true), (2, true), (3, true), (4, true), (5, true), (6, true), (7, true), (8, true), (9, true), (10, true), (11, true), (12, true), (13, true), (14, true), (15, true), (16, true), (17, true), (18, true), (19, true), (20, true), (21, false), (22, false), (23, true)] (by kernel_rfl) (by kernel_rfl) (by kernel_rfl) (by kernel_rfl) ?_
      repeat (first | ((refine wpOX_F rfl (by rfl) (fun w' hL => exec_load rfl rfl (e0 w' hL)) ?_); try simp only [Act.put, List.setIfInBounds_toArray, List.set_cons_zero, List.set_cons_succ]) | ((refine wpOX_F rfl (by rfl) (fun w' hL => exec_load rfl rfl (e1 w' hL)) ?_); try simp only [Act.put, List.setIfInBounds_toArray, List.set_cons_zero, List.set_cons_succ]) | ((refine wpOX_F rfl (by rfl) (fun w' hL => exec_load rfl rfl (d0 w' hL)) ?_); try simp only [Act.put, List.setIfInBounds_toArray, List.set_cons_zero, List.set_cons_succ]) | ((refine wpOX_F rfl (by rfl) (fun w' hL => exec_load rfl rfl (d1 w' hL)) ?_); try simp only [Act.put, List.setIfInBounds_toArray, List.set_cons_zero, List.set_cons_succ]) | ((refine wpOX_F rfl (by rfl) (fun w' hL => exec_load rfl rfl (d2 w' hL)) ?_); try simp only [Act.put, List.setIfInBounds_toArray, List.set_cons_zero, List.set_cons_succ]) | (refine wpOX_F (v := ?_) rfl (by rfl) (fun w' hL => ?_) ?_; rotate_left; (solve | (go_simp; with_reducible rfl) | go_simp); try simp only [Act.put, List.setIfInBounds_toArray, List.set_cons_zero, List.set_cons_succ]) | (refine wpOX_G (Chg.refl _) rfl (by rfl) ?_; try simp only [Act.put, List.setIfInBounds_toArray, List.set_cons_zero, List.set_cons_succ]))
      refine wpOX_C rfl (by rfl) ?_
      go_simp
      refine ⟨(Chg.refl _ _).alloc _, ?_⟩
      try simp only [Act.put, List.setIfInBounds_toArray, List.set_cons_zero, List.set_cons_succ]
      have hr2 : wr.drew.ownsRow (w.heap.size + 3) 66 3 cv k (cellsO (t.cols.take k)) := HI.out.row
      have hbs : w.heap.size + 3 ≤ wr.drew.heap.size := HI.out.out.lt
      refine wpOX_C rfl (by rfl) ?_
      refine wp_appC (.tmp 28) (.tmp 48) 60 rfl (w.heap.size + 3) 66 iC (.agg #[.string ⟨#[]⟩, .int .u8 0, .bool false]) 3 24 Try.underlying60 hiC hzC rfl hsC (by omega) hbC (by omega) cv k _ [.string nm, .int .u8 (kd : Int), .bool nn] wr.drew hr2 rfl _ rfl rfl (by simp [Value.oneCell']) rfl (by omega) hbs ?_
      intro cv2 x4 hr4 hc4 hsz4
      refine ⟨hc4, ?_⟩
      try simp only [Act.put, List.setIfInBounds_toArray, List.set_cons_zero, List.set_cons_succ]
      obtain ⟨ac2, cc2, hcv2, -, -, -⟩ := own_slice hr4
      rw [← HSn.out] at hr4
      have hN := HI.out.drew.add hr4 hc4
      have htb := HI.out.drew.out.chg (((Chg.refl _ _).alloc _).trans hc4) hTS
      have pc := (htb.cell 1).trans rfl
      have pf := htb.frozen 1
      have pl := htb.lt
      have HN2 := Lib.hid hN
      generalize k + 1 = kk at hcv2
      subst hcv2
      clear hN htb hr4 hc4 hr2 e0 e1 d0 d1 d2 HI hTS hTlt
      repeat (first | (refine wpOX_F (v := ?_) rfl (by rfl) (fun w' hL => ?_) ?_; rotate_left; (solve | (go_simp; with_reducible rfl) | go_simp); try simp only [Act.put, List.setIfInBounds_toArray, List.set_cons_zero, List.set_cons_succ]) | (refine wpOX_G (Chg.refl _) rfl (by rfl) ?_; try simp only [Act.put, List.setIfInBounds_toArray, List.set_cons_zero, List.set_cons_succ]))
      refine wpOX_end rfl (by rfl) ?_
      go_simp
      simp only [NoPanic]
      go_wp2
      go_roundw
      case rel => exact ⟨k + 1, Value.slice ac2 kk cc2, by omega, by go_num, HN2⟩
      case measure => simp [intOf]; omega
    · have hke : k = t.cols.length := by omega
      subst hke
      have hrow := HI.out.row
      rw [List.take_length] at hrow
      obtain ⟨ac, acc, hcv, hac, -, hA⟩ := own_slice hrow
      subst hcv
      have y0 := (HI.out.out.cell 0).trans rfl
      have y1 := (HI.out.out.cell 1).trans rfl
      have y2 := (HI.out.out.cell 2).trans rfl
      have y3 := (HI.out.out.cell 3).trans rfl
      have y4 := (HI.out.out.cell 4).trans rfl
      have y5 := (HI.out.out.cell 5).trans rfl
      have y6 := (HI.out.out.cell 6).trans rfl
      have y7 := (HI.out.out.cell 7).trans rfl
      have HS : Hid ((storeVar 62 ⟨w.heap.size + 1, 0, none⟩ (.agg (t.cs (.slice ac t.cols.length acc) (.slice ka kl kc)))).run Try.prog wr = .ok () (wr.setRow (w.heap.size + 1) (t.cs (.slice ac t.cols.length acc) (.slice ka kl kc)))) :=
        run_storeVar_row _ _ _ 62 _ _ HI.out.res (by rw [infoRT]; rfl) rfl (by simp [Value.oneCell'])
      have HL : Hid ((loadVar 62 ⟨w.heap.size + 1, 0, none⟩).run Try.prog (wr.setRow (w.heap.size + 1) (t.cs (.slice ac t.cols.length acc) (.slice ka kl kc))) = .ok (.agg (t.cs (.slice ac t.cols.length acc) (.slice ka kl kc))) (wr.setRow (w.heap.size + 1) (t.cs (.slice ac t.cols.length acc) (.slice ka kl kc)))) :=
        run_loadVar_row _ _ _ 62 _ (0, 0) _ (Blk.setRow (new := t.cs (.slice ac t.cols.length acc) (.slice ka kl kc)) HI.out.res) Try.underlying62 rfl (by rw [infoRT]; rfl)
      have hcR : Chg [w.heap.size + 1] wr (wr.setRow (w.heap.size + 1) (t.cs (.slice ac t.cols.length acc) (.slice ka kl kc))) := (Chg.refl _ _).setRow (.inl (by simp)) _
      have hbR : Below w.heap.size w (wr.setRow (w.heap.size + 1) (t.cs (.slice ac t.cols.length acc) (.slice ka kl kc))) := HI.out.bel.trans (hcR.below HI.out.bel.size (by simp))
      have hrow2 := own_chg hrow hcR (fun g hg => by have := (hrow.lt g hg).1; simp; omega)
      obtain ⟨ac', acc', hcv', hac', -, hA'⟩ := own_slice hrow2
      injection hcv' with e1 e2 e3
      subst e1
      have HOw := Lib.hid (own_base hrow2 (show w.heap.size ≤ w.heap.size + 3 by omega))
      have HF := Lib.hid hbR
      have HAt : Hid (TAt (wr.setRow (w.heap.size + 1) (t.cs (.slice ac t.cols.length acc) (.slice ka kl kc))) t ⟨ac, t.cols.length, acc, ka, kl, kc⟩) :=
        ⟨rfl, HTA.out.hk, hac, HTA.out.kcap, hA', HTA.out.karr.later (N := 0) hbR, HTA.out.fair⟩
      clear HI hrow hac hA hcR hbR hrow2 hac' hA' e2 e3
      go_wp2_with (first | (guard_target =~ wpList _ _ _ (Oper.mk _ (Op.store 62 _ _) _ _ _ _ :: _) _ _; refine wpList_skp rfl (exec_store rfl rfl rfl HS.out) ?_))
      exact bodyPost_ret (v := .agg (t.cs (.slice ac t.cols.length acc) (.slice ka kl kc))) (results_cell1 Try.results17 _ _ rfl HL.out) rfl ⟨⟨ac, t.cols.length, acc, ka, kl, kc⟩, rfl, HAt.out, ⟨rfl, rfl, rfl, rfl, HOw.out⟩, HF.out⟩
end Go.Proofs.Ytmfdnphjhbbkiaa
