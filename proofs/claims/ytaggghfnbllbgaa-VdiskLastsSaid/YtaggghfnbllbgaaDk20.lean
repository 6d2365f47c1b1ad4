/- VdiskShows: what is read is what was written last. -/
import Derived.Test.YtaggghfnbllbgaaDk18
import Derived.Test.YtaggghfnbllbgaaDOp
namespace Go.Proofs.Ytaggghfnbllbgaa
set_option linter.unusedSimpArgs false
open Go.RowKit

/-! A disk of a call's own beside other blocks of it. -/
/-- As OwnD; the blocks K are none of the disk's. -/
def OwnK (w0 w : World) (B : Nat) (d : DS) (K : List Nat) : Prop := Below w0.heap.size w0 w ∧ ∃ S, IsDisk w B S d ∧ (∀ k ∈ S, w0.heap.size ≤ k) ∧ ∀ k ∈ K, k ∉ S ∧ k < w.heap.size ∧ w0.heap.size ≤ k
/-- The blocks K are as they were. -/
def Keep (K : List Nat) (w w' : World) : Prop := w.heap.size ≤ w'.heap.size ∧ ∀ k ∈ K, w'.heap[k]? = w.heap[k]?

section
variable {w0 w w' : World} {B : Nat} {d : DS} {K : List Nat}
theorem Keep.blk (h : Keep K w w') {g : Nat} {t : TypeId} {cs : Array Value} (hb : Blk w g t cs) (hg : g ∈ K) : Blk w' g t cs := (h.2 g hg).trans hb
theorem OwnK.toD (h : OwnK w0 w B d K) : OwnD w0 w B d := ⟨h.1, by obtain ⟨_, S, h1, h2, _⟩ := h; exact ⟨S, h1, h2⟩⟩
theorem OwnK.below (h : OwnK w0 w B d K) (hb : Below w.heap.size w w') : OwnK w0 w' B d K := by
  obtain ⟨h1, S, h2, h3, h4⟩ := h
  exact ⟨h1.trans (hb.mono h1.size), S, h2.chg (T := []) (Below.chg0 hb []) (by simp), h3, fun k hk => ⟨(h4 k hk).1, Nat.lt_of_lt_of_le (h4 k hk).2.1 hb.size, (h4 k hk).2.2⟩⟩
theorem OwnK.keep (h : OwnK w0 w B d K) (hb : Below w.heap.size w w') : Keep K w w' := by
  obtain ⟨h1, S, h2, h3, h4⟩ := h
  exact ⟨hb.size, fun k hk => hb.block k (h4 k hk).2.1⟩
theorem OwnK.add (h : OwnK w0 w B d K) (o : Obj) : OwnK w0 (w.alloc o) B d (w.heap.size :: K) := by
  have hb : Below w.heap.size w (w.alloc o) := (Below.refl _ _).alloc (Nat.le_refl _) _
  obtain ⟨h1, S, h2, h3, h4⟩ := h
  refine ⟨h1.trans (hb.mono h1.size), S, h2.chg (T := []) (Below.chg0 hb []) (by simp), h3, fun k hk => ?_⟩
  rcases List.mem_cons.1 hk with rfl | hk
  · exact ⟨fun hm => absurd (h2.lt _ hm) (by omega), by simp, h1.size⟩
  · exact ⟨(h4 k hk).1, Nat.lt_of_lt_of_le (h4 k hk).2.1 hb.size, (h4 k hk).2.2⟩
theorem OwnD.toK (h : OwnD w0 w B d) : OwnK w0 w B d [] := ⟨h.1, by obtain ⟨_, S, h1, h2⟩ := h; exact ⟨S, h1, h2, by simp⟩⟩
theorem OwnK.step {S : List Nat} {r : Nat × DS} {e : Ending} (h1 : Below w0.heap.size w0 w) (h3 : ∀ k ∈ S, w0.heap.size ≤ k) (h4 : ∀ k ∈ K, k ∉ S ∧ k < w.heap.size ∧ w0.heap.size ≤ k) (h : RetI w B S r e w') :
    e = .returned (.int .i64 (r.1 : Int)) ∧ OwnK w0 w' B r.2 K ∧ Keep K w w' := by
  obtain ⟨he, S', hI, hc, hf⟩ := h
  refine ⟨he, ⟨h1.trans (hc.below h1.size h3), S', hI, fun k hk => ?_, fun k hk => ⟨fun hm => ?_, Nat.lt_of_lt_of_le (h4 k hk).2.1 hc.size, (h4 k hk).2.2⟩⟩, hc.size, fun k hk => hc.block k (h4 k hk).2.1 (h4 k hk).1⟩
  · rcases hf k hk with h | h
    · exact h3 k h
    · exact Nat.le_trans h1.size h
  · rcases hf k hm with h | h
    · exact (h4 k hk).1 h
    · have := (h4 k hk).2.1
      omega
theorem KWrite (h : OwnK w0 w B d K) (f s : Int) (l : List Nat) (a : Option Addr) (n cap N : Nat) (hB : Bs N w a l) (hN : N ≤ w.heap.size) (hn : n = l.length) (hnm : n ≤ 1000000000000) (hcs : d.calls < 1000000000) (hwt : d.pend.length < 1000000000) :
    Calls Try.prog 22 #[.pointer (some ⟨B, 0, none⟩), .int .i64 f, .int .i64 s, .slice a n cap] w fun e w' => e = .returned (.int .i64 ((d.write f s l).1 : Int)) ∧ OwnK w0 w' B (d.write f s l).2 K ∧ Keep K w w' := by
  obtain ⟨h1, S, h2, h3, h4⟩ := h
  exact (DWrite h2 f s l a n cap N hB hN hn hnm hcs hwt).mono fun _ _ h => OwnK.step h1 h3 h4 h
theorem KSync (h : OwnK w0 w B d K) (f : Int) (hcs : d.calls < 1000000000) :
    Calls Try.prog 23 #[.pointer (some ⟨B, 0, none⟩), .int .i64 f] w fun e w' => e = .returned (.int .i64 ((d.sync f).1 : Int)) ∧ OwnK w0 w' B (d.sync f).2 K ∧ Keep K w w' := by
  obtain ⟨h1, S, h2, h3, h4⟩ := h
  exact (DSync h2 f hcs).mono fun _ _ h => OwnK.step h1 h3 h4 h
theorem KCrash (h : OwnK w0 w B d K) (l : List Nat) (a : Option Addr) (n cap N : Nat) (hB : Bs N w a l) (hN : N ≤ w.heap.size) (hn : n = l.length) (hnm : n ≤ 1000000000000) :
    Calls Try.prog 25 #[.pointer (some ⟨B, 0, none⟩), .slice a n cap] w fun e w' => e = .returned (.int .i64 0) ∧ OwnK w0 w' B (d.crash l) K ∧ Keep K w w' := by
  obtain ⟨h1, S, h2, h3, h4⟩ := h
  exact (DCrash h2 l a n cap N hB hN hn hnm).mono fun _ _ h => OwnK.step h1 h3 h4 h
theorem KFail (h : OwnK w0 w B d K) (n : Int) (hn : n ≤ 9223372036854775807) :
    Calls Try.prog 24 #[.pointer (some ⟨B, 0, none⟩), .int .i64 n] w fun e w' => e = .returned (.int .i64 ((d.fail n).1 : Int)) ∧ OwnK w0 w' B (d.fail n).2 K ∧ Keep K w w' := by
  obtain ⟨h1, S, h2, h3, h4⟩ := h
  exact (DFail h2 n hn).mono fun _ _ h => OwnK.step h1 h3 h4 h
theorem OwnK.set_ (h : OwnK w0 w B d K) {g : Nat} (hg : g ∈ K) (i : Nat) (v : Value) : OwnK w0 (w.setCell ⟨g, i, none⟩ v) B d K := by
  obtain ⟨h1, S, h2, h3, h4⟩ := h
  have hsz : (w.setCell ⟨g, i, none⟩ v).heap.size = w.heap.size := by simp [World.setCell]
  refine ⟨h1.setCell (h4 g hg).2.2 v, S, h2.chg (T := [g]) ((Chg.refl _ _).setCell (.inl (by simp)) _) (fun k hk => ?_), h3, fun k hk => by rw [hsz]; exact h4 k hk⟩
  simp only [List.mem_singleton]
  rintro rfl
  exact (h4 _ hg).1 hk
end

/-! The mathematics. -/
structure ShowR (d : DS) (sh : Nat → Nat → Nat) (k : Nat) : Prop where
  down : d.down = false
  left : d.left = none
  quota : d.quota = 20
  calls : d.calls ≤ k
  pend : d.pend.length ≤ k
  len : ∀ f, d.vis.len f ≤ 4
  get : ∀ f s, (d.vis.get f s).getD noughts = List.replicate 128 (sh f s)
  byte : ∀ f s, sh f s < 256

theorem ShowR.new : ShowR (DS.new 20) (fun _ _ => 0) 0 :=
  ⟨rfl, rfl, rfl, by simp [DS.new], by simp [DS.new], fun f => by simp [DS.new, Cont.empty], fun f s => by simp [DS.new, Cont.empty, noughts], fun _ _ => by omega⟩
theorem ShowR.mono {d : DS} {sh : Nat → Nat → Nat} {k : Nat} (h : ShowR d sh k) : ShowR d sh (k + 1) := ⟨h.down, h.left, h.quota, by have := h.calls; omega, by have := h.pend; omega, h.len, h.get, h.byte⟩

def updS (sh : Nat → Nat → Nat) (f s c : Nat) : Nat → Nat → Nat := fun g t => if g = f ∧ t = s then c else sh g t

theorem ShowR.write {d : DS} {sh : Nat → Nat → Nat} {k : Nat} (h : ShowR d sh k) (f s c : Nat) (hf : f < 2) (hs : s < 4) (hc : c < 256) :
    ∃ d', d.write (f : Int) (s : Int) (List.replicate 128 c) = (0, d') ∧ ShowR d' (updS sh f s c) (k + 1) ∧ ∀ g, d'.vis.len g = if g = f then max (d.vis.len g) (s + 1) else d.vis.len g := by
  have hch : d.change = ({ d with left := none, calls := d.calls + 1 }, true) := by
    unfold DS.change; rw [h.left]; rfl
  have hfit : d.fits f s = true := by
    unfold DS.fits
    have h1 := h.len (1 - f)
    rw [h.quota]
    simp only [Bool.or_eq_true, decide_eq_true_eq]
    omega
  have hw : d.write (f : Int) (s : Int) (List.replicate 128 c) = (0, ({ d with left := none, calls := d.calls + 1 } : DS).put ⟨f, s, List.replicate 128 c⟩) := by
    unfold DS.write
    rw [if_neg (by simp; omega), if_neg (by rw [h.down]; simp), Int.toNat_natCast, Int.toNat_natCast, hfit, if_neg (by simp), hch]
  refine ⟨_, hw, ⟨h.down, rfl, h.quota, ?_, ?_, ?_, ?_, ?_⟩, ?_⟩
  · show d.calls + 1 ≤ _
    have := h.calls; omega
  · show (d.pend ++ [_]).length ≤ _
    have := h.pend; simp; omega
  · intro g
    show (if g = f then max (d.vis.len g) (s + 1) else d.vis.len g) ≤ 4
    have := h.len g
    split <;> omega
  · intro g t
    show (if g = f ∧ t = s then some (List.replicate 128 c) else d.vis.get g t).getD noughts = _
    unfold updS
    by_cases hgt : g = f ∧ t = s
    · rw [if_pos hgt, if_pos hgt]; rfl
    · rw [if_neg hgt, if_neg hgt]; exact h.get g t
  · intro g t
    unfold updS
    split
    · exact hc
    · exact h.byte g t
  · intro g; rfl

theorem ShowR.sync {d : DS} {sh : Nat → Nat → Nat} {k : Nat} (h : ShowR d sh k) (f : Nat) (hf : f < 2) : ∃ d', d.sync (f : Int) = (0, d') ∧ ShowR d' sh (k + 1) ∧ ∀ g, d'.vis.len g = d.vis.len g := by
  have hch : d.change = ({ d with left := none, calls := d.calls + 1 }, true) := by
    unfold DS.change; rw [h.left]; rfl
  have hs : d.sync (f : Int) = (0, { ({ d with left := none, calls := d.calls + 1 } : DS) with dur := (d.pend.filter fun x => x.f == f).foldl Cont.wr d.dur, pend := d.pend.filter fun x => x.f != f }) := by
    unfold DS.sync
    rw [if_neg (by omega), if_neg (by rw [h.down]; simp), hch, Int.toNat_natCast]
  refine ⟨_, hs, ⟨h.down, rfl, h.quota, ?_, ?_, h.len, h.get, h.byte⟩, fun g => rfl⟩
  · show d.calls + 1 ≤ _
    have := h.calls; omega
  · show (d.pend.filter _).length ≤ _
    have := h.pend
    have := List.length_filter_le (fun x : Wr => x.f != f) d.pend
    omega

theorem ShowR.readOk {d : DS} {sh : Nat → Nat → Nat} {k : Nat} (h : ShowR d sh k) (f s : Nat) (hf : f < 2) (hs : s < d.vis.len f) : d.read (f : Int) (s : Int) = .ok (List.replicate 128 (sh f s)) := by
  unfold DS.read
  rw [if_neg (by omega), h.down, if_neg (by simp), Int.toNat_natCast, Int.toNat_natCast, if_neg (by omega), h.get]
theorem ShowR.readNo {d : DS} {sh : Nat → Nat → Nat} {k : Nat} (h : ShowR d sh k) (f s : Nat) (hf : f < 2) (hs : d.vis.len f ≤ s) : d.read (f : Int) (s : Int) = .error 4 := by
  unfold DS.read
  rw [if_neg (by omega), h.down, if_neg (by simp), Int.toNat_natCast, Int.toNat_natCast, if_pos (by omega)]

/-- A number masked. -/
theorem and_mask1 (a : Int) : ∃ f : Nat, f < 2 ∧ bits .and .i64 a 1 = (f : Int) := by
  refine ⟨(BitVec.ofInt 64 a).toNat % 2, by omega, ?_⟩
  have h1 : (BitVec.ofInt 64 1).toNat = 1 := by decide
  show IntKind.i64.wrap (((BitVec.ofInt 64 a &&& BitVec.ofInt 64 1).toNat : Nat) : Int) = _
  rw [BitVec.toNat_and, h1, nat_mask1]
  simp [IntKind.wrap, IntKind.bits, IntKind.signed]
  omega
theorem and_mask3 (a : Int) : ∃ f : Nat, f < 4 ∧ bits .and .i64 a 3 = (f : Int) := by
  refine ⟨(BitVec.ofInt 64 a).toNat % 4, by omega, ?_⟩
  have h1 : (BitVec.ofInt 64 3).toNat = 3 := by decide
  show IntKind.i64.wrap (((BitVec.ofInt 64 a &&& BitVec.ofInt 64 3).toNat : Nat) : Int) = _
  rw [BitVec.toNat_and, h1, nat_mask2]
  simp [IntKind.wrap, IntKind.bits, IntKind.signed]
  omega
end Go.Proofs.Ytaggghfnbllbgaa
