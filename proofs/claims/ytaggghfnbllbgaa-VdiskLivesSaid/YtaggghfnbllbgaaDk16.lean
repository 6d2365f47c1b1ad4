/- The disk for what lies above: a footprint; a disk of a call's own. -/
import Derived.Test.YtaggghfnbllbgaaDk15
namespace Go.Proofs.Ytaggghfnbllbgaa
set_option linter.unusedSimpArgs false
open Go.RowKit

/-- What a method hands back that may change the disk. -/
def RetI (w : World) (B : Nat) (S : List Nat) (r : Nat × DS) (e : Ending) (w' : World) : Prop :=
  e = .returned (.int .i64 (r.1 : Int)) ∧ ∃ S', IsDisk w' B S' r.2 ∧ Chg S w w' ∧ Frsh w S S'

theorem RetD.toI {w w' : World} {B Mv Md : Nat} {pv : Value} {r : Nat × DS} {e : Ending} (h : RetD w B Mv Md pv r e w') : RetI w B (footD B Mv Md pv) r e w' := by
  obtain ⟨he, pv', hD, hc, hp⟩ := h
  refine ⟨he, _, ⟨Mv, Md, pv', hD, rfl⟩, hc, fun k hk => ?_⟩
  simp only [footD, List.mem_cons, Option.mem_toList] at hk ⊢
  rcases hk with hk | hk | hk | hk
  · exact .inl (.inl hk)
  · exact .inl (.inr (.inl hk))
  · exact .inl (.inr (.inr (.inl hk)))
  · rcases hp with hp | hp
    · rw [hp] at hk; exact .inl (.inr (.inr (.inr hk)))
    · exact .inr (hp k hk)
theorem RetCr.toI {w w' : World} {B Mv Md : Nat} {pv : Value} {d : DS} {e : Ending} (h : RetCr w B Mv Md pv d e w') : RetI w B (footD B Mv Md pv) (0, d) e w' := by
  obtain ⟨he, Mv', hD, hc, hp⟩ := h
  refine ⟨he, _, ⟨Mv', Md, _, hD, rfl⟩, hc, fun k hk => ?_⟩
  simp only [footD, List.mem_cons, Option.mem_toList, Value.ownBlock] at hk ⊢
  rcases hk with hk | hk | hk | hk
  · exact .inl (.inl hk)
  · exact .inr (by omega)
  · exact .inl (.inr (.inr (.inl hk)))
  · simp at hk

theorem DWrite {w : World} {B : Nat} {S : List Nat} {d : DS} (h : IsDisk w B S d) (f s : Int) (l : List Nat) (a : Option Addr) (n cap N : Nat) (hB : Bs N w a l) (hN : N ≤ w.heap.size) (hn : n = l.length) (hnm : n ≤ 1000000000000)
    (hcs : d.calls < 1000000000) (hwt : d.pend.length < 1000000000) :
    Calls Try.prog 22 #[.pointer (some ⟨B, 0, none⟩), .int .i64 f, .int .i64 s, .slice a n cap] w (RetI w B S (d.write f s l)) := by
  obtain ⟨Mv, Md, pv, h, rfl⟩ := h
  exact (Write_any h f s l a n cap N hB hN hn hnm hcs hwt).mono fun _ _ h => h.toI
theorem DSync {w : World} {B : Nat} {S : List Nat} {d : DS} (h : IsDisk w B S d) (f : Int) (hcs : d.calls < 1000000000) :
    Calls Try.prog 23 #[.pointer (some ⟨B, 0, none⟩), .int .i64 f] w (RetI w B S (d.sync f)) := by
  obtain ⟨Mv, Md, pv, h, rfl⟩ := h
  exact (Sync_any h f hcs).mono fun _ _ h => h.toI
theorem DCrash {w : World} {B : Nat} {S : List Nat} {d : DS} (h : IsDisk w B S d) (l : List Nat) (a : Option Addr) (n cap N : Nat) (hB : Bs N w a l) (hN : N ≤ w.heap.size) (hn : n = l.length) (hnm : n ≤ 1000000000000) :
    Calls Try.prog 25 #[.pointer (some ⟨B, 0, none⟩), .slice a n cap] w (RetI w B S (0, d.crash l)) := by
  obtain ⟨Mv, Md, pv, h, rfl⟩ := h
  exact (Crash_any h l a n cap N hB hN hn hnm).mono fun _ _ h => h.toI
def DS.fail (d : DS) (n : Int) : Nat × DS := if n < 0 then (1, d) else (0, { d with left := some n.toNat })
theorem DFail {w : World} {B : Nat} {S : List Nat} {d : DS} (h : IsDisk w B S d) (n : Int) (hn : n ≤ 9223372036854775807) :
    Calls Try.prog 24 #[.pointer (some ⟨B, 0, none⟩), .int .i64 n] w (RetI w B S (d.fail n)) := by
  obtain ⟨Mv, Md, pv, h, rfl⟩ := h
  unfold DS.fail
  by_cases hneg : n < 0
  · rw [if_pos hneg]
    refine (Fail_bad h n hneg).mono ?_
    rintro e w' ⟨rfl, rfl⟩
    exact ⟨rfl, _, ⟨Mv, Md, pv, h, rfl⟩, Chg.refl _ _, Frsh.refl _ _⟩
  · rw [if_neg hneg]
    obtain ⟨m, rfl⟩ : ∃ m : Nat, n = (m : Int) := ⟨n.toNat, by omega⟩
    refine (Fail_any h m (by omega)).mono ?_
    rintro e w' ⟨rfl, hD, hc⟩
    rw [Int.toNat_natCast]
    exact ⟨rfl, _, ⟨Mv, Md, pv, hD, rfl⟩, hc.sub (by simp [footD]), Frsh.refl _ _⟩
def DS.setQuota (d : DS) (q : Int) : Nat × DS := if isQuotaB q then (0, { d with quota := q.toNat }) else (1, d)
theorem DQuota {w : World} {B : Nat} {S : List Nat} {d : DS} (h : IsDisk w B S d) (q : Int) :
    Calls Try.prog 26 #[.pointer (some ⟨B, 0, none⟩), .int .i64 q] w (RetI w B S (d.setQuota q)) := by
  obtain ⟨Mv, Md, pv, h, rfl⟩ := h
  unfold DS.setQuota
  cases hq : isQuotaB q with
  | false =>
    rw [if_neg (by simp)]
    refine (Quota_bad q hq).mono ?_
    rintro e w' ⟨rfl, rfl⟩
    exact ⟨rfl, _, ⟨Mv, Md, pv, h, rfl⟩, Chg.refl _ _, Frsh.refl _ _⟩
  | true =>
    rw [if_pos rfl]
    have h1 : 1 ≤ q ∧ q ≤ 65536 := by unfold isQuotaB at hq; simpa using hq
    obtain ⟨m, rfl⟩ : ∃ m : Nat, q = (m : Int) := ⟨q.toNat, by omega⟩
    refine (Quota_any h m (by omega) (by omega)).mono ?_
    rintro e w' ⟨rfl, hD, hc⟩
    rw [Int.toNat_natCast]
    exact ⟨rfl, _, ⟨Mv, Md, pv, hD, rfl⟩, hc.sub (by simp [footD]), Frsh.refl _ _⟩
theorem DRead {w : World} {B : Nat} {S : List Nat} {d : DS} (h : IsDisk w B S d) (f s : Int) : Calls Try.prog 21 #[.pointer (some ⟨B, 0, none⟩), .int .i64 f, .int .i64 s] w (RetRead w (d.read f s)) := by
  obtain ⟨Mv, Md, pv, h, rfl⟩ := h
  exact Read_any h f s
theorem DLen {w : World} {B : Nat} {S : List Nat} {d : DS} (h : IsDisk w B S d) (f : Int) : Calls Try.prog 19 #[.pointer (some ⟨B, 0, none⟩), .int .i64 f] w fun e w' => e = .returned (.int .i64 (d.lenI f)) ∧ w' = w := by
  obtain ⟨Mv, Md, pv, h, rfl⟩ := h
  exact Len_any h f
theorem DWaits {w : World} {B : Nat} {S : List Nat} {d : DS} (h : IsDisk w B S d) : Calls Try.prog 15 #[.pointer (some ⟨B, 0, none⟩)] w fun e w' => e = .returned (.int .i64 (d.pend.length : Int)) ∧ w' = w := by
  obtain ⟨Mv, Md, pv, h, rfl⟩ := h
  exact Waits_any h
theorem DCalls {w : World} {B : Nat} {S : List Nat} {d : DS} (h : IsDisk w B S d) : Calls Try.prog 17 #[.pointer (some ⟨B, 0, none⟩)] w fun e w' => e = .returned (.int .i64 (d.calls : Int)) ∧ w' = w := by
  obtain ⟨Mv, Md, pv, h, rfl⟩ := h
  exact Calls_any h
theorem DDown {w : World} {B : Nat} {S : List Nat} {d : DS} (h : IsDisk w B S d) : Calls Try.prog 18 #[.pointer (some ⟨B, 0, none⟩)] w fun e w' => e = .returned (.bool d.down) ∧ w' = w := by
  obtain ⟨Mv, Md, pv, h, rfl⟩ := h
  exact Down_any h

/-- In the world w, which grew out of w0, there is a disk in blocks that w0 had not. -/
def OwnD (w0 w : World) (B : Nat) (d : DS) : Prop := Below w0.heap.size w0 w ∧ ∃ S, IsDisk w B S d ∧ ∀ k ∈ S, w0.heap.size ≤ k

theorem OwnD.below {w0 w w' : World} {B : Nat} {d : DS} (h : OwnD w0 w B d) (hb : Below w.heap.size w w') : OwnD w0 w' B d := by
  obtain ⟨h1, S, h2, h3⟩ := h
  exact ⟨h1.trans (hb.mono h1.size), S, h2.chg (T := []) (Below.chg0 hb []) (by simp), h3⟩
theorem OwnD.step {w0 w w' : World} {B : Nat} {S : List Nat} {d : DS} {r : Nat × DS} {e : Ending} (h1 : Below w0.heap.size w0 w) (h3 : ∀ k ∈ S, w0.heap.size ≤ k) (h : RetI w B S r e w') : e = .returned (.int .i64 (r.1 : Int)) ∧ OwnD w0 w' B r.2 := by
  obtain ⟨he, S', hI, hc, hf⟩ := h
  refine ⟨he, h1.trans (hc.below h1.size h3), S', hI, fun k hk => ?_⟩
  rcases hf k hk with h | h
  · exact h3 k h
  · exact Nat.le_trans h1.size h
theorem OwnD.drew {w0 w : World} {B : Nat} {d : DS} (h : OwnD w0 w B d) : OwnD w0 w.drew B d := by
  obtain ⟨h1, S, h2, h3⟩ := h
  exact ⟨h1.drew, S, h2.drew, h3⟩

section
variable {w0 w : World} {B : Nat} {d : DS}
theorem OWrite (h : OwnD w0 w B d) (f s : Int) (l : List Nat) (a : Option Addr) (n cap N : Nat) (hB : Bs N w a l) (hN : N ≤ w.heap.size) (hn : n = l.length) (hnm : n ≤ 1000000000000) (hcs : d.calls < 1000000000) (hwt : d.pend.length < 1000000000) :
    Calls Try.prog 22 #[.pointer (some ⟨B, 0, none⟩), .int .i64 f, .int .i64 s, .slice a n cap] w fun e w' => e = .returned (.int .i64 ((d.write f s l).1 : Int)) ∧ OwnD w0 w' B (d.write f s l).2 := by
  obtain ⟨h1, S, h2, h3⟩ := h
  exact (DWrite h2 f s l a n cap N hB hN hn hnm hcs hwt).mono fun _ _ h => OwnD.step (d := d) h1 h3 h
theorem OSync (h : OwnD w0 w B d) (f : Int) (hcs : d.calls < 1000000000) :
    Calls Try.prog 23 #[.pointer (some ⟨B, 0, none⟩), .int .i64 f] w fun e w' => e = .returned (.int .i64 ((d.sync f).1 : Int)) ∧ OwnD w0 w' B (d.sync f).2 := by
  obtain ⟨h1, S, h2, h3⟩ := h
  exact (DSync h2 f hcs).mono fun _ _ h => OwnD.step (d := d) h1 h3 h
theorem OCrash (h : OwnD w0 w B d) (l : List Nat) (a : Option Addr) (n cap N : Nat) (hB : Bs N w a l) (hN : N ≤ w.heap.size) (hn : n = l.length) (hnm : n ≤ 1000000000000) :
    Calls Try.prog 25 #[.pointer (some ⟨B, 0, none⟩), .slice a n cap] w fun e w' => e = .returned (.int .i64 0) ∧ OwnD w0 w' B (d.crash l) := by
  obtain ⟨h1, S, h2, h3⟩ := h
  exact (DCrash h2 l a n cap N hB hN hn hnm).mono fun _ _ h => OwnD.step (d := d) h1 h3 h
theorem OFail (h : OwnD w0 w B d) (n : Int) (hn : n ≤ 9223372036854775807) :
    Calls Try.prog 24 #[.pointer (some ⟨B, 0, none⟩), .int .i64 n] w fun e w' => e = .returned (.int .i64 ((d.fail n).1 : Int)) ∧ OwnD w0 w' B (d.fail n).2 := by
  obtain ⟨h1, S, h2, h3⟩ := h
  exact (DFail h2 n hn).mono fun _ _ h => OwnD.step (d := d) h1 h3 h
theorem ORead (h : OwnD w0 w B d) (f s : Int) : Calls Try.prog 21 #[.pointer (some ⟨B, 0, none⟩), .int .i64 f, .int .i64 s] w (RetRead w (d.read f s)) := by
  obtain ⟨h1, S, h2, h3⟩ := h
  exact DRead h2 f s
theorem OLen (h : OwnD w0 w B d) (f : Int) : Calls Try.prog 19 #[.pointer (some ⟨B, 0, none⟩), .int .i64 f] w fun e w' => e = .returned (.int .i64 (d.lenI f)) ∧ w' = w := by
  obtain ⟨h1, S, h2, h3⟩ := h
  exact DLen h2 f
theorem OWaits (h : OwnD w0 w B d) : Calls Try.prog 15 #[.pointer (some ⟨B, 0, none⟩)] w fun e w' => e = .returned (.int .i64 (d.pend.length : Int)) ∧ w' = w := by
  obtain ⟨h1, S, h2, h3⟩ := h
  exact DWaits h2
theorem OCalls (h : OwnD w0 w B d) : Calls Try.prog 17 #[.pointer (some ⟨B, 0, none⟩)] w fun e w' => e = .returned (.int .i64 (d.calls : Int)) ∧ w' = w := by
  obtain ⟨h1, S, h2, h3⟩ := h
  exact DCalls h2
theorem ONew (q : Int) (hq : isQuotaB q = true) (w0 w : World) (h0 : Below w0.heap.size w0 w) :
    Calls Try.prog 11 #[.int .i64 q] w fun e w' => ∃ B, e = .returned (.tuple #[.pointer (some ⟨B, 0, none⟩), .int .i64 0]) ∧ OwnD w0 w' B (DS.new q.toNat) := by
  refine (New_any q w).mono ?_
  rintro e w' ⟨hb, ⟨hq', _⟩ | ⟨_, B, Mv, Md, rfl, hD, hf⟩⟩
  · rw [hq] at hq'; cases hq'
  · exact ⟨B, rfl, h0.trans (hb.mono h0.size), _, ⟨Mv, Md, _, hD, rfl⟩, fun k hk => Nat.le_trans h0.size (hf k hk)⟩
end
end Go.Proofs.Ytaggghfnbllbgaa
