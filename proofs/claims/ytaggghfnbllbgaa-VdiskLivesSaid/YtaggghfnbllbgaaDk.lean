/- The disk in memory; its small methods. -/
import Derived.Test.YtaggghfnbllbgaaDMath
import Derived.Deep.AppendLies
namespace Go.Proofs.Ytaggghfnbllbgaa
open Go.RowKit

/-- The cells of a write. -/
def Wr.cells (x : Wr) : List Value := .int .i64 (x.f : Int) :: .int .i64 (x.s : Int) :: x.b.map fun (c : Nat) => Value.int .u8 (c : Int)
def cellsW (l : List Wr) : List Value := l.flatMap Wr.cells

/-- What a map of sectors has at a key. -/
def Cont.key (c : Cont) (x : List Nat) : Option (List Nat) := match x with
  | [f, s] => c.get f s
  | _ => none

/-- The row of a disk. -/
def rowD (B : Nat) (d : DS) (Mv Md : Nat) (pv : Value) : Array Value :=
  #[.pointer (some ⟨B, 0, none⟩), .int .i64 (d.quota : Int), .map (some Mv), .int .i64 (d.vis.len 0 : Int), .int .i64 (d.vis.len 1 : Int), .map (some Md), .int .i64 (d.dur.len 0 : Int), .int .i64 (d.dur.len 1 : Int), pv,
    .int .i64 (d.calls : Int), .int .i64 (leftI d.left), .bool d.down]

/-- Block B is a disk that New made, of state d; it uses the blocks S. -/
structure DiskAt (w : World) (B : Nat) (d : DS) (Mv Md : Nat) (pv : Value) : Prop where
  blk : Blk w B 47 (rowD B d Mv Md pv)
  vis : MapA .i64 .u8 2 w Mv d.vis.key
  dur : MapA .i64 .u8 2 w Md d.dur.key
  pend : w.ownsRow 0 98 130 pv d.pend.length (cellsW d.pend)
  apart : Mv ≠ Md
  ok : d.ok
  calls : d.calls ≤ 1000000000
  waits : d.pend.length ≤ 1000000000

def footD (B Mv Md : Nat) (pv : Value) : List Nat := B :: Mv :: Md :: pv.ownBlock.toList

def IsDisk (w : World) (B : Nat) (S : List Nat) (d : DS) : Prop := ∃ Mv Md pv, DiskAt w B d Mv Md pv ∧ S = footD B Mv Md pv

theorem own_lt {w : World} {base : Nat} {e : TypeId} {size n : Nat} {v : Value} {xs : List Value} (h : w.ownsRow base e size v n xs) {g : Nat} (hg : v.ownBlock = some g) : g < w.heap.size := by
  rcases h.2 with ⟨rfl, _⟩ | ⟨g', cap, cur, rfl, _, hh, _⟩
  · simp [Value.ownBlock] at hg
  · have : g' = g := by simpa [Value.ownBlock] using hg
    subst this
    exact Blk.lt (t := e) hh
theorem own_keep {w w' : World} {base : Nat} {e : TypeId} {size n : Nat} {v : Value} {xs : List Value} (h : w.ownsRow base e size v n xs) (hk : ∀ g, v.ownBlock = some g → w'.heap[g]? = w.heap[g]?) : w'.ownsRow base e size v n xs := by
  refine ⟨h.1, ?_⟩
  rcases h.2 with h2 | ⟨g, cap, cur, hv, hg, hh, r⟩
  · exact .inl h2
  · exact .inr ⟨g, cap, cur, hv, hg, by rw [hk g (by rw [hv]; rfl)]; exact hh, r⟩
theorem own_chg {w w' : World} {base : Nat} {e : TypeId} {size n : Nat} {v : Value} {xs : List Value} {S : List Nat} (h : w.ownsRow base e size v n xs) (hc : Chg S w w') (hn : ∀ g, v.ownBlock = some g → g ∉ S) : w'.ownsRow base e size v n xs :=
  own_keep h fun g hg => hc.block g (own_lt h hg) (hn g hg)
theorem own_ne {w : World} {base : Nat} {e : TypeId} {size n : Nat} {v : Value} {xs : List Value} (h : w.ownsRow base e size v n xs) {g : Nat} {t : TypeId} {cs : Array Value} (hb : Blk w g t cs) (hne : e ≠ t) : v.ownBlock ≠ some g := by
  rcases h.2 with ⟨rfl, _⟩ | ⟨g', cap, cur, rfl, _, hh, _⟩
  · simp [Value.ownBlock]
  · intro he
    have : g' = g := by simpa [Value.ownBlock] using he
    subst this
    exact Blk.ne_ (t := e) hh hb hne rfl
theorem own_ne_map {w : World} {base : Nat} {e : TypeId} {size n : Nat} {v : Value} {xs : List Value} (h : w.ownsRow base e size v n xs) {k kv : IntKind} {m : Nat} {b : Nat} {g : List Nat → Option (List Nat)} (hb : MapA k kv m w b g) : v.ownBlock ≠ some b := by
  rcases h.2 with ⟨rfl, _⟩ | ⟨g', cap, cur, rfl, _, hh, _⟩
  · simp [Value.ownBlock]
  · intro he
    have : g' = b := by simpa [Value.ownBlock] using he
    subst this
    exact hb.ne_blk (t := e) hh rfl

theorem DiskAt.lt {w : World} {B Mv Md : Nat} {pv : Value} {d : DS} (h : DiskAt w B d Mv Md pv) : ∀ k ∈ footD B Mv Md pv, k < w.heap.size := by
  intro k hk
  unfold footD at hk
  simp only [List.mem_cons, Option.mem_toList] at hk
  rcases hk with rfl | rfl | rfl | hk
  · exact h.blk.lt
  · exact h.vis.lt
  · exact h.dur.lt
  · exact own_lt h.pend hk
theorem IsDisk.lt {w : World} {B : Nat} {S : List Nat} {d : DS} (h : IsDisk w B S d) : ∀ k ∈ S, k < w.heap.size := by
  obtain ⟨Mv, Md, pv, h, rfl⟩ := h
  exact h.lt
theorem IsDisk.self {w : World} {B : Nat} {S : List Nat} {d : DS} (h : IsDisk w B S d) : B ∈ S := by
  obtain ⟨Mv, Md, pv, h, rfl⟩ := h
  simp [footD]
theorem IsDisk.ok {w : World} {B : Nat} {S : List Nat} {d : DS} (h : IsDisk w B S d) : d.ok := by
  obtain ⟨Mv, Md, pv, h, rfl⟩ := h
  exact h.ok

/-- A disk stays while only other blocks change. -/
theorem IsDisk.chg {w w' : World} {B : Nat} {S T : List Nat} {d : DS} (h : IsDisk w B S d) (hc : Chg T w w') (hn : ∀ k ∈ S, k ∉ T) : IsDisk w' B S d := by
  obtain ⟨Mv, Md, pv, h, rfl⟩ := h
  refine ⟨Mv, Md, pv, ⟨h.blk.chg hc (hn _ (by simp [footD])), h.vis.chg hc (hn _ (by simp [footD])), h.dur.chg hc (hn _ (by simp [footD])), own_chg h.pend hc (fun g hg => hn _ (by simp [footD, hg])), h.apart, h.ok, h.calls, h.waits⟩, rfl⟩
theorem IsDisk.drew {w : World} {B : Nat} {S : List Nat} {d : DS} (h : IsDisk w B S d) : IsDisk w.drew B S d := h.chg (T := []) (Chg.refl _ _).drew (by simp)

/-- The cells of a disk's row. -/
theorem DiskAt.cells {w : World} {B Mv Md : Nat} {pv : Value} {d : DS} (h : DiskAt w B d Mv Md pv) :
    w.cell? ⟨B, 0, none⟩ = some (.pointer (some ⟨B, 0, none⟩)) ∧ w.cell? ⟨B, 1, none⟩ = some (.int .i64 (d.quota : Int)) ∧ w.cell? ⟨B, 2, none⟩ = some (.map (some Mv)) ∧
    w.cell? ⟨B, 3, none⟩ = some (.int .i64 (d.vis.len 0 : Int)) ∧ w.cell? ⟨B, 4, none⟩ = some (.int .i64 (d.vis.len 1 : Int)) ∧ w.cell? ⟨B, 5, none⟩ = some (.map (some Md)) ∧
    w.cell? ⟨B, 6, none⟩ = some (.int .i64 (d.dur.len 0 : Int)) ∧ w.cell? ⟨B, 7, none⟩ = some (.int .i64 (d.dur.len 1 : Int)) ∧ w.cell? ⟨B, 8, none⟩ = some pv ∧
    w.cell? ⟨B, 9, none⟩ = some (.int .i64 (d.calls : Int)) ∧ w.cell? ⟨B, 10, none⟩ = some (.int .i64 (leftI d.left)) ∧ w.cell? ⟨B, 11, none⟩ = some (.bool d.down) :=
  ⟨h.blk.cell 0, h.blk.cell 1, h.blk.cell 2, h.blk.cell 3, h.blk.cell 4, h.blk.cell 5, h.blk.cell 6, h.blk.cell 7, h.blk.cell 8, h.blk.cell 9, h.blk.cell 10, h.blk.cell 11⟩

/-! Equal pointers -/
theorem run_eql_same {P : Program} {t e : TypeId} {n : Nat} (a : Addr) (ht : P.underlying t = some (.pointer e)) (hi : (P.info? e).map (·.size) = some (n + 1)) (w : World) :
    (binOp .eql t (.pointer (some a)) (.pointer (some a))).run P w = .ok (.bool true) w := by
  cases hq : P.info? e with
  | none => simp [hq] at hi
  | some i =>
    have hs : i.size = n + 1 := by simpa [hq] using hi
    have : ∀ d, (Op.equalIn (d + 1) t (.pointer (some a)) (.pointer (some a))).run P w = .ok true w := by
      intro d
      simp [Op.equalIn, run_underlying ht, sizeOf, typeInfo, hq, hs, sameAddr]
    have h2 : (Op.equal t (.pointer (some a)) (.pointer (some a))).run P w = .ok true w := this 9999
    simp only [binOp]
    simp [h2]
theorem run_eql_none {P : Program} {t e : TypeId} (a : Addr) (ht : P.underlying t = some (.pointer e)) (w : World) :
    (binOp .eql t (.pointer none) (.pointer (some a))).run P w = .ok (.bool false) w := by
  have : ∀ d, (Op.equalIn (d + 1) t (.pointer none) (.pointer (some a))).run P w = .ok false w := by
    intro d
    simp [Op.equalIn, run_underlying ht]
  have h2 : (Op.equal t (.pointer none) (.pointer (some a))).run P w = .ok false w := this 9999
  simp only [binOp]
  simp [h2]

/-! made, isFile, isQuota -/
theorem made_nil (w : World) : Calls Try.prog 49 #[.pointer none] w fun e w' => e = .returned (.bool false) ∧ w' = w := by
  go_enter Try.func49, Try.ntmps49
  go_wp2
  go_ret
  exact ⟨rfl, rfl⟩
theorem made_zero (w : World) (B : Nat) (h : w.cell? ⟨B, 0, none⟩ = some (.pointer none)) : Calls Try.prog 49 #[.pointer (some ⟨B, 0, none⟩)] w fun e w' => e = .returned (.bool false) ∧ w' = w := by
  have hq := fun W => run_eql_none (P := Try.prog) ⟨B, 0, none⟩ Try.underlying23 W
  go_enter Try.func49, Try.ntmps49
  go_wp2
  go_ret
  exact ⟨rfl, rfl⟩
theorem made_yes (w : World) (B : Nat) (h : w.cell? ⟨B, 0, none⟩ = some (.pointer (some ⟨B, 0, none⟩))) : Calls Try.prog 49 #[.pointer (some ⟨B, 0, none⟩)] w fun e w' => e = .returned (.bool true) ∧ w' = w := by
  have hq := fun W => run_eql_same (P := Try.prog) (n := 11) ⟨B, 0, none⟩ Try.underlying23 (by kernel_rfl) W
  go_enter Try.func49, Try.ntmps49
  go_wp2
  go_ret
  exact ⟨rfl, rfl⟩

def isFileB (f : Int) : Bool := decide (0 ≤ f) && decide (f < 2)
theorem isFile_any (f : Int) (w : World) : Calls Try.prog 50 #[.int .i64 f] w fun e w' => e = .returned (.bool (isFileB f)) ∧ w' = w := by
  by_cases h : 0 ≤ f
  · by_cases h2 : f < 2
    · have e : isFileB f = true := by simp [isFileB, h, h2]
      rw [e]
      have q1 : decide (0 ≤ f) = true := by simpa using h
      have q2 : decide (f < 2) = true := by simpa using h2
      go_enter Try.func50, Try.ntmps50
      go_wp2
      go_ret
      exact ⟨rfl, rfl⟩
    · have e : isFileB f = false := by simp [isFileB, h2]
      rw [e]
      have q1 : decide (0 ≤ f) = true := by simpa using h
      have q2 : decide (f < 2) = false := by simpa using h2
      go_enter Try.func50, Try.ntmps50
      go_wp2
      go_ret
      exact ⟨rfl, rfl⟩
  · have e : isFileB f = false := by simp [isFileB, h]
    rw [e]
    have q1 : decide (0 ≤ f) = false := by simpa using h
    go_enter Try.func50, Try.ntmps50
    go_wp2
    go_ret
    exact ⟨rfl, rfl⟩
def isQuotaB (q : Int) : Bool := decide (1 ≤ q) && decide (q ≤ 65536)
theorem isQuota_any (q : Int) (w : World) : Calls Try.prog 43 #[.int .i64 q] w fun e w' => e = .returned (.bool (isQuotaB q)) ∧ w' = w := by
  by_cases h : 1 ≤ q
  · by_cases h2 : q ≤ 65536
    · have e : isQuotaB q = true := by simp [isQuotaB, h, h2]
      rw [e]
      have q1 : decide (1 ≤ q) = true := by simpa using h
      have q2 : decide (q ≤ 65536) = true := by simpa using h2
      go_enter Try.func43, Try.ntmps43
      go_wp2
      go_ret
      exact ⟨rfl, rfl⟩
    · have e : isQuotaB q = false := by simp [isQuotaB, h2]
      rw [e]
      have q1 : decide (1 ≤ q) = true := by simpa using h
      have q2 : decide (q ≤ 65536) = false := by simpa using h2
      go_enter Try.func43, Try.ntmps43
      go_wp2
      go_ret
      exact ⟨rfl, rfl⟩
  · have e : isQuotaB q = false := by simp [isQuotaB, h]
    rw [e]
    have q1 : decide (1 ≤ q) = false := by simpa using h
    go_enter Try.func43, Try.ntmps43
    go_wp2
    go_ret
    exact ⟨rfl, rfl⟩
end Go.Proofs.Ytaggghfnbllbgaa
