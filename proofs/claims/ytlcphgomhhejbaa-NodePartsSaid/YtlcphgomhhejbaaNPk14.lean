/- Several texts of one proof, one behind the other. -/
import Derived.Test.YtlcphgomhhejbaaNPk13
set_option linter.unusedSimpArgs false
set_option linter.unusedVariables false

/- The walk of the reader's leaf. -/
namespace Go.Proofs.Ytlcphgomhhejbaa
open Go.RowKit

theorem info_str : (Try.prog.info? 9).map (fun i => (i.zero, i.size, i.bytes)) = some (some (.string ⟨#[]⟩), 1, 16) := by kernel_rfl
theorem info_cell : (Try.prog.info? 63).map (fun i => (i.zero, i.size, i.bytes)) = some (some (.agg #[.int .i64 0, .string ⟨#[]⟩, .int .i64 0]), 3, 32) := by kernel_rfl
theorem info_int : (Try.prog.info? 3).map (fun i => (i.zero, i.size, i.bytes)) = some (some (.int .i64 0), 1, 8) := by kernel_rfl

def leafOf (l : List Pt) : Nd := ⟨true, l.map Pt.key, l.map (fun p => ⟨p.len, p.data, p.page⟩), []⟩

/-- What a reader's leaf or inner hands back. -/
def RetLf (w : World) (rb : Nat) (s : ByteArray) (leaf : Bool) (nd : List Pt → Nd) (start count : Nat) (e : Ending) (w' : World) : Prop :=
  ∃ (l : List Pt) (at_ : Nat) (ok : Bool) (m : NB), e = .returned (m.v leaf) ∧ NAt w' (nd l) m ∧ m.kl ≤ 100000 ∧ Rdr w' rb s at_ ok ∧ Chg [rb] w w' ∧ at_ ≤ s.size ∧
    (ok = true → decs leaf (bytesOf s) start count = some (l, at_)) ∧ (ok = false → decs leaf (bytesOf s) start count = none) ∧ NFar w.heap.size (nd l) m

/-- How many of its keys the node in a block has still to get. -/
def lackOf (w : World) (nb count : Nat) : Nat := match w.cell? ⟨nb, 1, none⟩ with
  | some (.slice _ n _) => count - n
  | _ => 0

/-- Where the loop of the reader's leaf stands. -/
structure LfInv (w wr : World) (rb : Nat) (s : ByteArray) (k at_ : Nat) (ok : Bool) (kv cv : Value) (l : List Pt) : Prop where
  node : Blk wr (w.heap.size + 1) 26 #[.bool true, kv, cv, .slice none 0 0]
  res : Blk wr w.heap.size 26 #[.bool false, .slice none 0 0, .slice none 0 0, .slice none 0 0]
  keys : wr.ownsRow w.heap.size 9 1 kv k (cellsS (l.map Pt.key))
  cells : wr.ownsRow w.heap.size 63 3 cv k (cellsC (l.map (fun p => ⟨p.len, p.data, p.page⟩)))
  rdr : Rdr wr rb s at_ ok
  chg : Chg [rb] w wr
  st : Stands true s 3 k l at_ ok
  rlt : rb < w.heap.size
  fair : ∀ p ∈ l, p.key.size ≤ 255 ∧ p.data.size ≤ 120 ∧ (0 ≤ p.len ∧ p.len ≤ 65535) ∧ (0 ≤ p.page ∧ p.page ≤ 4294967295)

/-- Where a round of the reader's leaf stands: nk keys and nc cells are there; the cell in block cb is under way. -/
structure LfMid (w wr : World) (rb : Nat) (s : ByteArray) (at_ : Nat) (ok : Bool) (nk nc : Nat) (kv cv : Value) (ks cs : List Value) (cb : Nat) (c0 c1 c2 : Value) : Prop where
  node : Blk wr (w.heap.size + 1) 26 #[.bool true, kv, cv, .slice none 0 0]
  res : Blk wr w.heap.size 26 #[.bool false, .slice none 0 0, .slice none 0 0, .slice none 0 0]
  keys : wr.ownsRow w.heap.size 9 1 kv nk ks
  cells : wr.ownsRow w.heap.size 63 3 cv nc cs
  rdr : Rdr wr rb s at_ ok
  chg : Chg [rb] w wr
  cell : Blk wr cb 63 #[c0, c1, c2]
  cblt : w.heap.size + 1 < cb
  rlt : rb < w.heap.size
  capart : ∀ g, cv.ownBlock = some g → g ≠ cb

theorem own_apart {w : World} {base e e' size size' n n' : Nat} {v v' : Value} {xs xs' : List Value} (h : w.ownsRow base e size v n xs) (h' : w.ownsRow base e' size' v' n' xs') (hne : e ≠ e') : ∀ g, v.ownBlock = some g → v'.ownBlock ≠ some g := by
  intro g hg
  rcases h.2 with ⟨rfl, _⟩ | ⟨g', cap, cur, rfl, _, hh, _⟩
  · simp [Value.ownBlock] at hg
  · have e1 : g' = g := by simpa [Value.ownBlock] using hg
    subst e1
    exact own_ne h' (t := e) hh (Ne.symm hne)

section
variable {w W W' : World} {rb : Nat} {s : ByteArray} {at_ at' : Nat} {ok ok' : Bool} {nk nc : Nat} {kv cv : Value} {ks cs : List Value} {cb : Nat} {c0 c1 c2 : Value}
theorem LfMid.rdr_step (h : LfMid w W rb s at_ ok nk nc kv cv ks cs cb c0 c1 c2) (hc : Chg [rb] W W') (hr : Rdr W' rb s at' ok') : LfMid w W' rb s at' ok' nk nc kv cv ks cs cb c0 c1 c2 := by
  have hr1 := h.rlt
  have hcb := h.cblt
  refine ⟨h.node.chg hc (by simp; omega), h.res.chg hc (by simp; omega), own_chg h.keys hc (fun g hg hm => own_ne h.keys h.rdr (by decide) (by simp at hm; rw [hg, hm])), own_chg h.cells hc (fun g hg hm => own_ne h.cells h.rdr (by decide) (by simp at hm; rw [hg, hm])), hr, h.chg.trans hc, h.cell.chg hc (by simp; omega), h.cblt, h.rlt, h.capart⟩
theorem LfMid.drew (h : LfMid w W rb s at_ ok nk nc kv cv ks cs cb c0 c1 c2) : LfMid w W.drew rb s at_ ok nk nc kv cv ks cs cb c0 c1 c2 :=
  ⟨h.node, h.res, h.keys, h.cells, h.rdr, h.chg.drew, h.cell, h.cblt, h.rlt, h.capart⟩
theorem LfMid.set_cell (h : LfMid w W rb s at_ ok nk nc kv cv ks cs cb c0 c1 c2) (i : Nat) (v : Value) : Blk (W.setCell ⟨cb, i, none⟩ v) cb 63 (#[c0, c1, c2].setIfInBounds i v) ∧ (∀ c0' c1' c2', Blk (W.setCell ⟨cb, i, none⟩ v) cb 63 #[c0', c1', c2'] → LfMid w (W.setCell ⟨cb, i, none⟩ v) rb s at_ ok nk nc kv cv ks cs cb c0' c1' c2') := by
  have hr1 := h.rlt
  have hcb := h.cblt
  have hc : Chg [cb] W (W.setCell ⟨cb, i, none⟩ v) := (Chg.refl _ _).setCell (.inl (by simp)) _
  refine ⟨h.cell.set_ i v, fun c0' c1' c2' hb => ⟨h.node.chg hc (by simp; omega), h.res.chg hc (by simp; omega), own_chg h.keys hc (fun g hg hm => own_ne h.keys h.cell (by decide) (by simp at hm; rw [hg, hm])), own_chg h.cells hc (fun g hg hm => h.capart g hg (by simpa using hm)), h.rdr.chg hc (by simp; omega), h.chg.setCell (.inr (by omega)) _, hb, h.cblt, h.rlt, h.capart⟩⟩
/-- A key has been added. -/
theorem LfMid.add_key {kv' : Value} {x2 : World} {T : TypeId} {o : Array Value} {ks' : List Value} (h : LfMid w W rb s at_ ok nk nc kv cv ks cs cb c0 c1 c2) (hk : x2.ownsRow w.heap.size 9 1 kv' (nk + 1) ks') (hc : Chg kv.ownBlock.toList (W.alloc (.cells o T)) x2) :
    Blk x2 (w.heap.size + 1) 26 #[.bool true, kv, cv, .slice none 0 0] ∧ LfMid w (x2.setCell ⟨w.heap.size + 1, 1, none⟩ kv') rb s at_ ok (nk + 1) nc kv' cv ks' cs cb c0 c1 c2 := by
  have hr1 := h.rlt
  have hcb := h.cblt
  have hc2 : Chg kv.ownBlock.toList W x2 := ((Chg.refl _ _).alloc _).trans hc
  have hnk : ∀ {g t cs}, Blk W g t cs → 9 ≠ t → g ∉ kv.ownBlock.toList := fun hb hne hm => own_ne h.keys hb hne (by rwa [Option.mem_toList] at hm)
  have hbase : ∀ g, kv.ownBlock = some g → w.heap.size ≤ g := fun g hg => (World.ownsRow.lt h.keys g hg).1
  have n2 := h.node.chg hc2 (hnk h.node (by decide))
  have hset : Chg [w.heap.size + 1] x2 (x2.setCell ⟨w.heap.size + 1, 1, none⟩ kv') := (Chg.refl _ _).setCell (.inl (by simp)) _
  refine ⟨n2, n2.set_ 1 kv', (h.res.chg hc2 (hnk h.res (by decide))).chg hset (by simp), own_chg hk hset (fun g hg hm => own_ne hk n2 (by decide) (by simp at hm; rw [hg, hm])), ?_, (h.rdr.chg hc2 (hnk h.rdr (by decide))).chg hset (by simp; omega), ?_, (h.cell.chg hc2 (hnk h.cell (by decide))).chg hset (by simp; omega), h.cblt, h.rlt, h.capart⟩
  · have := own_chg h.cells hc2 (fun g hg hm => own_apart h.keys h.cells (by decide) g (by rwa [Option.mem_toList] at hm) hg)
    exact own_chg this hset (fun g hg hm => own_ne this n2 (by decide) (by simp at hm; rw [hg, hm]))
  · refine Chg.setCell (h.chg.trans' (S1 := kv.ownBlock.toList) (fun g hg => .inr (hbase g (by rwa [Option.mem_toList] at hg))) hc2) (.inr (by omega)) _
/-- A cell has been added. -/
theorem LfMid.add_cell {cv' : Value} {x2 : World} {T : TypeId} {o : Array Value} {cs' : List Value} (h : LfMid w W rb s at_ ok nk nc kv cv ks cs cb c0 c1 c2) (hk : x2.ownsRow w.heap.size 63 3 cv' (nc + 1) cs') (hc : Chg cv.ownBlock.toList (W.alloc (.cells o T)) x2) :
    Blk x2 (w.heap.size + 1) 26 #[.bool true, kv, cv, .slice none 0 0] ∧ Blk (x2.setCell ⟨w.heap.size + 1, 2, none⟩ cv') (w.heap.size + 1) 26 #[.bool true, kv, cv', .slice none 0 0] ∧ Blk (x2.setCell ⟨w.heap.size + 1, 2, none⟩ cv') w.heap.size 26 #[.bool false, .slice none 0 0, .slice none 0 0, .slice none 0 0] ∧
      (x2.setCell ⟨w.heap.size + 1, 2, none⟩ cv').ownsRow w.heap.size 9 1 kv nk ks ∧ (x2.setCell ⟨w.heap.size + 1, 2, none⟩ cv').ownsRow w.heap.size 63 3 cv' (nc + 1) cs' ∧ Rdr (x2.setCell ⟨w.heap.size + 1, 2, none⟩ cv') rb s at_ ok ∧ Chg [rb] w (x2.setCell ⟨w.heap.size + 1, 2, none⟩ cv') := by
  have hr1 := h.rlt
  have hc2 : Chg cv.ownBlock.toList W x2 := ((Chg.refl _ _).alloc _).trans hc
  have hnk : ∀ {g t cs}, Blk W g t cs → 63 ≠ t → g ∉ cv.ownBlock.toList := fun hb hne hm => own_ne h.cells hb hne (by rwa [Option.mem_toList] at hm)
  have hbase : ∀ g, cv.ownBlock = some g → w.heap.size ≤ g := fun g hg => (World.ownsRow.lt h.cells g hg).1
  have n2 := h.node.chg hc2 (hnk h.node (by decide))
  have hset : Chg [w.heap.size + 1] x2 (x2.setCell ⟨w.heap.size + 1, 2, none⟩ cv') := (Chg.refl _ _).setCell (.inl (by simp)) _
  refine ⟨n2, n2.set_ 2 cv', (h.res.chg hc2 (hnk h.res (by decide))).chg hset (by simp), ?_, own_chg hk hset (fun g hg hm => own_ne hk n2 (by decide) (by simp at hm; rw [hg, hm])), (h.rdr.chg hc2 (hnk h.rdr (by decide))).chg hset (by simp; omega), ?_⟩
  · have := own_chg h.keys hc2 (fun g hg hm => own_apart h.cells h.keys (by decide) g (by rwa [Option.mem_toList] at hm) hg)
    exact own_chg this hset (fun g hg hm => own_ne this n2 (by decide) (by simp at hm; rw [hg, hm]))
  · refine Chg.setCell (h.chg.trans' (S1 := cv.ownBlock.toList) (fun g hg => .inr (hbase g (by rwa [Option.mem_toList] at hg))) hc2) (.inr (by omega)) _
end

theorem lf_exit {w wr : World} {rb : Nat} {s : ByteArray} {k at_ count : Nat} {ok : Bool} {l : List Pt} {ka ca : Option Addr} {kc cc : Nat} (h : LfInv w wr rb s k at_ ok (.slice ka k kc) (.slice ca k cc) l) (hk : k ≤ count) (hcount : count < 65536) (hend : ok = true → k = count) (v0 v1 v2 v3 : Value) :
    RetLf w rb s true leafOf 3 count (.returned (.agg #[.bool true, .slice ka k kc, .slice ca k cc, .slice none 0 0])) ((((wr.setCell ⟨w.heap.size, 0, none⟩ v0).setCell ⟨w.heap.size, 1, none⟩ v1).setCell ⟨w.heap.size, 2, none⟩ v2).setCell ⟨w.heap.size, 3, none⟩ v3) := by
  have hch : Chg [w.heap.size] wr ((((wr.setCell ⟨w.heap.size, 0, none⟩ v0).setCell ⟨w.heap.size, 1, none⟩ v1).setCell ⟨w.heap.size, 2, none⟩ v2).setCell ⟨w.heap.size, 3, none⟩ v3) :=
    ((((Chg.refl _ _).setCell (.inl (by simp)) _).setCell (.inl (by simp)) _).setCell (.inl (by simp)) _).setCell (.inl (by simp)) _
  have hne := h.rlt
  have hk2 := own_chg h.keys hch (fun g hg hm => own_ne h.keys h.res (by decide) (by simp at hm; rw [hg, hm]))
  have hc2 := own_chg h.cells hch (fun g hg hm => own_ne h.cells h.res (by decide) (by simp at hm; rw [hg, hm]))
  obtain ⟨a1, c1, e1, hkc, hkm, harr⟩ := own_slice hk2
  obtain ⟨a2, c2, e2, hcc, hcm, hcarr⟩ := own_slice hc2
  simp only [Value.slice.injEq, true_and] at e1 e2
  obtain ⟨rfl, rfl⟩ := e1
  obtain ⟨rfl, rfl⟩ := e2
  refine ⟨l, at_, ok, ⟨ka, k, kc, ca, k, cc, none, 0, 0⟩, rfl, ⟨?_, ?_, rfl, hkc, hcc, by simp, ?_, ?_, by simp, harr, hcarr, .inl rfl, ?_, ?_, by simp [leafOf]⟩, ?_, h.rdr.chg hch (by simp; omega), ?_, h.st.2.1, fun hok => ?_, fun hok => h.st.2.2.2 hok count hk, own_far hk2, own_far hc2, .inl rfl⟩
  · simp [leafOf, h.st.1]
  · simp [leafOf, h.st.1]
  · simp only; omega
  · simp only; omega
  · intro y hy
    simp only [leafOf, List.mem_map] at hy
    obtain ⟨p, hp, rfl⟩ := hy
    have := (h.fair p hp).1
    omega
  · intro y hy
    simp only [leafOf, List.mem_map] at hy
    obtain ⟨p, hp, rfl⟩ := hy
    obtain ⟨_, g2, g3, g4⟩ := h.fair p hp
    exact ⟨by simp only; omega, by simp only; omega, by simp only; omega⟩
  · simp only; omega
  · exact (((h.chg.setCell (.inr (Nat.le_refl _)) _).setCell (.inr (Nat.le_refl _)) _).setCell (.inr (Nat.le_refl _)) _).setCell (.inr (Nat.le_refl _)) _
  · have := hend hok
    subst this
    exact h.st.2.2.1 hok

set_option maxRecDepth 100000 in
set_option maxHeartbeats 8000000 in
theorem rleaf_any (rb : Nat) (s : ByteArray) (w : World) (h : Rdr w rb s 1 true) (hs : s.size = 512) :
    Calls Try.prog 39 #[.pointer (some ⟨rb, 0, none⟩)] w (RetLf w rb s true leafOf 3 (valL (cutL (bytesOf s) 1 2))) := by
  obtain ⟨iS, hiS, hzS, hsS, hbS⟩ := info_parts info_str
  obtain ⟨iC, hiC, hzC, hsC, hbC⟩ := info_parts info_cell
  have hlt := h.lt
  have hN := fun W hW => rnumber_any rb s 1 2 true 2 W rfl hW (by omega) (by omega) (by omega)
  rw [rdN_fit (show 1 + 2 ≤ s.size by omega)] at hN
  have hcount : valL (cutL (bytesOf s) 1 2) < 65536 := by
    have := valL_lt _ (cutL_lt (bytesOf_lt s) 1 2)
    rw [cutL_len (by rw [bytesOf_len]; omega)] at this
    exact this
  have HN := Lib.hid hN
  clear hN
  generalize valL (cutL (bytesOf s) 1 2) = count at *
  have HR0 : Hid (Rdr ((w.alloc (.cells #[.bool false, .slice none 0 0, .slice none 0 0, .slice none 0 0] 26)).alloc (.cells #[.bool true, .slice none 0 0, .slice none 0 0, .slice none 0 0] 26)) rb s 1 true) := (h.alloc _).alloc _
  have HS := Lib.hid hs
  clear h hs
  go_enter Try.func39, Try.ntmps39
  go_wp2_with fail
  refine (HN.out _ HR0.out).mono ?_
  rintro e w1 ⟨rfl, hR1, hC1⟩
  have b1 : Blk w1 (w.heap.size + 1) 26 #[.bool true, .slice none 0 0, .slice none 0 0, .slice none 0 0] := by
    have := (Blk.new (w.alloc (.cells #[.bool false, .slice none 0 0, .slice none 0 0, .slice none 0 0] 26)) 26 #[.bool true, .slice none 0 0, .slice none 0 0, .slice none 0 0]).chg hC1 (by simp; omega)
    simpa using this
  have b0 : Blk w1 w.heap.size 26 #[.bool false, .slice none 0 0, .slice none 0 0, .slice none 0 0] := ((Blk.new w _ _).alloc _).chg hC1 (by simp; omega)
  have hI0 : LfInv w w1 rb s 0 3 true (.slice none 0 0) (.slice none 0 0) [] := ⟨b1, b0, World.ownsRow_nil _ _ _ _, World.ownsRow_nil _ _ _ _, hR1, (((Chg.refl _ _).alloc _).alloc _).trans hC1, Stands.start (by have := HS.out; omega), hlt, by simp⟩
  have HI0 := Lib.hid hI0
  clear HN HR0 hR1 hC1 b0 b1 hI0
  go_wp2_with fail
  go_loopw [5] (fun v wr => ∃ (k at_ : Nat) (ok : Bool) (kv cv : Value) (l : List Pt), k ≤ count ∧ Hid (LfInv w wr rb s k at_ ok kv cv l)) (fun _ wr => lackOf wr (w.heap.size + 1) count)
  case atStart => exact ⟨0, 3, true, _, _, [], by omega, HI0⟩
  case round =>
    obtain ⟨k, at_, ok, kv, cv, l, hk, HI⟩ := hrel
    obtain ⟨hb1, hb0, hkv, hcv, hR, hC, hSt, _, hfair⟩ := HI.out
    obtain ⟨ka, kc, rfl, hkc, hkcm, hkarr⟩ := own_slice hkv
    have hrbn : rb ≠ w.heap.size + 1 := by omega
    obtain ⟨ca, cc, rfl, hcc, hccm, hcarr⟩ := own_slice hcv
    have n0 : wr.cell? ⟨w.heap.size + 1, 0, none⟩ = some (.bool true) := (hb1.cell 0).trans rfl
    have n1 : wr.cell? ⟨w.heap.size + 1, 1, none⟩ = some (.slice ka k kc) := (hb1.cell 1).trans rfl
    have n2 : wr.cell? ⟨w.heap.size + 1, 2, none⟩ = some (.slice ca k cc) := (hb1.cell 2).trans rfl
    have n3 : wr.cell? ⟨w.heap.size + 1, 3, none⟩ = some (.slice none 0 0) := (hb1.cell 3).trans rfl
    have hlack : lackOf wr (w.heap.size + 1) count = count - k := by unfold lackOf; rw [n1]
    have r2 : wr.cell? ⟨rb, 2, none⟩ = some (.bool ok) := (hR.cell 2).trans rfl
    have r0 := hR.lt
    by_cases hlt2 : k < count
    · have q1 : decide ((k : Int) < (count : Int)) = true := by first | (simp; done) | (simp; omega)
      cases ok with
      | false =>
        have HEx := Lib.hid (lf_exit HI.out hk hcount (by simp))
        have m0 : wr.cell? ⟨w.heap.size, 0, none⟩ = some (.bool false) := (hb0.cell 0).trans rfl
        have m1 : wr.cell? ⟨w.heap.size, 1, none⟩ = some (.slice none 0 0) := (hb0.cell 1).trans rfl
        have m2 : wr.cell? ⟨w.heap.size, 2, none⟩ = some (.slice none 0 0) := (hb0.cell 2).trans rfl
        have m3 : wr.cell? ⟨w.heap.size, 3, none⟩ = some (.slice none 0 0) := (hb0.cell 3).trans rfl
        have f0 := hb0.frozen 0
        have f1 := hb0.frozen 1
        have f2 := hb0.frozen 2
        have f3 := hb0.frozen 3
        have hblt := hb0.lt
        clear hlack
        go_wp2
        refine bodyPost_ret (v := .agg #[.bool true, .slice ka k kc, .slice ca k cc, .slice none 0 0]) (by simp [results, Try.results39, go_sem, m0, m1, m2, m3, hblt]) rfl (HEx.out _ _ _ _)
      | true =>
        have hsz512 := HS.out
        have hat := hSt.2.1
        have e1l : (rdN s at_ true 1).1 < 256 := by have := rdN_lt s at_ true 1; simpa using this
        have HN1 := Lib.hid (fun W hW => rnumber_any rb s at_ 1 true 1 W rfl hW hat (by omega) (by omega))
        have hat1 := rdN_at s at_ true 1 hat
        obtain ⟨⟨sz, at1, ok1⟩, hA⟩ : ∃ r, rdN s at_ true 1 = r := ⟨_, rfl⟩
        rw [hA] at HN1 e1l hat1
        have e2l : (rdN s at1 ok1 2).1 < 65536 := by have := rdN_lt s at1 ok1 2; simpa using this
        have HN2 := Lib.hid (fun W hW => rnumber_any rb s at1 2 ok1 2 W rfl hW hat1 (by omega) (by omega))
        have hat2 := rdN_at s at1 ok1 2 hat1
        obtain ⟨⟨ln, at2, ok2⟩, hB⟩ : ∃ r, rdN s at1 ok1 2 = r := ⟨_, rfl⟩
        rw [hB] at HN2 e2l hat2
        have HT3 := Lib.hid (fun W hW => rtext_any rb s at2 sz ok2 _ W rfl hW hat2 (by omega) (by simp only at e1l; omega))
        have e3l := rdT_size s at2 ok2 sz
        have hat3 := rdT_at s at2 ok2 sz hat2
        obtain ⟨⟨key, at3, ok3⟩, hC3⟩ : ∃ r, rdT s at2 ok2 sz = r := ⟨_, rfl⟩
        rw [hC3] at HT3 e3l hat3
        simp only at e1l e2l e3l hat1 hat2 hat3
        replace HN1 : Hid (∀ W, Rdr W rb s at_ true → Calls Try.prog 38 #[.pointer (some ⟨rb, 0, none⟩), .int .i64 1] W fun e w' => e = .returned (.int .i64 (sz : Int)) ∧ Rdr w' rb s at1 ok1 ∧ Chg [rb] W w') := HN1.out
        replace HN2 : Hid (∀ W, Rdr W rb s at1 ok1 → Calls Try.prog 38 #[.pointer (some ⟨rb, 0, none⟩), .int .i64 2] W fun e w' => e = .returned (.int .i64 (ln : Int)) ∧ Rdr w' rb s at2 ok2 ∧ Chg [rb] W w') := HN2.out
        replace HT3 : Hid (∀ W, Rdr W rb s at2 ok2 → Calls Try.prog 60 #[.pointer (some ⟨rb, 0, none⟩), .int .i64 (sz : Int)] W fun e w' => e = .returned (.string key) ∧ Rdr w' rb s at3 ok3 ∧ Chg [rb] W w') := HT3.out
        have HL : Hid (rdL s at_ true = if ln ≤ 120 then (⟨key, (ln : Int), (rdT s at3 ok3 ln).1, 0⟩, (rdT s at3 ok3 ln).2) else (⟨key, (ln : Int), ⟨#[]⟩, ((rdN s at3 ok3 4).1 : Int)⟩, (rdN s at3 ok3 4).2)) := by
          show _ = _
          unfold rdL
          simp only [hA, hB, hC3]
        have HStep := Lib.hid (hSt.stepL)
        have HLack := Lib.hid hlack
        clear hA hB hC3
        go_wp2_with fail
        refine (HN1.out _ hR).mono ?_
        rintro e v1 ⟨rfl, hR1, hC1⟩
        have HR1 := Lib.hid hR1
        have hc1 := hC1
        clear hR1 hC1 HN1
        go_wp2_with fail
        refine (HN2.out _ HR1.out).mono ?_
        rintro e v2 ⟨rfl, hR2, hC2⟩
        have HR2 := Lib.hid hR2
        replace hc1 := hc1.trans hC2
        clear hR2 hC2 HN2
        go_wp2_with fail
        have hcV : Chg [rb] wr (v2.alloc (.cells #[.int .i64 (ln : Int), .string ⟨#[]⟩, .int .i64 0] 63)) := hc1.alloc _
        have hnrb : ∀ g, (Value.slice ka k kc).ownBlock = some g → g ∉ [rb] := fun g hg hm => own_ne hkv hR (by decide) (by simp at hm; rw [hg, hm])
        have hnrb2 : ∀ g, (Value.slice ca k cc).ownBlock = some g → g ∉ [rb] := fun g hg hm => own_ne hcv hR (by decide) (by simp at hm; rw [hg, hm])
        have hM : LfMid w (v2.alloc (.cells #[.int .i64 (ln : Int), .string ⟨#[]⟩, .int .i64 0] 63)) rb s at2 ok2 k k (.slice ka k kc) (.slice ca k cc) (cellsS (l.map Pt.key)) (cellsC (l.map (fun p => ⟨p.len, p.data, p.page⟩))) v2.heap.size (.int .i64 (ln : Int)) (.string ⟨#[]⟩) (.int .i64 0) :=
          ⟨hb1.chg hcV (by simp; omega), hb0.chg hcV (by simp; omega), own_chg hkv hcV hnrb, own_chg hcv hcV hnrb2, Blk.alloc HR2.out _, HI.out.chg.trans hcV, Blk.new _ _ _, by have := hc1.size; have := hb1.lt; omega, HI.out.rlt, fun g hg => by have := own_lt hcv hg; have := hc1.size; omega⟩
        have HM := Lib.hid hM
        have HFair := Lib.hid hfair
        clear hcV hnrb hnrb2 hM hb1 hb0 hkv hcv hR hkarr hcarr hc1 hfair HI n0 n1 n2 n3 r2 hSt hlack
        have hvs : v2.heap.size = v2.heap.size := rfl
        generalize (v2.alloc (.cells #[.int .i64 (ln : Int), .string ⟨#[]⟩, .int .i64 0] 63)) = V at *
        generalize v2.heap.size = cb at *
        have hnbS : w.heap.size + 1 ∉ rb :: (Value.slice ka k kc).ownBlock.toList := by
          intro hm
          simp only [List.mem_cons, Option.mem_toList] at hm
          rcases hm with hm | hm
          · omega
          · exact own_ne HM.out.keys HM.out.node (by decide) hm
        have e0 : ∀ W, Chg (rb :: (Value.slice ka k kc).ownBlock.toList) V.drew W → W.cell? ⟨w.heap.size + 1, 1, none⟩ = some (.slice ka k kc) := fun W hW => (hW.cell (b := w.heap.size + 1) (by exact HM.out.node.lt) hnbS).trans ((HM.out.node.cell 1).trans rfl)
        have HRV : Hid (Rdr V.drew rb s at2 ok2) := HM.out.rdr
        refine wp_region_ordX (rb :: (Value.slice ka k kc).ownBlock.toList) 8 [(0, true), (1, true), (2, true), (3, true), (4, false), (5, false), (6, false), (7, true)] (by kernel_rfl) (by kernel_rfl) (by kernel_rfl) (by kernel_rfl) ?_
        repeat (first | ((refine wpOX_F rfl (by rfl) (fun w' hL => exec_load rfl rfl (e0 w' hL)) ?_); try simp only [Act.put, List.setIfInBounds_toArray, List.set_cons_zero, List.set_cons_succ]) | (refine wpOX_F (v := ?_) rfl (by rfl) (fun w' hL => ?_) ?_; rotate_left; (solve | (go_simp; with_reducible rfl) | go_simp); try simp only [Act.put, List.setIfInBounds_toArray, List.set_cons_zero, List.set_cons_succ]) | (refine wpOX_G (Chg.refl _) rfl (by rfl) ?_; try simp only [Act.put, List.setIfInBounds_toArray, List.set_cons_zero, List.set_cons_succ]))
        refine wpOX_C rfl (by rfl) ?_
        go_simp
        refine (HT3.out _ HRV.out).mono ?_
        rintro e x1 ⟨rfl, hR3, hC3⟩
        refine ⟨hC3.sub (by simp), ?_⟩
        try simp only [Act.put, List.setIfInBounds_toArray, List.set_cons_zero, List.set_cons_succ]
        refine wpOX_C rfl (by rfl) ?_
        go_simp
        refine ⟨(Chg.refl _ _).alloc _, ?_⟩
        try simp only [Act.put, List.setIfInBounds_toArray, List.set_cons_zero, List.set_cons_succ]
        have hnrb : ∀ g, (Value.slice ka k kc).ownBlock = some g → g ∉ [rb] := fun g hg hm => own_ne HM.out.keys HM.out.rdr (by decide) (by simp at hm; rw [hg, hm])
        have hkx1 : x1.ownsRow w.heap.size 9 1 (.slice ka k kc) k (cellsS (l.map Pt.key)) := own_chg (w := V.drew) HM.out.keys hC3 hnrb
        refine wpOX_C rfl (by rfl) ?_
        refine wp_appC (.tmp 27) (.tmp 31) 22 rfl w.heap.size 9 iS (.string ⟨#[]⟩) 1 16 Try.underlying22 hiS hzS rfl hsS (by omega) hbS (by omega) (.slice ka k kc) k _ [.string key] x1 hkx1 rfl _ rfl rfl (by simp [Value.oneCell']) rfl (by omega) (by have := hC3.size; have : V.drew.heap.size = V.heap.size := rfl; have := HM.out.node.lt; omega) ?_
        intro kv' x2 hk2 hc2 hsz2
        refine ⟨hc2.sub (fun g hg => List.mem_cons_of_mem _ hg), ?_⟩
        try simp only [Act.put, List.setIfInBounds_toArray, List.set_cons_zero, List.set_cons_succ]
        obtain ⟨hnode, hM2⟩ := (HM.out.drew.rdr_step hC3 hR3).add_key hk2 hc2
        obtain ⟨ka2, kc2, rfl, hkc2, hkm2, _⟩ := own_slice hk2
        have p1 : x2.cell? ⟨w.heap.size + 1, 1, none⟩ = some (.slice ka k kc) := (hnode.cell 1).trans rfl
        have pf := hnode.frozen 1
        have pl := hnode.lt
        have HM2 := Lib.hid hM2
        clear hM2 hnode hkx1 hnrb hR3 hC3 hk2 hc2 HM HT3 HRV hsz2
        repeat (first | ((refine wpOX_F rfl (by rfl) (fun w' hL => exec_load rfl rfl (e0 w' hL)) ?_); try simp only [Act.put, List.setIfInBounds_toArray, List.set_cons_zero, List.set_cons_succ]) | (refine wpOX_F (v := ?_) rfl (by rfl) (fun w' hL => ?_) ?_; rotate_left; (solve | (go_simp; with_reducible rfl) | go_simp); try simp only [Act.put, List.setIfInBounds_toArray, List.set_cons_zero, List.set_cons_succ]) | (refine wpOX_G (Chg.refl _) rfl (by rfl) ?_; try simp only [Act.put, List.setIfInBounds_toArray, List.set_cons_zero, List.set_cons_succ]))
        refine wpOX_end rfl (by rfl) ?_
        go_simp
        simp only [NoPanic]
        clear e0 p1 pf pl hnbS
        generalize (x2.setCell ⟨w.heap.size + 1, 1, none⟩ (.slice ka2 (k + 1) kc2)) = X3 at *
        have g0 : X3.cell? ⟨cb, 0, none⟩ = some (.int .i64 (ln : Int)) := (HM2.out.cell.cell 0).trans rfl
        have hcb1 := HM2.out.cell.lt
        have fz1 := HM2.out.cell.frozen 1
        have fz2 := HM2.out.cell.frozen 2
        by_cases h120 : ln ≤ 120
        · have q120 : decide ((ln : Int) ≤ 120) = true := by simp; omega
          have hd1 := rdT_size s at3 ok3 ln
          have hd2 := rdT_at s at3 ok3 ln hat3
          have HD := Lib.hid (rtext_any rb s at3 ln ok3 _ X3 rfl HM2.out.rdr hat3 (by omega) (by omega))
          rw [if_pos h120] at HL
          obtain ⟨⟨dt, at4, ok4⟩, hD⟩ : ∃ r, rdT s at3 ok3 ln = r := ⟨_, rfl⟩
          rw [hD] at hd1 hd2 HD HL
          replace HD : Hid (Calls Try.prog 60 #[.pointer (some ⟨rb, 0, none⟩), .int .i64 (ln : Int)] X3 fun e w' => e = .returned (.string dt) ∧ Rdr w' rb s at4 ok4 ∧ Chg [rb] X3 w') := HD.out
          simp only at hd1 hd2
          clear hD
          go_wp2_with fail
          refine HD.out.mono ?_
          rintro e x4 ⟨rfl, hR4, hC4⟩
          have hM4 := HM2.out.rdr_step hC4 hR4
          have t1 : x4.cell? ⟨cb, 1, none⟩ = some (.string ⟨#[]⟩) := (hM4.cell.cell 1).trans rfl
          have tf := hM4.cell.frozen 1
          have tl := hM4.cell.lt
          have hM5 := (hM4.set_cell 1 (.string dt)).2 _ _ _ (hM4.set_cell 1 (.string dt)).1
          have HM5 := Lib.hid hM5
          clear hM4 hM5 hR4 hC4 HD g0 hcb1 fz1 fz2 HM2
          have y2 : (x4.setCell ⟨cb, 1, none⟩ (.string dt)).cell? ⟨w.heap.size + 1, 2, none⟩ = some (.slice ca k cc) := (HM5.out.node.cell 2).trans rfl
          have z0 : (x4.setCell ⟨cb, 1, none⟩ (.string dt)).cell? ⟨cb, 0, none⟩ = some (.int .i64 (ln : Int)) := (HM5.out.cell.cell 0).trans rfl
          have z1 : (x4.setCell ⟨cb, 1, none⟩ (.string dt)).cell? ⟨cb, 1, none⟩ = some (.string dt) := (HM5.out.cell.cell 1).trans rfl
          have z2 : (x4.setCell ⟨cb, 1, none⟩ (.string dt)).cell? ⟨cb, 2, none⟩ = some (.int .i64 0) := (HM5.out.cell.cell 2).trans rfl
          have hst : Stands true s 3 (k + 1) (l ++ [⟨key, (ln : Int), dt, 0⟩]) at4 ok4 := by
            have := HStep.out
            rw [HL.out] at this
            exact this
          have HNew : Hid (∀ x6 (ca2 : Option Addr) (cc2 : Nat), x6.ownsRow w.heap.size 63 3 (.slice ca2 (k + 1) cc2) (k + 1) (cellsC (l.map (fun p => ⟨p.len, p.data, p.page⟩)) ++ [.int .i64 (ln : Int), .string dt, .int .i64 0]) → Chg (Value.slice ca k cc).ownBlock.toList ((x4.setCell ⟨cb, 1, none⟩ (.string dt)).alloc (.cells #[.int .i64 (ln : Int), .string dt, .int .i64 0] 63)) x6 →
              LfInv w (x6.setCell ⟨w.heap.size + 1, 2, none⟩ (.slice ca2 (k + 1) cc2)) rb s (k + 1) at4 ok4 (.slice ka2 (k + 1) kc2) (.slice ca2 (k + 1) cc2) (l ++ [⟨key, (ln : Int), dt, 0⟩]) ∧ x6.cell? ⟨w.heap.size + 1, 2, none⟩ = some (.slice ca k cc) ∧ x6.frozen? ⟨w.heap.size + 1, 2, none⟩ = false ∧ w.heap.size + 1 < x6.heap.size ∧ lackOf (x6.setCell ⟨w.heap.size + 1, 2, none⟩ (.slice ca2 (k + 1) cc2)) (w.heap.size + 1) count = count - (k + 1)) := by
            intro x6 ca2 cc2 hk6 hc6
            obtain ⟨a1, a2, a3, a4, a5, a6, a7⟩ := HM5.out.add_cell hk6 hc6
            refine ⟨⟨a2, a3, ?_, ?_, a6, a7, hst, HM5.out.rlt, ?_⟩, (a1.cell 2).trans rfl, a1.frozen 2, a1.lt, ?_⟩
            · have e : cellsS (List.map Pt.key (l ++ [⟨key, (ln : Int), dt, 0⟩])) = cellsS (l.map Pt.key) ++ [.string key] := by rw [List.map_append]; exact cellsOf_snoc _ _ _
              rw [e]; exact a4
            · have e : cellsC (List.map (fun p : Pt => (⟨p.len, p.data, p.page⟩ : Cl)) (l ++ [⟨key, (ln : Int), dt, 0⟩])) = cellsC (l.map (fun p => ⟨p.len, p.data, p.page⟩)) ++ [.int .i64 (ln : Int), .string dt, .int .i64 0] := by rw [List.map_append]; exact cellsOf_snoc _ _ _
              rw [e]; exact a5
            · intro q hq
              rcases List.mem_append.1 hq with hq | hq
              · exact HFair.out q hq
              · simp only [List.mem_singleton] at hq
                subst hq
                exact ⟨by simp only; omega, by simp only [ByteArray.size]; simp only [ByteArray.size] at hd1; omega, by simp only; omega, by simp only; omega⟩
            · unfold lackOf
              rw [(a2.cell 1).trans rfl]
              rfl
          have hszW : (x4.setCell ⟨cb, 1, none⟩ (.string dt)).heap.size = x4.heap.size := by simp [World.setCell]
          have hbs : w.heap.size ≤ (x4.setCell ⟨cb, 1, none⟩ (.string dt)).heap.size := by have := HM5.out.node.lt; omega
          go_wp2_with (at_builtin; refine wpList_appC rfl (.tmp 46) (.tmp 48) 23 rfl w.heap.size 63 iC (.agg #[.int .i64 0, .string ⟨#[]⟩, .int .i64 0]) 3 32 Try.underlying23 hiC hzC rfl hsC (by omega) hbC (by omega) (.slice ca k cc) k _ [.int .i64 (ln : Int), .string dt, .int .i64 0] (x4.setCell ⟨cb, 1, none⟩ (.string dt)) HM5.out.cells rfl _ rfl rfl (by simp [Value.oneCell']) (by rw [hszW]; rfl) (by omega) hbs ?_; intro cv6 x6 hk6 hc6 hs6; obtain ⟨ca2, cc2, rfl, _, _, _⟩ := own_slice hk6; obtain ⟨hInv, u1, u2, u3, hl6⟩ := HNew.out x6 ca2 cc2 hk6 hc6; have HInv := Lib.hid hInv; have HL6 := Lib.hid hl6; clear hInv hl6 hk6 hc6 y2 z0 z1 z2)
          go_roundw
          case rel => exact ⟨k + 1, at4, ok4, _, _, _, by omega, HInv⟩
          case measure => rw [HL6.out, HLack.out]; omega
        · have q120 : decide ((ln : Int) ≤ 120) = false := by simp; omega
          have hd1 : (rdN s at3 ok3 4).1 < 4294967296 := by have := rdN_lt s at3 ok3 4; simpa using this
          have hd2 := rdN_at s at3 ok3 4 hat3
          have HD := Lib.hid (rnumber_any rb s at3 4 ok3 4 X3 rfl HM2.out.rdr hat3 (by omega) (by omega))
          rw [if_neg h120] at HL
          obtain ⟨⟨pg, at4, ok4⟩, hD⟩ : ∃ r, rdN s at3 ok3 4 = r := ⟨_, rfl⟩
          rw [hD] at hd1 hd2 HD HL
          replace HD : Hid (Calls Try.prog 38 #[.pointer (some ⟨rb, 0, none⟩), .int .i64 4] X3 fun e w' => e = .returned (.int .i64 (pg : Int)) ∧ Rdr w' rb s at4 ok4 ∧ Chg [rb] X3 w') := HD.out
          simp only at hd1 hd2
          clear hD
          go_wp2_with fail
          refine HD.out.mono ?_
          rintro e x4 ⟨rfl, hR4, hC4⟩
          have hM4 := HM2.out.rdr_step hC4 hR4
          have t1 : x4.cell? ⟨cb, 2, none⟩ = some (.int .i64 0) := (hM4.cell.cell 2).trans rfl
          have tf := hM4.cell.frozen 2
          have tl := hM4.cell.lt
          have hM5 := (hM4.set_cell 2 (.int .i64 (pg : Int))).2 _ _ _ (hM4.set_cell 2 (.int .i64 (pg : Int))).1
          have HM5 := Lib.hid hM5
          clear hM4 hM5 hR4 hC4 HD g0 hcb1 fz1 fz2 HM2
          have y2 : (x4.setCell ⟨cb, 2, none⟩ (.int .i64 (pg : Int))).cell? ⟨w.heap.size + 1, 2, none⟩ = some (.slice ca k cc) := (HM5.out.node.cell 2).trans rfl
          have z0 : (x4.setCell ⟨cb, 2, none⟩ (.int .i64 (pg : Int))).cell? ⟨cb, 0, none⟩ = some (.int .i64 (ln : Int)) := (HM5.out.cell.cell 0).trans rfl
          have z1 : (x4.setCell ⟨cb, 2, none⟩ (.int .i64 (pg : Int))).cell? ⟨cb, 1, none⟩ = some (.string ⟨#[]⟩) := (HM5.out.cell.cell 1).trans rfl
          have z2 : (x4.setCell ⟨cb, 2, none⟩ (.int .i64 (pg : Int))).cell? ⟨cb, 2, none⟩ = some (.int .i64 (pg : Int)) := (HM5.out.cell.cell 2).trans rfl
          have hst : Stands true s 3 (k + 1) (l ++ [⟨key, (ln : Int), ⟨#[]⟩, (pg : Int)⟩]) at4 ok4 := by
            have := HStep.out
            rw [HL.out] at this
            exact this
          have HNew : Hid (∀ x6 (ca2 : Option Addr) (cc2 : Nat), x6.ownsRow w.heap.size 63 3 (.slice ca2 (k + 1) cc2) (k + 1) (cellsC (l.map (fun p => ⟨p.len, p.data, p.page⟩)) ++ [.int .i64 (ln : Int), .string ⟨#[]⟩, .int .i64 (pg : Int)]) → Chg (Value.slice ca k cc).ownBlock.toList ((x4.setCell ⟨cb, 2, none⟩ (.int .i64 (pg : Int))).alloc (.cells #[.int .i64 (ln : Int), .string ⟨#[]⟩, .int .i64 (pg : Int)] 63)) x6 →
              LfInv w (x6.setCell ⟨w.heap.size + 1, 2, none⟩ (.slice ca2 (k + 1) cc2)) rb s (k + 1) at4 ok4 (.slice ka2 (k + 1) kc2) (.slice ca2 (k + 1) cc2) (l ++ [⟨key, (ln : Int), ⟨#[]⟩, (pg : Int)⟩]) ∧ x6.cell? ⟨w.heap.size + 1, 2, none⟩ = some (.slice ca k cc) ∧ x6.frozen? ⟨w.heap.size + 1, 2, none⟩ = false ∧ w.heap.size + 1 < x6.heap.size ∧ lackOf (x6.setCell ⟨w.heap.size + 1, 2, none⟩ (.slice ca2 (k + 1) cc2)) (w.heap.size + 1) count = count - (k + 1)) := by
            intro x6 ca2 cc2 hk6 hc6
            obtain ⟨a1, a2, a3, a4, a5, a6, a7⟩ := HM5.out.add_cell hk6 hc6
            refine ⟨⟨a2, a3, ?_, ?_, a6, a7, hst, HM5.out.rlt, ?_⟩, (a1.cell 2).trans rfl, a1.frozen 2, a1.lt, ?_⟩
            · have e : cellsS (List.map Pt.key (l ++ [⟨key, (ln : Int), ⟨#[]⟩, (pg : Int)⟩])) = cellsS (l.map Pt.key) ++ [.string key] := by rw [List.map_append]; exact cellsOf_snoc _ _ _
              rw [e]; exact a4
            · have e : cellsC (List.map (fun p : Pt => (⟨p.len, p.data, p.page⟩ : Cl)) (l ++ [⟨key, (ln : Int), ⟨#[]⟩, (pg : Int)⟩])) = cellsC (l.map (fun p => ⟨p.len, p.data, p.page⟩)) ++ [.int .i64 (ln : Int), .string ⟨#[]⟩, .int .i64 (pg : Int)] := by rw [List.map_append]; exact cellsOf_snoc _ _ _
              rw [e]; exact a5
            · intro q hq
              rcases List.mem_append.1 hq with hq | hq
              · exact HFair.out q hq
              · simp only [List.mem_singleton] at hq
                subst hq
                exact ⟨by simp only; omega, by simp only [ByteArray.size]; simp, by simp only; omega, by simp only; omega⟩
            · unfold lackOf
              rw [(a2.cell 1).trans rfl]
              rfl
          have hszW : (x4.setCell ⟨cb, 2, none⟩ (.int .i64 (pg : Int))).heap.size = x4.heap.size := by simp [World.setCell]
          have hbs : w.heap.size ≤ (x4.setCell ⟨cb, 2, none⟩ (.int .i64 (pg : Int))).heap.size := by have := HM5.out.node.lt; omega
          go_wp2_with (at_builtin; refine wpList_appC rfl (.tmp 46) (.tmp 48) 23 rfl w.heap.size 63 iC (.agg #[.int .i64 0, .string ⟨#[]⟩, .int .i64 0]) 3 32 Try.underlying23 hiC hzC rfl hsC (by omega) hbC (by omega) (.slice ca k cc) k _ [.int .i64 (ln : Int), .string ⟨#[]⟩, .int .i64 (pg : Int)] (x4.setCell ⟨cb, 2, none⟩ (.int .i64 (pg : Int))) HM5.out.cells rfl _ rfl rfl (by simp [Value.oneCell']) (by rw [hszW]; rfl) (by omega) hbs ?_; intro cv6 x6 hk6 hc6 hs6; obtain ⟨ca2, cc2, rfl, _, _, _⟩ := own_slice hk6; obtain ⟨hInv, u1, u2, u3, hl6⟩ := HNew.out x6 ca2 cc2 hk6 hc6; have HInv := Lib.hid hInv; have HL6 := Lib.hid hl6; clear hInv hl6 hk6 hc6 y2 z0 z1 z2)
          go_roundw
          case rel => exact ⟨k + 1, at4, ok4, _, _, _, by omega, HInv⟩
          case measure => rw [HL6.out, HLack.out]; omega
    · have q1 : decide ((k : Int) < (count : Int)) = false := by first | (simp; done) | (simp; omega)
      have HEx := Lib.hid (lf_exit HI.out hk hcount (fun _ => by omega))
      have m0 : wr.cell? ⟨w.heap.size, 0, none⟩ = some (.bool false) := (hb0.cell 0).trans rfl
      have m1 : wr.cell? ⟨w.heap.size, 1, none⟩ = some (.slice none 0 0) := (hb0.cell 1).trans rfl
      have m2 : wr.cell? ⟨w.heap.size, 2, none⟩ = some (.slice none 0 0) := (hb0.cell 2).trans rfl
      have m3 : wr.cell? ⟨w.heap.size, 3, none⟩ = some (.slice none 0 0) := (hb0.cell 3).trans rfl
      have f0 := hb0.frozen 0
      have f1 := hb0.frozen 1
      have f2 := hb0.frozen 2
      have f3 := hb0.frozen 3
      have hblt := hb0.lt
      clear hlack
      go_wp2
      refine bodyPost_ret (v := .agg #[.bool true, .slice ka k kc, .slice ca k cc, .slice none 0 0]) (by simp [results, Try.results39, go_sem, m0, m1, m2, m3, hblt]) rfl (HEx.out _ _ _ _)
end Go.Proofs.Ytlcphgomhhejbaa

/- The walks of slices.Clone over strings, cells and integers. -/
namespace Go.Proofs.Ytlcphgomhhejbaa
open Go.RowKit

/-- A call hands back a slice with these cells. -/
def RetArr (w : World) (vs : List Value) (n : Nat) (e : Ending) (w' : World) : Prop :=
  ∃ a cap, e = .returned (.slice a n cap) ∧ n ≤ cap ∧ cap ≤ 9223372036854775807 ∧ Arr w'.heap.size w' a vs ∧ Far w.heap.size a vs ∧ Below w.heap.size w w'

set_option maxRecDepth 100000 in
set_option maxHeartbeats 1000000 in
theorem cloneS_any (vs : List Value) (a : Option Addr) (n cap : Nat) (w : World) (hV : Arr w.heap.size w a vs) (hn : vs.length = n * 1) (hone : ∀ u ∈ vs, u.oneCell' = true) (hmax : n ≤ 1000000000) :
    Calls Try.prog 61 #[.slice a n cap] w (RetArr w vs n) := by
  obtain ⟨i0, hi, hz0, hz1, hz2⟩ := info_parts info_str
  have q22 : ∀ (w : World) (a : Option Addr) (n c : Nat), (binOp .eql 22 (.slice a n c) (.slice none 0 0)).run Try.prog w = .ok (.bool a.isNone) w := fun w a n c => by simp [binOp, run_equal_slice_nil w _ _ a n c Try.underlying22]
  have HV := Lib.hid hV
  have HN := Lib.hid hn
  have HO := Lib.hid hone
  cases a with
  | none =>
    have hvs : vs = [] := by
      rcases hV with h | ⟨b, o, h, _⟩
      · exact h
      · cases h
    have hn0 : n = 0 := by rw [hvs] at hn; simp at hn; omega
    subst hn0
    have HE : Hid (RetArr w vs 0 (.returned (.slice none 0 0)) w) := ⟨none, 0, rfl, by omega, by omega, .inl hvs, .inl hvs, Below.refl _ _⟩
    clear hV hn hone hvs
    go_enter Try.func61, Try.ntmps61
    go_wp2
    go_ret
    exact HE.out
  | some ad =>
    have HRd : Hid (∀ W, Below w.heap.size w W → ∀ (j : Nat) u, vs[j]? = some u → W.cell? (ad.add j) = some u) := by
      intro W hb j u hj
      rcases hV with h | ⟨b, o, h, hN, hc⟩
      · rw [h] at hj; simp at hj
      · simp only [Option.some.injEq] at h
        subst h
        have e : (⟨b, o, none⟩ : Addr).add j = ⟨b, o + j, none⟩ := by unfold Addr.add; split <;> simp_all
        rw [e]
        exact (hb.cell (p := ⟨b, o + j, none⟩) hN).trans (hc j u hj)
    have HB : Hid (Below w.heap.size w (w.alloc (.cells #[] 9))) := Below.box w _
    have hown : (w.alloc (.cells #[] 9)).ownsRow w.heap.size 9 1 (.slice (some ⟨w.heap.size, 0, none⟩) 0 0) 0 [] := ⟨by simp, .inr ⟨w.heap.size, 0, #[], rfl, Nat.le_refl _, heap_alloc_new _ _, by omega, by unfold maxLen; omega, by simp, by simp⟩⟩
    have HOwn := Lib.hid hown
    clear hV hn hone hown
    go_enter Try.func61, Try.ntmps61
    go_wp2_with (at_builtin; refine wpList_append_own (w.alloc (.cells #[] 9)) rfl _ _ 22 rfl w.heap.size 9 i0 (.string ⟨#[]⟩) 1 16 Try.underlying22 hi hz0 hz1 hz2 rfl (by omega) (.slice (some ⟨w.heap.size, 0, none⟩) 0 0) 0 [] rfl HOwn.out ad n cap vs rfl HN.out (HRd.out _ HB.out) HO.out (by unfold maxLen; omega) (by omega) (by simp) ?_; intro v' w' hown' hgrow hnil)
    go_ret
    have hb : Below w.heap.size w w' := HB.out.grown hgrow (by simp) (fun j hj => by
      have e : (Value.slice (some ⟨w.heap.size, 0, none⟩) 0 0).ownBlock = some w.heap.size := rfl
      rw [e] at hj
      simp only [Option.some.injEq] at hj
      omega)
    rw [Nat.zero_add, List.nil_append] at hown'
    obtain ⟨a', c', rfl, h1, h2, h3⟩ := own_slice hown'
    exact ⟨a', c', rfl, h1, h2, h3, own_far hown', hb⟩

set_option maxRecDepth 100000 in
set_option maxHeartbeats 1000000 in
theorem cloneI_any (vs : List Value) (a : Option Addr) (n cap : Nat) (w : World) (hV : Arr w.heap.size w a vs) (hn : vs.length = n * 1) (hone : ∀ u ∈ vs, u.oneCell' = true) (hmax : n ≤ 1000000000) :
    Calls Try.prog 63 #[.slice a n cap] w (RetArr w vs n) := by
  obtain ⟨i0, hi, hz0, hz1, hz2⟩ := info_parts info_int
  have q22 : ∀ (w : World) (a : Option Addr) (n c : Nat), (binOp .eql 24 (.slice a n c) (.slice none 0 0)).run Try.prog w = .ok (.bool a.isNone) w := fun w a n c => by simp [binOp, run_equal_slice_nil w _ _ a n c Try.underlying24]
  have HV := Lib.hid hV
  have HN := Lib.hid hn
  have HO := Lib.hid hone
  cases a with
  | none =>
    have hvs : vs = [] := by
      rcases hV with h | ⟨b, o, h, _⟩
      · exact h
      · cases h
    have hn0 : n = 0 := by rw [hvs] at hn; simp at hn; omega
    subst hn0
    have HE : Hid (RetArr w vs 0 (.returned (.slice none 0 0)) w) := ⟨none, 0, rfl, by omega, by omega, .inl hvs, .inl hvs, Below.refl _ _⟩
    clear hV hn hone hvs
    go_enter Try.func63, Try.ntmps63
    go_wp2
    go_ret
    exact HE.out
  | some ad =>
    have HRd : Hid (∀ W, Below w.heap.size w W → ∀ (j : Nat) u, vs[j]? = some u → W.cell? (ad.add j) = some u) := by
      intro W hb j u hj
      rcases hV with h | ⟨b, o, h, hN, hc⟩
      · rw [h] at hj; simp at hj
      · simp only [Option.some.injEq] at h
        subst h
        have e : (⟨b, o, none⟩ : Addr).add j = ⟨b, o + j, none⟩ := by unfold Addr.add; split <;> simp_all
        rw [e]
        exact (hb.cell (p := ⟨b, o + j, none⟩) hN).trans (hc j u hj)
    have HB : Hid (Below w.heap.size w (w.alloc (.cells #[] 3))) := Below.box w _
    have hown : (w.alloc (.cells #[] 3)).ownsRow w.heap.size 3 1 (.slice (some ⟨w.heap.size, 0, none⟩) 0 0) 0 [] := ⟨by simp, .inr ⟨w.heap.size, 0, #[], rfl, Nat.le_refl _, heap_alloc_new _ _, by omega, by unfold maxLen; omega, by simp, by simp⟩⟩
    have HOwn := Lib.hid hown
    clear hV hn hone hown
    go_enter Try.func63, Try.ntmps63
    go_wp2_with (at_builtin; refine wpList_append_own (w.alloc (.cells #[] 3)) rfl _ _ 24 rfl w.heap.size 3 i0 (.int .i64 0) 1 8 Try.underlying24 hi hz0 hz1 hz2 rfl (by omega) (.slice (some ⟨w.heap.size, 0, none⟩) 0 0) 0 [] rfl HOwn.out ad n cap vs rfl HN.out (HRd.out _ HB.out) HO.out (by unfold maxLen; omega) (by omega) (by simp) ?_; intro v' w' hown' hgrow hnil)
    go_ret
    have hb : Below w.heap.size w w' := HB.out.grown hgrow (by simp) (fun j hj => by
      have e : (Value.slice (some ⟨w.heap.size, 0, none⟩) 0 0).ownBlock = some w.heap.size := rfl
      rw [e] at hj
      simp only [Option.some.injEq] at hj
      omega)
    rw [Nat.zero_add, List.nil_append] at hown'
    obtain ⟨a', c', rfl, h1, h2, h3⟩ := own_slice hown'
    exact ⟨a', c', rfl, h1, h2, h3, own_far hown', hb⟩

set_option maxRecDepth 100000 in
set_option maxHeartbeats 1000000 in
theorem cloneC_any (vs : List Value) (a : Option Addr) (n cap : Nat) (w : World) (hV : Arr w.heap.size w a vs) (hn : vs.length = n * 3) (hone : ∀ u ∈ vs, u.oneCell' = true) (hmax : n ≤ 1000000000) :
    Calls Try.prog 62 #[.slice a n cap] w (RetArr w vs n) := by
  obtain ⟨i0, hi, hz0, hz1, hz2⟩ := info_parts info_cell
  have q22 : ∀ (w : World) (a : Option Addr) (n c : Nat), (binOp .eql 23 (.slice a n c) (.slice none 0 0)).run Try.prog w = .ok (.bool a.isNone) w := fun w a n c => by simp [binOp, run_equal_slice_nil w _ _ a n c Try.underlying23]
  have HV := Lib.hid hV
  have HN := Lib.hid hn
  have HO := Lib.hid hone
  cases a with
  | none =>
    have hvs : vs = [] := by
      rcases hV with h | ⟨b, o, h, _⟩
      · exact h
      · cases h
    have hn0 : n = 0 := by rw [hvs] at hn; simp at hn; omega
    subst hn0
    have HE : Hid (RetArr w vs 0 (.returned (.slice none 0 0)) w) := ⟨none, 0, rfl, by omega, by omega, .inl hvs, .inl hvs, Below.refl _ _⟩
    clear hV hn hone hvs
    go_enter Try.func62, Try.ntmps62
    go_wp2
    go_ret
    exact HE.out
  | some ad =>
    have HRd : Hid (∀ W, Below w.heap.size w W → ∀ (j : Nat) u, vs[j]? = some u → W.cell? (ad.add j) = some u) := by
      intro W hb j u hj
      rcases hV with h | ⟨b, o, h, hN, hc⟩
      · rw [h] at hj; simp at hj
      · simp only [Option.some.injEq] at h
        subst h
        have e : (⟨b, o, none⟩ : Addr).add j = ⟨b, o + j, none⟩ := by unfold Addr.add; split <;> simp_all
        rw [e]
        exact (hb.cell (p := ⟨b, o + j, none⟩) hN).trans (hc j u hj)
    have HB : Hid (Below w.heap.size w (w.alloc (.cells #[] 63))) := Below.box w _
    have hown : (w.alloc (.cells #[] 63)).ownsRow w.heap.size 63 3 (.slice (some ⟨w.heap.size, 0, none⟩) 0 0) 0 [] := ⟨by simp, .inr ⟨w.heap.size, 0, #[], rfl, Nat.le_refl _, heap_alloc_new _ _, by omega, by unfold maxLen; omega, by simp, by simp⟩⟩
    have HOwn := Lib.hid hown
    clear hV hn hone hown
    go_enter Try.func62, Try.ntmps62
    go_wp2_with (at_builtin; refine wpList_append_own (w.alloc (.cells #[] 63)) rfl _ _ 23 rfl w.heap.size 63 i0 (.agg #[.int .i64 0, .string ⟨#[]⟩, .int .i64 0]) 3 32 Try.underlying23 hi hz0 hz1 hz2 rfl (by omega) (.slice (some ⟨w.heap.size, 0, none⟩) 0 0) 0 [] rfl HOwn.out ad n cap vs rfl HN.out (HRd.out _ HB.out) HO.out (by unfold maxLen; omega) (by omega) (by simp) ?_; intro v' w' hown' hgrow hnil)
    go_ret
    have hb : Below w.heap.size w w' := HB.out.grown hgrow (by simp) (fun j hj => by
      have e : (Value.slice (some ⟨w.heap.size, 0, none⟩) 0 0).ownBlock = some w.heap.size := rfl
      rw [e] at hj
      simp only [Option.some.injEq] at hj
      omega)
    rw [Nat.zero_add, List.nil_append] at hown'
    obtain ⟨a', c', rfl, h1, h2, h3⟩ := own_slice hown'
    exact ⟨a', c', rfl, h1, h2, h3, own_far hown', hb⟩
end Go.Proofs.Ytlcphgomhhejbaa

/- The walks of node.headSize, node.pairSize, node.sizeOf and node.Size. -/
namespace Go.Proofs.Ytlcphgomhhejbaa
open Go.RowKit

theorem headSize_any (n : Nd) (m : NB) (w : World) :
    Calls Try.prog 53 #[m.v n.leaf] w fun e w' => e = .returned (.int .i64 (((if n.leaf then 3 else 7) : Nat) : Int)) ∧ Below w.heap.size w w' := by
  obtain ⟨leaf, ks, cs, ps⟩ := n
  obtain ⟨ka, kl, kc, ca, cl, cc, da, dl, dc⟩ := m
  simp only
  cases leaf
  all_goals
    go_enter Try.func53, Try.ntmps53
    go_wp2
    go_ret
    exact ⟨rfl, Below.box _ _⟩

set_option maxHeartbeats 1000000 in
theorem pairSize_any (n : Nd) (m : NB) (i : Nat) (x : Pt) (w : World) (h : NAt w n m) (hs : n.shaped = true) (hx : n.asR.l[i]? = some x) :
    Calls Try.prog 54 #[m.v n.leaf, .int .i64 (i : Int)] w fun e w' => e = .returned (.int .i64 ((lenPt n.leaf x : Nat) : Int)) ∧ Below w.heap.size w w' := by
  have kmax := h.kmax
  have hk := h.hk
  have hc := h.hc
  have karr := h.karr
  have carr := h.carr
  have kfair := h.kfair
  have cfair := h.cfair
  clear h
  obtain ⟨ka, kl, kc, ca, cl, cc, da, dl, dc⟩ := m
  simp only at *
  cases hl : n.leaf with
  | true =>
    obtain ⟨_, hlen, hp⟩ := part_leaf hs hl
    obtain ⟨hk1, hc1⟩ := hp i x hx
    obtain ⟨hkl, hke⟩ := List.getElem?_eq_some_iff.1 hk1
    obtain ⟨hcl, hce⟩ := List.getElem?_eq_some_iff.1 hc1
    obtain ⟨b, o, rfl, hb, c0⟩ := strAt karr hkl
    obtain ⟨b2, o2, rfl, hb2, c1, c2, c3⟩ := cellAt carr hcl
    have hks := kfair _ (List.getElem_mem hkl)
    have hcs := cfair _ (List.getElem_mem hcl)
    rw [hke] at c0 hks
    rw [hce] at c1 c2 c3 hcs
    unfold Cl.fair at hcs
    simp only at c1 c2 c3 hcs
    have hil : i < kl := by omega
    have hil2 : i < cl := by omega
    clear hk1 hc1 hkl hcl hke hce hp hlen kfair cfair hx hs karr carr hk hc
    obtain ⟨key, len, data, page⟩ := x
    simp only at *
    by_cases q : len ≤ 120
    · have q' : decide (len ≤ 120) = true := by simpa using q
      have hr : lenPt true ⟨key, len, data, page⟩ = 1 + key.size + 2 + data.size := by unfold lenPt; simp only [if_true, if_pos q]; omega
      have HR := Lib.hid hr
      clear hr
      go_enter Try.func54, Try.ntmps54
      go_wp2
      go_ret
      exact ⟨by rw [HR.out]; go_num, Below.box _ _⟩
    · have q' : decide (len ≤ 120) = false := by simpa using q
      have hr : lenPt true ⟨key, len, data, page⟩ = 1 + key.size + 2 + 4 := by unfold lenPt; simp only [if_true, if_neg q]
      have HR := Lib.hid hr
      clear hr
      go_enter Try.func54, Try.ntmps54
      go_wp2
      go_ret
      exact ⟨by rw [HR.out]; go_num, Below.box _ _⟩
  | false =>
    obtain ⟨_, hlen, _, hp⟩ := part_inner hs hl
    obtain ⟨hk1, _⟩ := hp i x hx
    obtain ⟨hkl, hke⟩ := List.getElem?_eq_some_iff.1 hk1
    obtain ⟨b, o, rfl, hb, c0⟩ := strAt karr hkl
    have hks := kfair _ (List.getElem_mem hkl)
    rw [hke] at c0 hks
    have hil : i < kl := by omega
    clear hk1 hkl hke hp hlen kfair cfair hx hs karr carr hk hc
    obtain ⟨key, len, data, page⟩ := x
    simp only at *
    have hr : lenPt false ⟨key, len, data, page⟩ = 1 + key.size + 4 := by simp [lenPt]
    have HR := Lib.hid hr
    clear hr
    go_enter Try.func54, Try.ntmps54
    go_wp2
    go_ret
    exact ⟨by rw [HR.out]; go_num, Below.box _ _⟩

theorem Nd.Ok.asR {n : Nd} (h : n.Ok) : n.asR.Ok := ((ok_iff n).1 h).2
theorem Nd.Ok.shaped {n : Nd} (h : n.Ok) : n.shaped = true := ((ok_iff n).1 h).1
theorem asR_leaf (n : Nd) : n.asR.leaf = n.leaf := by
  unfold Nd.asR
  cases n.leaf <;> rfl
theorem asR_len {n : Nd} (h : n.shaped = true) : n.asR.l.length = n.keys.length := by
  cases hl : n.leaf with
  | true => exact (part_leaf h hl).2.1
  | false => exact (part_inner h hl).2.1

/-- The length of a node's bytes up to some part. -/
def lenTo (n : Rn) (i : Nat) : Nat := (if n.leaf then 3 else 7) + (encPs n.leaf (n.l.take i)).length
theorem lenTo_all (n : Rn) : lenTo n n.l.length = (encN n).length := by
  unfold lenTo encN
  rw [List.take_length, List.length_append, headN_len]
theorem lenTo_zero (n : Rn) : lenTo n 0 = if n.leaf then 3 else 7 := by simp [lenTo, encPs]
theorem lenTo_succ (n : Rn) (i : Nat) (x : Pt) (h : n.l[i]? = some x) : lenTo n (i + 1) = lenTo n i + lenPt n.leaf x := by
  unfold lenTo; rw [encN_len_take n i x h]; omega
theorem lenTo_bd {n : Rn} (h : n.Ok) (i : Nat) (hi : i ≤ n.l.length) : lenTo n i ≤ 7 + i * 223 := by
  induction i with
  | zero => rw [lenTo_zero]; split <;> omega
  | succ i ih =>
    have h1 := List.getElem?_eq_getElem (show i < n.l.length by omega)
    rw [lenTo_succ n i _ h1]
    have := h.lenPt h1
    have := ih (by omega)
    omega

set_option maxHeartbeats 1000000 in
theorem sizeOf_any (n : Nd) (m : NB) (w : World) (h : NAt w n m) (hs : n.Ok) (hbig : m.kl ≤ 140737488355) :
    Calls Try.prog 29 #[m.v n.leaf] w fun e w' => e = .returned (.int .i64 (((encN n.asR).length : Nat) : Int)) ∧ Below w.heap.size w w' := by
  have HH := Lib.hid (fun W => headSize_any n m W)
  have HP := Lib.hid (fun i x hx W (hb : Below w.heap.size w W) => pairSize_any n m i x W (h.later hb) hs.shaped hx)
  have hk := h.hk
  have HB := Lib.hid (fun i hi => lenTo_bd hs.asR i hi)
  have HL := Lib.hid (asR_len hs.shaped)
  have HS := Lib.hid (lenTo_succ n.asR)
  have HZ := Lib.hid (lenTo_zero n.asR)
  have HA := Lib.hid (lenTo_all n.asR)
  rw [asR_leaf n] at HS HZ
  obtain ⟨R, hR⟩ : ∃ R, n.asR = R := ⟨_, rfl⟩
  rw [hR] at HS HZ HA HB HL HP ⊢
  clear hs h hR
  have HK := Lib.hid hk
  obtain ⟨leaf, ks, cs, ps⟩ := n
  obtain ⟨ka, kl, kc, ca, cl, cc, da, dl, dc⟩ := m
  simp only at *
  clear hk
  go_enter Try.func29, Try.ntmps29
  go_wp2_with fail
  refine (HH.out _).mono ?_
  rintro e w1 ⟨rfl, hb⟩
  have hw : Below w.heap.size w w1 := (Below.box _ _).trans (hb.mono (by simp))
  have hcl : ∀ i, w1.cell? ⟨w.heap.size, i, none⟩ = (w.alloc (.cells #[.bool leaf, .slice ka kl kc, .slice ca cl cc, .slice da dl dc] 26)).cell? ⟨w.heap.size, i, none⟩ := fun i => hb.cell (p := ⟨w.heap.size, i, none⟩) (by simp)
  have l0 := hcl 0
  have l1 := hcl 1
  have l2 := hcl 2
  have l3 := hcl 3
  simp at l0 l1 l2 l3
  have hsz : w.heap.size < w1.heap.size := by have := hb.size; simp at this; omega
  clear hcl hb HH
  rw [← HZ.out]
  generalize hT : lenTo R 0 = T
  go_wp2_with fail
  go_loopw [3, 10] (fun s i wr => ∃ k : Nat, k ≤ kl ∧ i = .int .i64 k ∧ s = .int .i64 ((lenTo R k : Nat) : Int) ∧ Below w1.heap.size w1 wr) (fun _ i _ => kl - (intOf i).toNat)
  case atStart => exact ⟨0, by omega, rfl, by rw [hT], Below.refl _ _⟩
  case round =>
    obtain ⟨k, hk, rfl, rfl, hbr⟩ := hrel
    have hbk := HB.out k (by have := HL.out; have := HK.out; omega)
    have m0 := (hbr.cell (p := ⟨w.heap.size, 0, none⟩) hsz).trans l0
    have m1 := (hbr.cell (p := ⟨w.heap.size, 1, none⟩) hsz).trans l1
    have m2 := (hbr.cell (p := ⟨w.heap.size, 2, none⟩) hsz).trans l2
    have m3 := (hbr.cell (p := ⟨w.heap.size, 3, none⟩) hsz).trans l3
    by_cases hlt : k < kl
    · have hkR : k < R.l.length := by have := HL.out; have := HK.out; omega
      have hx := List.getElem?_eq_getElem hkR
      have HPk := Lib.hid (HP.out k _ hx)
      have HSk := HS.out k _ hx
      have hbk1 := HB.out (k + 1) (by have := HL.out; have := HK.out; omega)
      obtain ⟨x, hxx⟩ : ∃ x, R.l[k]'hkR = x := ⟨_, rfl⟩
      rw [hxx] at hx HPk HSk
      generalize hN : lenTo R k = N at *
      generalize hX : lenPt leaf x = X at *
      have HSk2 := Lib.hid HSk
      have hX2 : X ≤ 31384459903388 := by omega
      have hN2 : N ≤ 31384459903388 := by omega
      clear hx hxx hN hX HSk hbk hbk1 hT
      go_wp2_with fail
      refine (HPk.out _ (hw.trans (hbr.mono hw.size))).mono ?_
      rintro e w2 ⟨rfl, hb2⟩
      go_wp2
      go_roundw
      case rel => exact ⟨k + 1, by omega, by go_num, by rw [HSk2.out]; go_num, hbr.trans (hb2.mono hbr.size)⟩
      case measure => simp [intOf]; omega
    · have hkk : Hid (lenTo R k = (encN R).length) := by rw [← HA.out]; congr 1; have := HL.out; have := HK.out; omega
      go_wp2
      go_ret
      exact ⟨by rw [← hkk.out]; rfl, hw.trans (hbr.mono hw.size)⟩

open Classical in
theorem Nd.ok_true {n : Nd} (h : n.ok = true) : n.Ok := by simpa [Nd.ok] using h

set_option maxHeartbeats 1000000 in
theorem NSize_any (n : Nd) (m : NB) (w : World) (h : NAt w n m) (hbig : m.kl ≤ 140737488355) :
    Calls Try.prog 16 #[m.v n.leaf] w fun e w' => e = .returned (.int .i64 ((if n.ok then (encN n.asR).length else 0 : Nat) : Int)) ∧ Below w.heap.size w w' := by
  have HR := Lib.hid (fun W (hb : Below w.heap.size w W) => NRight_any n m W (h.later hb))
  have HS := Lib.hid (fun (ho : n.ok = true) W (hb : Below w.heap.size w W) => sizeOf_any n m W (h.later hb) (Nd.ok_true ho) hbig)
  clear h
  generalize n.ok = r at *
  generalize (encN n.asR).length = L at *
  obtain ⟨leaf, ks, cs, ps⟩ := n
  obtain ⟨ka, kl, kc, ca, cl, cc, da, dl, dc⟩ := m
  simp only at *
  cases r with
  | true =>
    have HS2 := Lib.hid (HS.out rfl)
    clear HS
    simp only [if_true]
    go_enter Try.func16, Try.ntmps16
    go_wp2_with fail
    refine (HR.out _ (Below.box _ _)).mono ?_
    rintro e w1 ⟨rfl, hb⟩
    have hw : Below w.heap.size w w1 := (Below.box _ _).trans (hb.mono (by simp))
    have hcl : ∀ i, w1.cell? ⟨w.heap.size, i, none⟩ = (w.alloc (.cells #[.bool leaf, .slice ka kl kc, .slice ca cl cc, .slice da dl dc] 26)).cell? ⟨w.heap.size, i, none⟩ := fun i => hb.cell (p := ⟨w.heap.size, i, none⟩) (by simp)
    have l0 := hcl 0
    have l1 := hcl 1
    have l2 := hcl 2
    have l3 := hcl 3
    simp at l0 l1 l2 l3
    clear hcl hb HR
    go_wp2_with fail
    refine (HS2.out _ hw).mono ?_
    rintro e w2 ⟨rfl, hb2⟩
    go_wp2
    go_ret
    exact ⟨rfl, hw.trans (hb2.mono hw.size)⟩
  | false =>
    clear HS
    go_enter Try.func16, Try.ntmps16
    go_wp2_with fail
    refine (HR.out _ (Below.box _ _)).mono ?_
    rintro e w1 ⟨rfl, hb⟩
    go_wp2
    go_ret
    exact ⟨by simp, (Below.box _ _).trans (hb.mono (by simp))⟩
end Go.Proofs.Ytlcphgomhhejbaa

/- The walks of node.part and node.share. -/
namespace Go.Proofs.Ytlcphgomhhejbaa
open Go.RowKit

/-- The keys from one index to another, and what belongs to them. -/
def partN (n : Nd) (i j : Nat) : Nd := if n.leaf then ⟨true, (n.keys.drop i).take (j - i), (n.cells.drop i).take (j - i), []⟩ else ⟨false, (n.keys.drop i).take (j - i), [], (n.kids.drop i).take (j + 1 - i)⟩

/-- A call hands back a node. -/
def RetNd (w : World) (n : Nd) (e : Ending) (w' : World) : Prop := ∃ m : NB, e = .returned (m.v n.leaf) ∧ NAt w' n m ∧ Below w.heap.size w w' ∧ NFar w.heap.size n m

theorem one_S (l : List ByteArray) : ∀ u ∈ cellsS l, u.oneCell' = true := by
  intro u hu
  obtain ⟨x, _, hx⟩ := List.mem_flatMap.1 hu
  simp at hx; subst hx; rfl
theorem one_I (l : List Int) : ∀ u ∈ cellsI l, u.oneCell' = true := by
  intro u hu
  obtain ⟨x, _, hx⟩ := List.mem_flatMap.1 hu
  simp at hx; subst hx; rfl
theorem one_C (l : List Cl) : ∀ u ∈ cellsC l, u.oneCell' = true := by
  intro u hu
  obtain ⟨x, _, hx⟩ := List.mem_flatMap.1 hu
  simp at hx; rcases hx with rfl | rfl | rfl <;> rfl

theorem sizeOf_str : ∀ w, (Go.sizeOf 9).run Try.prog w = .ok 1 w := by
  intro w
  obtain ⟨i, hi, _⟩ := info_parts info_str
  have := run_sizeOf (P := Try.prog) w hi
  rw [show Try.prog.cellsOf 9 = 1 from by kernel_rfl] at this
  exact this
theorem sizeOf_int : ∀ w, (Go.sizeOf 3).run Try.prog w = .ok 1 w := by
  intro w
  obtain ⟨i, hi, _⟩ := info_parts info_int
  have := run_sizeOf (P := Try.prog) w hi
  rw [show Try.prog.cellsOf 3 = 1 from by kernel_rfl] at this
  exact this
theorem sizeOf_cell : ∀ w, (Go.sizeOf 63).run Try.prog w = .ok 3 w := by
  intro w
  obtain ⟨i, hi, _⟩ := info_parts info_cell
  have := run_sizeOf (P := Try.prog) w hi
  rw [show Try.prog.cellsOf 63 = 3 from by kernel_rfl] at this
  exact this

theorem take_len {α : Type} (l : List α) (i j : Nat) (h : i ≤ j) (hj : j ≤ l.length) : ((l.drop i).take (j - i)).length = j - i := by
  rw [List.length_take, List.length_drop]; omega

set_option maxRecDepth 100000 in
set_option maxHeartbeats 4000000 in
theorem part_any (n : Nd) (m : NB) (i j : Nat) (w : World) (h : NAt w n m) (hs : n.shaped = true) (hij : i ≤ j) (hj : j ≤ m.kl) (hbig : m.kl ≤ 1000000) :
    Calls Try.prog 52 #[m.v n.leaf, .int .i64 (i : Int), .int .i64 (j : Int)] w (RetNd w (partN n i j)) := by
  have hk := h.hk
  have hc := h.hc
  have hd := h.hd
  have kcap := h.kcap
  have ccap := h.ccap
  have dcap := h.dcap
  obtain ⟨ak, hka, hkr⟩ := h.karr.window 22 9 1 Try.underlying22 sizeOf_str m.kl m.kc i j (by rw [cellsS_len, ← hk]) hij hj kcap (by omega)
  have hks : ((cellsS n.keys).drop (i * 1)).take ((j - i) * 1) = cellsS ((n.keys.drop i).take (j - i)) := by
    unfold cellsS
    rw [cellsOf_take _ 1 (fun _ => rfl), cellsOf_drop _ 1 (fun _ => rfl)]
  rw [hks] at hka
  have HKC := Lib.hid (fun W (hb : Below w.heap.size w W) => cloneS_any (cellsS ((n.keys.drop i).take (j - i))) ak (j - i) (m.kc - i) W (hka.later (N := 0) hb) (by rw [cellsS_len, take_len _ _ _ hij (by omega)]) (one_S _) (by omega))
  have HKR := Lib.hid hkr
  have hkf : ∀ k ∈ (n.keys.drop i).take (j - i), k.size ≤ 140737488355328 := fun k hk => h.kfair k (List.mem_of_mem_drop (List.mem_of_mem_take hk))
  cases hl : n.leaf with
  | true =>
    have hcl : m.cl = m.kl := by
      unfold Nd.shaped at hs
      rw [hl] at hs
      simp only [if_true, decide_eq_true_eq] at hs
      omega
    obtain ⟨ac, hca, hcr⟩ := h.carr.window 23 63 3 Try.underlying23 sizeOf_cell m.cl m.cc i j (by rw [cellsC_len, ← hc]) hij (by omega) ccap (by omega)
    have hcs : ((cellsC n.cells).drop (i * 3)).take ((j - i) * 3) = cellsC ((n.cells.drop i).take (j - i)) := by
      unfold cellsC
      rw [cellsOf_take _ 3 (fun _ => rfl), cellsOf_drop _ 3 (fun _ => rfl)]
    rw [hcs] at hca
    have HCC := Lib.hid (fun W (hb : Below w.heap.size w W) => cloneC_any (cellsC ((n.cells.drop i).take (j - i))) ac (j - i) (m.cc - i) W (hca.later (N := 0) hb) (by rw [cellsC_len, take_len _ _ _ hij (by omega)]) (one_C _) (by omega))
    have HCR := Lib.hid hcr
    have hcf : ∀ c ∈ (n.cells.drop i).take (j - i), c.fair := fun c hc => h.cfair c (List.mem_of_mem_drop (List.mem_of_mem_take hc))
    have HEnd : Hid (∀ W a1 c1 a2 c2, j - i ≤ c1 → c1 ≤ 9223372036854775807 → j - i ≤ c2 → c2 ≤ 9223372036854775807 → Arr W.heap.size W a1 (cellsS ((n.keys.drop i).take (j - i))) → Arr W.heap.size W a2 (cellsC ((n.cells.drop i).take (j - i))) → Far w.heap.size a1 (cellsS ((n.keys.drop i).take (j - i))) → Far w.heap.size a2 (cellsC ((n.cells.drop i).take (j - i))) → Below w.heap.size w W → RetNd w (partN n i j) (.returned (.agg #[.bool true, .slice a1 (j - i) c1, .slice a2 (j - i) c2, .slice none 0 0])) W) := by
      intro W a1 c1 a2 c2 h1 h2 h3 h4 h5 h6 hF1 hF2 hb
      have e : partN n i j = ⟨true, (n.keys.drop i).take (j - i), (n.cells.drop i).take (j - i), []⟩ := by unfold partN; rw [hl]; rfl
      rw [e]
      exact ⟨⟨a1, j - i, c1, a2, j - i, c2, none, 0, 0⟩, rfl, ⟨(take_len _ _ _ hij (by omega)).symm, (take_len _ _ _ hij (by omega)).symm, rfl, h1, h3, by simp, by simp only; omega, by simp only; omega, by simp, h5, h6, .inl rfl, hkf, hcf, by simp⟩, hb, hF1, hF2, .inl rfl⟩
    clear h hs hk hc hd hka hkr hks hca hcr hcs hkf hcf hl
    generalize cellsS ((n.keys.drop i).take (j - i)) = KS at *
    generalize cellsC ((n.cells.drop i).take (j - i)) = CS at *
    generalize RetNd w (partN n i j) = RR at *
    obtain ⟨ka, kl, kc, ca, cl, cc, da, dl, dc⟩ := m
    simp only at *
    obtain rfl : kl = cl := hcl.symm
    have HB0 : Hid (Below w.heap.size w ((w.alloc (.cells #[.bool true, .slice ka kl kc, .slice ca kl cc, .slice da dl dc] 26)).alloc (.cells #[.bool false, .slice none 0 0, .slice none 0 0, .slice none 0 0] 26))) := ((Below.refl _ w).alloc (Nat.le_refl _) _).alloc (by simp) _
    have hkr := HKR.out
    go_enter Try.func52, Try.ntmps52
    go_wp2_with fail
    refine (HKC.out _ HB0.out).mono ?_
    rintro e w1 ⟨a1, c1, rfl, g1, g2, harr1, hfar1, hb1⟩
    have hbw := HB0.out.trans (hb1.mono HB0.out.size)
    have hbx : Below (w.heap.size + 2) _ w1 := hb1.mono (by simp)
    have l0 := (hbx.cell (p := ⟨w.heap.size, 0, none⟩) (by show w.heap.size < _; omega)).trans (show _ = some (.bool true) by simp)
    have l2 := (hbx.cell (p := ⟨w.heap.size, 2, none⟩) (by show w.heap.size < _; omega)).trans (show _ = some (.slice ca kl cc) by simp)
    have r0 := (hbx.cell (p := ⟨w.heap.size + 1, 0, none⟩) (by show w.heap.size + 1 < _; omega)).trans (show _ = some (.bool false) by simp)
    have hsz1 : w.heap.size + 1 < w1.heap.size := by have := hbx.size; simp at this; omega
    have HArr1 := Lib.hid harr1
    have hcr := HCR.out
    clear harr1 hkr hb1 HKC
    go_wp2_with fail
    refine (HCC.out _ hbw).mono ?_
    rintro e w2 ⟨a2, c2, rfl, g3, g4, harr2, hfar2, hb2⟩
    have hbw2 := hbw.trans (hb2.mono hbw.size)
    have hbx2 := hbx.trans (hb2.mono (show w.heap.size + 2 ≤ w1.heap.size by omega))
    have r0 := (hbx2.cell (p := ⟨w.heap.size + 1, 0, none⟩) (by show w.heap.size + 1 < _; omega)).trans (show _ = some (.bool false) by simp)
    have r1 := (hbx2.cell (p := ⟨w.heap.size + 1, 1, none⟩) (by show w.heap.size + 1 < _; omega)).trans (show _ = some (.slice none 0 0) by simp)
    have r2 := (hbx2.cell (p := ⟨w.heap.size + 1, 2, none⟩) (by show w.heap.size + 1 < _; omega)).trans (show _ = some (.slice none 0 0) by simp)
    have r3 := (hbx2.cell (p := ⟨w.heap.size + 1, 3, none⟩) (by show w.heap.size + 1 < _; omega)).trans (show _ = some (.slice none 0 0) by simp)
    have f0 := (hbx2.frozen (p := ⟨w.heap.size + 1, 0, none⟩) (by show w.heap.size + 1 < _; omega)).trans (show _ = false by simp)
    have f1 := (hbx2.frozen (p := ⟨w.heap.size + 1, 1, none⟩) (by show w.heap.size + 1 < _; omega)).trans (show _ = false by simp)
    have f2 := (hbx2.frozen (p := ⟨w.heap.size + 1, 2, none⟩) (by show w.heap.size + 1 < _; omega)).trans (show _ = false by simp)
    have f3 := (hbx2.frozen (p := ⟨w.heap.size + 1, 3, none⟩) (by show w.heap.size + 1 < _; omega)).trans (show _ = false by simp)
    have hsz2 : w.heap.size + 1 < w2.heap.size := by have := hb2.size; omega
    have harr1 := HArr1.out.later (N := 0) hb2
    have hf1 := hfar1.mono (show w.heap.size + 2 ≤ _ by simp)
    have hf2 := hfar2.mono (show w.heap.size + 2 ≤ _ by omega)
    have HFin : Hid (∀ v0 v1 v2 v3, RR (.returned (.agg #[.bool true, .slice a1 (j - i) c1, .slice a2 (j - i) c2, .slice none 0 0])) ((((w2.setCell ⟨w.heap.size + 1, 0, none⟩ v0).setCell ⟨w.heap.size + 1, 1, none⟩ v1).setCell ⟨w.heap.size + 1, 2, none⟩ v2).setCell ⟨w.heap.size + 1, 3, none⟩ v3)) := by
      intro v0 v1 v2 v3
      have hset : Below (w.heap.size + 1) w2 ((((w2.setCell ⟨w.heap.size + 1, 0, none⟩ v0).setCell ⟨w.heap.size + 1, 1, none⟩ v1).setCell ⟨w.heap.size + 1, 2, none⟩ v2).setCell ⟨w.heap.size + 1, 3, none⟩ v3) := by
        have hle : w.heap.size + 1 ≤ w.heap.size + 1 := Nat.le_refl _
        refine Below.setCell (Below.setCell (Below.setCell (Below.setCell (Below.refl _ _) ?_ _) ?_ _) ?_ _) ?_ _ <;> exact hle
      have h12 : w.heap.size + 1 < w.heap.size + 2 := Nat.lt_succ_self _
      have A1 := (((harr1.set_far (o := 0) (v := v0) hf1 h12).set_far (o := 1) (v := v1) hf1 h12).set_far (o := 2) (v := v2) hf1 h12).set_far (o := 3) (v := v3) hf1 h12
      have A2 := (((harr2.set_far (o := 0) (v := v0) hf2 h12).set_far (o := 1) (v := v1) hf2 h12).set_far (o := 2) (v := v2) hf2 h12).set_far (o := 3) (v := v3) hf2 h12
      have A3 := hbw2.trans (hset.mono (Nat.le_succ _))
      exact HEnd.out _ a1 c1 a2 c2 g1 g2 g3 g4 A1 A2 (hf1.mono (Nat.le_add_right _ 2)) (hf2.mono (Nat.le_add_right _ 2)) A3
    clear harr1 harr2 hf1 hf2 hfar1 hfar2 hb2 HCC hcr l0 l2 hbx hbx2
    go_wp2
    refine bodyPost_ret (v := .agg #[.bool true, .slice a1 (j - i) c1, .slice a2 (j - i) c2, .slice none 0 0]) (by simp [results, Try.results52, go_sem, r0, r1, r2, r3, hsz2]) rfl (HFin.out _ _ _ _)
  | false =>
    have hdl : m.dl = m.kl + 1 := by
      unfold Nd.shaped at hs
      rw [hl] at hs
      simp only [Bool.false_eq_true, if_false, decide_eq_true_eq] at hs
      omega
    obtain ⟨ac, hca, hcr⟩ := h.darr.window 24 3 1 Try.underlying24 sizeOf_int m.dl m.dc i (j + 1) (by rw [cellsI_len, ← hd]) (by omega) (by omega) dcap (by omega)
    have hcs : ((cellsI n.kids).drop (i * 1)).take ((j + 1 - i) * 1) = cellsI ((n.kids.drop i).take (j + 1 - i)) := by
      unfold cellsI
      rw [cellsOf_take _ 1 (fun _ => rfl), cellsOf_drop _ 1 (fun _ => rfl)]
    rw [hcs] at hca
    have HCC := Lib.hid (fun W (hb : Below w.heap.size w W) => cloneI_any (cellsI ((n.kids.drop i).take (j + 1 - i))) ac (j + 1 - i) (m.dc - i) W (hca.later (N := 0) hb) (by rw [cellsI_len, take_len _ _ _ (by omega) (by omega)]) (one_I _) (by omega))
    have HCR := Lib.hid hcr
    have hcf : ∀ p ∈ (n.kids.drop i).take (j + 1 - i), -9223372036854775808 ≤ p ∧ p ≤ 9223372036854775807 := fun c hc => h.dfair c (List.mem_of_mem_drop (List.mem_of_mem_take hc))
    have HEnd : Hid (∀ W a1 c1 a2 c2, j - i ≤ c1 → c1 ≤ 9223372036854775807 → j + 1 - i ≤ c2 → c2 ≤ 9223372036854775807 → Arr W.heap.size W a1 (cellsS ((n.keys.drop i).take (j - i))) → Arr W.heap.size W a2 (cellsI ((n.kids.drop i).take (j + 1 - i))) → Far w.heap.size a1 (cellsS ((n.keys.drop i).take (j - i))) → Far w.heap.size a2 (cellsI ((n.kids.drop i).take (j + 1 - i))) → Below w.heap.size w W → RetNd w (partN n i j) (.returned (.agg #[.bool false, .slice a1 (j - i) c1, .slice none 0 0, .slice a2 (j + 1 - i) c2])) W) := by
      intro W a1 c1 a2 c2 h1 h2 h3 h4 h5 h6 hF1 hF2 hb
      have e : partN n i j = ⟨false, (n.keys.drop i).take (j - i), [], (n.kids.drop i).take (j + 1 - i)⟩ := by unfold partN; rw [hl]; rfl
      rw [e]
      exact ⟨⟨a1, j - i, c1, none, 0, 0, a2, j + 1 - i, c2⟩, rfl, ⟨(take_len _ _ _ hij (by omega)).symm, rfl, (take_len _ _ _ (by omega) (by omega)).symm, h1, by simp, h3, by simp only; omega, by simp, by simp only; omega, h5, .inl rfl, h6, hkf, by simp, hcf⟩, hb, hF1, .inl rfl, hF2⟩
    clear h hs hk hc hd hka hkr hks hca hcr hcs hkf hcf hl
    generalize cellsS ((n.keys.drop i).take (j - i)) = KS at *
    generalize cellsI ((n.kids.drop i).take (j + 1 - i)) = CS at *
    generalize RetNd w (partN n i j) = RR at *
    obtain ⟨ka, kl, kc, ca, cl, cc, da, dl, dc⟩ := m
    simp only at *
    subst hdl
    have hj1 : ((j : Int) + 1).toNat = j + 1 := by omega
    have HJ := Lib.hid hj1
    clear hj1
    have HB0 : Hid (Below w.heap.size w ((w.alloc (.cells #[.bool false, .slice ka kl kc, .slice ca cl cc, .slice da (kl + 1) dc] 26)).alloc (.cells #[.bool false, .slice none 0 0, .slice none 0 0, .slice none 0 0] 26))) := ((Below.refl _ w).alloc (Nat.le_refl _) _).alloc (by simp) _
    have hkr := HKR.out
    go_enter Try.func52, Try.ntmps52
    go_wp2_with fail
    refine (HKC.out _ HB0.out).mono ?_
    rintro e w1 ⟨a1, c1, rfl, g1, g2, harr1, hfar1, hb1⟩
    have hbw := HB0.out.trans (hb1.mono HB0.out.size)
    have hbx : Below (w.heap.size + 2) _ w1 := hb1.mono (by simp)
    have l0 := (hbx.cell (p := ⟨w.heap.size, 0, none⟩) (by show w.heap.size < _; omega)).trans (show _ = some (.bool false) by simp)
    have l2 := (hbx.cell (p := ⟨w.heap.size, 3, none⟩) (by show w.heap.size < _; omega)).trans (show _ = some (.slice da (kl + 1) dc) by simp)
    have r0 := (hbx.cell (p := ⟨w.heap.size + 1, 0, none⟩) (by show w.heap.size + 1 < _; omega)).trans (show _ = some (.bool false) by simp)
    have hsz1 : w.heap.size + 1 < w1.heap.size := by have := hbx.size; simp at this; omega
    have HArr1 := Lib.hid harr1
    have hcr := HCR.out
    rw [show ((j + 1 : Nat) : Int) = (j : Int) + 1 by omega] at hcr
    clear harr1 hkr hb1 HKC
    go_wp2_with fail
    refine (HCC.out _ hbw).mono ?_
    rintro e w2 ⟨a2, c2, rfl, g3, g4, harr2, hfar2, hb2⟩
    have hbw2 := hbw.trans (hb2.mono hbw.size)
    have hbx2 := hbx.trans (hb2.mono (show w.heap.size + 2 ≤ w1.heap.size by omega))
    have r0 := (hbx2.cell (p := ⟨w.heap.size + 1, 0, none⟩) (by show w.heap.size + 1 < _; omega)).trans (show _ = some (.bool false) by simp)
    have r1 := (hbx2.cell (p := ⟨w.heap.size + 1, 1, none⟩) (by show w.heap.size + 1 < _; omega)).trans (show _ = some (.slice none 0 0) by simp)
    have r2 := (hbx2.cell (p := ⟨w.heap.size + 1, 2, none⟩) (by show w.heap.size + 1 < _; omega)).trans (show _ = some (.slice none 0 0) by simp)
    have r3 := (hbx2.cell (p := ⟨w.heap.size + 1, 3, none⟩) (by show w.heap.size + 1 < _; omega)).trans (show _ = some (.slice none 0 0) by simp)
    have f0 := (hbx2.frozen (p := ⟨w.heap.size + 1, 0, none⟩) (by show w.heap.size + 1 < _; omega)).trans (show _ = false by simp)
    have f1 := (hbx2.frozen (p := ⟨w.heap.size + 1, 1, none⟩) (by show w.heap.size + 1 < _; omega)).trans (show _ = false by simp)
    have f2 := (hbx2.frozen (p := ⟨w.heap.size + 1, 2, none⟩) (by show w.heap.size + 1 < _; omega)).trans (show _ = false by simp)
    have f3 := (hbx2.frozen (p := ⟨w.heap.size + 1, 3, none⟩) (by show w.heap.size + 1 < _; omega)).trans (show _ = false by simp)
    have hsz2 : w.heap.size + 1 < w2.heap.size := by have := hb2.size; omega
    have harr1 := HArr1.out.later (N := 0) hb2
    have hf1 := hfar1.mono (show w.heap.size + 2 ≤ _ by simp)
    have hf2 := hfar2.mono (show w.heap.size + 2 ≤ _ by omega)
    have HFin : Hid (∀ v0 v1 v2 v3, RR (.returned (.agg #[.bool false, .slice a1 (j - i) c1, .slice none 0 0, .slice a2 (j + 1 - i) c2])) ((((w2.setCell ⟨w.heap.size + 1, 0, none⟩ v0).setCell ⟨w.heap.size + 1, 1, none⟩ v1).setCell ⟨w.heap.size + 1, 2, none⟩ v2).setCell ⟨w.heap.size + 1, 3, none⟩ v3)) := by
      intro v0 v1 v2 v3
      have hset : Below (w.heap.size + 1) w2 ((((w2.setCell ⟨w.heap.size + 1, 0, none⟩ v0).setCell ⟨w.heap.size + 1, 1, none⟩ v1).setCell ⟨w.heap.size + 1, 2, none⟩ v2).setCell ⟨w.heap.size + 1, 3, none⟩ v3) := by
        have hle : w.heap.size + 1 ≤ w.heap.size + 1 := Nat.le_refl _
        refine Below.setCell (Below.setCell (Below.setCell (Below.setCell (Below.refl _ _) ?_ _) ?_ _) ?_ _) ?_ _ <;> exact hle
      have h12 : w.heap.size + 1 < w.heap.size + 2 := Nat.lt_succ_self _
      have A1 := (((harr1.set_far (o := 0) (v := v0) hf1 h12).set_far (o := 1) (v := v1) hf1 h12).set_far (o := 2) (v := v2) hf1 h12).set_far (o := 3) (v := v3) hf1 h12
      have A2 := (((harr2.set_far (o := 0) (v := v0) hf2 h12).set_far (o := 1) (v := v1) hf2 h12).set_far (o := 2) (v := v2) hf2 h12).set_far (o := 3) (v := v3) hf2 h12
      have A3 := hbw2.trans (hset.mono (Nat.le_succ _))
      exact HEnd.out _ a1 c1 a2 c2 g1 g2 g3 g4 A1 A2 (hf1.mono (Nat.le_add_right _ 2)) (hf2.mono (Nat.le_add_right _ 2)) A3
    clear harr1 harr2 hf1 hf2 hfar1 hfar2 hb2 HCC hcr l0 l2 hbx hbx2
    go_wp2
    refine bodyPost_ret (v := .agg #[.bool false, .slice a1 (j - i) c1, .slice none 0 0, .slice a2 (j + 1 - i) c2]) (by simp [results, Try.results52, go_sem, r0, r1, r2, r3, hsz2]) rfl (HFin.out _ _ _ _)
end Go.Proofs.Ytlcphgomhhejbaa
