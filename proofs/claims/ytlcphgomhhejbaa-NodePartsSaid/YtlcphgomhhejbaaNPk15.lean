/- Several texts of one proof, one behind the other. -/
import Derived.Test.YtlcphgomhhejbaaNPk14
import Derived.IntWalk
set_option linter.unusedSimpArgs false
set_option linter.unusedVariables false

/- The walk of node.share. -/
namespace Go.Proofs.Ytlcphgomhhejbaa
open Go.RowKit

/-- Where the count of the first half's keys stands. -/
def IsUp (R : Rn) (most k : Nat) : Prop := 1 ≤ k ∧ k ≤ most ∧ ∀ j, 1 ≤ j → j < k → 2 * lenTo R j < (encN R).length
/-- The number of the first half's keys. -/
def IsShare (R : Rn) (most i : Nat) : Prop := ∃ k, IsUp R most k ∧ (k = most ∨ ¬ 2 * lenTo R k < (encN R).length) ∧ i = if 512 < lenTo R k ∧ 1 < k then k - 1 else k

theorem IsUp.one {R : Rn} {most : Nat} (h : 1 ≤ most) : IsUp R most 1 := ⟨Nat.le_refl _, h, fun j h1 h2 => by omega⟩
theorem IsUp.succ {R : Rn} {most k : Nat} (h : IsUp R most k) (hk : k < most) (h2 : 2 * lenTo R k < (encN R).length) : IsUp R most (k + 1) :=
  ⟨by have := h.1; omega, by omega, fun j h3 h4 => by
    by_cases hj : j = k
    · rw [hj]; exact h2
    · exact h.2.2 j h3 (by omega)⟩
theorem IsUp.uniq {R : Rn} {most k k' : Nat} (h : IsUp R most k) (he : k = most ∨ ¬ 2 * lenTo R k < (encN R).length) (h' : IsUp R most k') (he' : k' = most ∨ ¬ 2 * lenTo R k' < (encN R).length) : k = k' := by
  rcases Nat.lt_trichotomy k k' with hlt | heq | hgt
  · have := h'.2.2 k h.1 hlt
    have := h'.2.1
    rcases he with he | he
    · omega
    · exact absurd ‹2 * lenTo R k < _› he
  · exact heq
  · have := h.2.2 k' h'.1 hgt
    have := h.2.1
    rcases he' with he | he
    · omega
    · exact absurd ‹2 * lenTo R k' < _› he
theorem IsShare.uniq {R : Rn} {most i i' : Nat} (h : IsShare R most i) (h' : IsShare R most i') : i = i' := by
  obtain ⟨k, h1, h2, rfl⟩ := h
  obtain ⟨k', h3, h4, rfl⟩ := h'
  have := h1.uniq h2 h3 h4
  subst this; rfl
theorem IsShare.bd {R : Rn} {most i : Nat} (h : IsShare R most i) : 1 ≤ i ∧ i ≤ most := by
  obtain ⟨k, h1, h2, rfl⟩ := h
  have := h1.1
  have := h1.2.1
  split <;> omega

def RetShare (w : World) (R : Rn) (most : Nat) (e : Ending) (w' : World) : Prop := ∃ i : Nat, e = .returned (.int .i64 (i : Int)) ∧ IsShare R most i ∧ Below w.heap.size w w'

set_option maxRecDepth 100000 in
set_option maxHeartbeats 2000000 in
theorem share_any (n : Nd) (m : NB) (most : Nat) (w : World) (h : NAt w n m) (hs : n.Ok) (h1 : 1 ≤ most) (hm : most ≤ m.kl) (hbig : m.kl ≤ 1000000) :
    Calls Try.prog 51 #[m.v n.leaf, .int .i64 (most : Int)] w (RetShare w n.asR most) := by
  have HSz := Lib.hid (fun W (hb : Below w.heap.size w W) => sizeOf_any n m W (h.later hb) hs (by omega))
  have HH := fun W => headSize_any n m W
  have HP := Lib.hid (fun i x hx W (hb : Below w.heap.size w W) => pairSize_any n m i x W (h.later hb) hs.shaped hx)
  have HB := Lib.hid (fun i hi => lenTo_bd hs.asR i hi)
  have HL := Lib.hid (asR_len hs.shaped)
  have HK := Lib.hid h.hk
  have HS := Lib.hid (lenTo_succ n.asR)
  have hz := lenTo_zero n.asR
  have HA := Lib.hid (lenTo_all n.asR)
  rw [asR_leaf n] at HS hz
  simp only [← hz] at HH
  have HH := Lib.hid HH
  clear hz
  obtain ⟨R, hR⟩ : ∃ R, n.asR = R := ⟨_, rfl⟩
  rw [hR] at HS HA HB HL HP HSz HH ⊢
  clear hs h hR
  have hLk : R.l.length = m.kl := by rw [HL.out, ← HK.out]
  have HLk := Lib.hid hLk
  have hLen : (encN R).length ≤ 300000000 := by rw [← HA.out]; have := HB.out _ (Nat.le_refl _); omega
  have h0 : 0 < R.l.length := by omega
  have hx0 := List.getElem?_eq_getElem h0
  have HP0 := Lib.hid (HP.out 0 _ hx0)
  have hS0 := HS.out 0 _ hx0
  have hB1 := HB.out 1 (by omega)
  clear hLk
  obtain ⟨leaf, ks, cs, ps⟩ := n
  obtain ⟨ka, kl, kc, ca, cl, cc, da, dl, dc⟩ := m
  simp only at *
  obtain ⟨x0, hxx⟩ : ∃ x, R.l[0] = x := ⟨_, rfl⟩
  rw [hxx] at HP0 hS0 hx0
  obtain ⟨T0, hT0⟩ : ∃ T, lenTo R 0 = T := ⟨_, rfl⟩
  obtain ⟨X0, hX0⟩ : ∃ T, lenPt leaf x0 = T := ⟨_, rfl⟩
  obtain ⟨N1, hN1⟩ : ∃ T, lenTo R 1 = T := ⟨_, rfl⟩
  rw [hT0] at HH
  rw [hX0] at HP0
  rw [hT0, hX0] at hS0
  rw [show (0 : Nat) + 1 = 1 from rfl, hN1] at hS0
  rw [hN1] at hB1
  have hs0 : T0 + X0 = N1 := hS0.symm
  have HN1 := Lib.hid hN1
  have hw0 : IntKind.i64.wrap ((T0 : Int) + (X0 : Int)) = (N1 : Int) := by rw [IntWalk.i64_in _ ⟨by omega, by omega⟩]; omega
  obtain ⟨L, hL⟩ : ∃ L, (encN R).length = L := ⟨_, rfl⟩
  have HLL := Lib.hid hL
  rw [hL] at hLen HSz
  have HW0 := Lib.hid hw0
  clear hS0 hs0 hN1 hT0 hX0 hxx hx0 hL hw0
  go_enter Try.func51, Try.ntmps51
  go_wp2_with fail
  refine (HSz.out _ (Below.box _ _)).mono ?_
  rintro e w1 ⟨rfl, hb⟩
  have hw : Below w.heap.size w w1 := (Below.box _ _).trans (hb.mono (by simp))
  have hcl : ∀ i, w1.cell? ⟨w.heap.size, i, none⟩ = (w.alloc (.cells #[.bool leaf, .slice ka kl kc, .slice ca cl cc, .slice da dl dc] 26)).cell? ⟨w.heap.size, i, none⟩ := fun i => hb.cell (p := ⟨w.heap.size, i, none⟩) (by simp)
  have l0 := hcl 0
  have l1 := hcl 1
  have l2 := hcl 2
  have l3 := hcl 3
  simp at l0 l1 l2 l3
  have hsz : w.heap.size < w1.heap.size := by have := hb.size; simp at this; omega
  have Hw := Lib.hid hw
  have HLd : Hid (∀ W, Below w1.heap.size w1 W → W.cell? ⟨w.heap.size, 0, none⟩ = some (.bool leaf) ∧ W.cell? ⟨w.heap.size, 1, none⟩ = some (.slice ka kl kc) ∧ W.cell? ⟨w.heap.size, 2, none⟩ = some (.slice ca cl cc) ∧ W.cell? ⟨w.heap.size, 3, none⟩ = some (.slice da dl dc)) :=
    fun W hW => ⟨(hW.cell (p := ⟨w.heap.size, 0, none⟩) hsz).trans l0, (hW.cell (p := ⟨w.heap.size, 1, none⟩) hsz).trans l1, (hW.cell (p := ⟨w.heap.size, 2, none⟩) hsz).trans l2, (hW.cell (p := ⟨w.heap.size, 3, none⟩) hsz).trans l3⟩
  have d0 : ∀ W, Later w1.drew W → W.cell? ⟨w.heap.size, 0, none⟩ = some (.bool leaf) := fun W h => (HLd.out W (Later.undrew h)).1
  have d1 : ∀ W, Later w1.drew W → W.cell? ⟨w.heap.size, 1, none⟩ = some (.slice ka kl kc) := fun W h => (HLd.out W (Later.undrew h)).2.1
  have d2 : ∀ W, Later w1.drew W → W.cell? ⟨w.heap.size, 2, none⟩ = some (.slice ca cl cc) := fun W h => (HLd.out W (Later.undrew h)).2.2.1
  have d3 : ∀ W, Later w1.drew W → W.cell? ⟨w.heap.size, 3, none⟩ = some (.slice da dl dc) := fun W h => (HLd.out W (Later.undrew h)).2.2.2
  clear hcl hb l0 l1 l2 l3 hw
  go_wp2_with fail
  refine wp_region_ord [(0, true), (2, true), (1, false), (3, false), (4, true), (5, true), (6, true)] (by kernel_rfl) (by kernel_rfl) (by kernel_rfl) (by kernel_rfl) ?_
  repeat (first | (refine wpO_F (v := ?_) rfl (by rfl) (fun w' hL => ?_) ?_; rotate_left; (solve | (go_simp; with_reducible rfl) | go_simp); try simp only [Act.put, List.setIfInBounds_toArray, List.set_cons_zero, List.set_cons_succ]) | (refine wpO_G rfl (by rfl) ?_; try simp only [Act.put, List.setIfInBounds_toArray, List.set_cons_zero, List.set_cons_succ]))
  refine wpO_C rfl (by rfl) ?_
  go_simp
  refine (HH.out _).mono ?_
  rintro e w2 ⟨rfl, hb2⟩
  refine ⟨hb2, ?_⟩
  try simp only [Act.put, List.setIfInBounds_toArray, List.set_cons_zero, List.set_cons_succ]
  refine wpO_C rfl (by rfl) ?_
  go_simp
  refine (HP0.out _ (Hw.out.trans ((Later.undrew hb2).mono Hw.out.size))).mono ?_
  rintro e w3 ⟨rfl, hb3⟩
  refine ⟨hb3, ?_⟩
  try simp only [Act.put, List.setIfInBounds_toArray, List.set_cons_zero, List.set_cons_succ]
  have hw0 := HW0.out
  repeat (first | (refine wpO_F (v := ?_) rfl (by rfl) (fun w' hL => ?_) ?_; rotate_left; (solve | (go_simp; with_reducible rfl) | go_simp); try simp only [Act.put, List.setIfInBounds_toArray, List.set_cons_zero, List.set_cons_succ]) | (refine wpO_G rfl (by rfl) ?_; try simp only [Act.put, List.setIfInBounds_toArray, List.set_cons_zero, List.set_cons_succ]))
  refine wpO_nil ?_
  have hwr : Below w1.heap.size w1 w3 := Later.trans (Later.undrew hb2) hb3
  clear d0 d1 d2 d3 hb2 hb3 hw0
  have HUp : Hid (IsUp R most 1) := IsUp.one h1
  go_wp2_with fail
  go_loopw [7, 6] (fun s i wr => ∃ k : Nat, k ≤ most ∧ 1 ≤ k ∧ i = .int .i64 k ∧ s = .int .i64 ((lenTo R k : Nat) : Int) ∧ Hid (IsUp R most k) ∧ Below w1.heap.size w1 wr) (fun _ i _ => most - (intOf i).toNat)
  case atStart => exact ⟨1, by omega, by omega, rfl, by rw [HN1.out], HUp, hwr⟩
  case round =>
    obtain ⟨k, hk, hk1, rfl, rfl, HI, hbr⟩ := hrel
    have hbk := HB.out k (by have := HLk.out; omega)
    obtain ⟨N, hN⟩ : ∃ N, lenTo R k = N := ⟨_, rfl⟩
    rw [hN] at hbk ⊢
    have HN := Lib.hid hN
    clear hN
    by_cases hlt : k < most
    · by_cases h2 : 2 * N < L
      · have hkR : k < R.l.length := by have := HLk.out; omega
        have hx := List.getElem?_eq_getElem hkR
        have HPk := Lib.hid (HP.out k _ hx)
        have HSk := HS.out k _ hx
        have hbk1 := HB.out (k + 1) (by have := HLk.out; omega)
        have HI2 : Hid (IsUp R most (k + 1)) := HI.out.succ hlt (by rw [HN.out, HLL.out]; exact h2)
        obtain ⟨x, hxx⟩ : ∃ x, R.l[k]'hkR = x := ⟨_, rfl⟩
        rw [hxx] at hx HPk HSk
        rw [HN.out] at HSk
        generalize hX : lenPt leaf x = X at *
        have HSk2 := Lib.hid HSk
        have hX2 : X ≤ 300000000 := by omega
        have hN2 : N ≤ 300000000 := by omega
        have q2 : decide ((2 : Int) * (N : Int) < (L : Int)) = true := by simp; omega
        obtain ⟨m0, m1, m2, m3⟩ := HLd.out _ hbr
        clear hx hxx hX HSk hbk hbk1 HUp
        go_wp2_with fail
        refine (HPk.out _ (Hw.out.trans (hbr.mono Hw.out.size))).mono ?_
        rintro e w4 ⟨rfl, hb4⟩
        go_wp2
        go_roundw
        case rel => exact ⟨k + 1, by omega, by omega, by go_num, by rw [HSk2.out]; go_num, HI2, hbr.trans (hb4.mono hbr.size)⟩
        case measure => simp [intOf]; omega
      · have q2 : decide ((2 : Int) * (N : Int) < (L : Int)) = false := by simp; omega
        have HE : Hid (∀ i, i = (if 512 < N ∧ 1 < k then k - 1 else k) → RetShare w R most (.returned (.int .i64 (i : Int))) _) := fun i hi => ⟨i, rfl, ⟨k, HI.out, .inr (by rw [HN.out, HLL.out]; exact h2), by rw [HN.out]; exact hi⟩, Hw.out.trans (hbr.mono Hw.out.size)⟩
        clear HUp
        by_cases h5 : 512 < N
        · have q5 : decide ((512 : Int) < (N : Int)) = true := by simp; omega
          by_cases h6 : 1 < k
          · have HE2 := Lib.hid (HE.out (k - 1) (by rw [if_pos ⟨h5, h6⟩]))
            clear HE
            go_wp2
            go_ret
            try rw [show ((k : Int) - 1) = ((k - 1 : Nat) : Int) by omega]
            exact HE2.out
          · exfalso; omega
        · have q5 : decide ((512 : Int) < (N : Int)) = false := by simp; omega
          have HE2 := Lib.hid (HE.out k (by rw [if_neg (by omega)]))
          clear HE
          go_wp2
          go_ret
          exact HE2.out
    · have HE : Hid (∀ i, i = (if 512 < N ∧ 1 < k then k - 1 else k) → RetShare w R most (.returned (.int .i64 (i : Int))) _) := fun i hi => ⟨i, rfl, ⟨k, HI.out, .inl (by omega), by rw [HN.out]; exact hi⟩, Hw.out.trans (hbr.mono Hw.out.size)⟩
      clear HUp
      by_cases h5 : 512 < N
      · have q5 : decide ((512 : Int) < (N : Int)) = true := by simp; omega
        by_cases h6 : 1 < k
        · have HE2 := Lib.hid (HE.out (k - 1) (by rw [if_pos ⟨h5, h6⟩]))
          clear HE
          go_wp2
          go_ret
          rw [show ((k : Int) - 1) = ((k - 1 : Nat) : Int) by omega]
          exact HE2.out
        · exfalso; omega
      · have q5 : decide ((512 : Int) < (N : Int)) = false := by simp; omega
        have HE2 := Lib.hid (HE.out k (by rw [if_neg (by omega)]))
        clear HE
        go_wp2
        go_ret
        exact HE2.out
end Go.Proofs.Ytlcphgomhhejbaa

/- The walk of node.Halve. -/
namespace Go.Proofs.Ytlcphgomhhejbaa
open Go.RowKit

def zeroN : Nd := ⟨false, [], [], []⟩
def zeroNB : NB := ⟨none, 0, 0, none, 0, 0, none, 0, 0⟩
theorem NAt_zero (w : World) : NAt w zeroN zeroNB := by
  constructor <;> simp [zeroN, zeroNB] <;> exact .inl rfl

/-- The separating key of an inner node goes to neither half. -/
def movedN (n : Nd) : Nat := if n.leaf then 0 else 1
def IsHalf (n a : Nd) (k : ByteArray) (b : Nd) : Prop :=
  (¬ (n.Ok ∧ 2 + movedN n ≤ n.keys.length) ∧ a = zeroN ∧ k = ⟨#[]⟩ ∧ b = zeroN) ∨
  (n.Ok ∧ 2 + movedN n ≤ n.keys.length ∧ ∃ i, IsShare n.asR (n.keys.length - 1 - movedN n) i ∧ a = partN n 0 i ∧ n.keys[i]? = some k ∧ b = partN n (i + movedN n) n.keys.length)
def RetHalf (w : World) (n : Nd) (e : Ending) (w' : World) : Prop :=
  ∃ (a b : Nd) (k : ByteArray) (ma mb : NB), e = .returned (.tuple #[ma.v a.leaf, .string k, mb.v b.leaf]) ∧ IsHalf n a k b ∧ NAt w' a ma ∧ NAt w' b mb ∧ Below w.heap.size w w'

theorem Blk.bel {w w' : World} {g N : Nat} {t : TypeId} {cs : Array Value} (h : Blk w g t cs) (hb : Below N w w') (hg : g < N) : Blk w' g t cs := (hb.block g hg).trans h
theorem three_blocks (w : World) (o : Obj) (T : TypeId) (z : Array Value) : Blk (((w.alloc o).alloc (.cells z T)).alloc (.cells z T)) (w.heap.size + 1) T z ∧ Blk (((w.alloc o).alloc (.cells z T)).alloc (.cells z T)) (w.heap.size + 1 + 1) T z := by
  have h1 := Blk.new (w.alloc o) T z
  have h2 := Blk.new ((w.alloc o).alloc (.cells z T)) T z
  simp only [World.alloc, Array.size_push] at h1 h2 ⊢
  exact ⟨Blk.alloc h1 _, h2⟩

/-- Four cells of a block of the call's own are stored into. -/
def set4 (w : World) (b : Nat) (v0 v1 v2 v3 : Value) : World := (((w.setCell ⟨b, 0, none⟩ v0).setCell ⟨b, 1, none⟩ v1).setCell ⟨b, 2, none⟩ v2).setCell ⟨b, 3, none⟩ v3
theorem set4_below {w0 w : World} {N b : Nat} (h : Below N w0 w) (hb : N ≤ b) (v0 v1 v2 v3 : Value) : Below N w0 (set4 w b v0 v1 v2 v3) := by
  unfold set4
  refine Below.setCell (Below.setCell (Below.setCell (Below.setCell h ?_ _) ?_ _) ?_ _) ?_ _ <;> exact hb
theorem set4_chg {w : World} {b : Nat} {S : List Nat} (hb : b ∈ S) (v0 v1 v2 v3 : Value) : Chg S w (set4 w b v0 v1 v2 v3) := by
  unfold set4
  exact ((((Chg.refl S w).setCell (.inl hb) _).setCell (.inl hb) _).setCell (.inl hb) _).setCell (.inl hb) _
theorem NAt.set4 {w : World} {n : Nd} {m : NB} {N c : Nat} (h : NAt w n m) (hf : NFar N n m) (hc : c < N) (v0 v1 v2 v3 : Value) : NAt (set4 w c v0 v1 v2 v3) n m :=
  (((h.set_far hf hc).set_far hf hc).set_far hf hc).set_far hf hc

/-- As RetNd, the kind being known. -/
def RetNdB (lf : Bool) (w : World) (n : Nd) (e : Ending) (w' : World) : Prop := ∃ m : NB, e = .returned (m.v lf) ∧ NAt w' n m ∧ Below w.heap.size w w' ∧ NFar w.heap.size n m
theorem RetNd.b {lf : Bool} {w : World} {n : Nd} (h : n.leaf = lf) (e : Ending) (w' : World) (hr : RetNd w n e w') : RetNdB lf w n e w' := by
  obtain ⟨m, h1, h2⟩ := hr
  exact ⟨m, by rw [h1, h], h2⟩
theorem moved_leaf {n : Nd} (h : n.leaf = true) : movedN n = 0 := by unfold movedN; rw [h]; rfl
theorem moved_inner {n : Nd} (h : n.leaf = false) : movedN n = 1 := by unfold movedN; rw [h]; rfl
theorem partN_leaf (n : Nd) (i j : Nat) : (partN n i j).leaf = n.leaf := by unfold partN; cases n.leaf <;> rfl

set_option maxRecDepth 100000 in
set_option maxHeartbeats 4000000 in
theorem halve_noL (n : Nd) (m : NB) (w : World) (h : NAt w n m) (hl : n.leaf = true) (hno : ¬ (n.Ok ∧ 2 + 0 ≤ n.keys.length)) (hbig : m.kl ≤ 1000000) :
    Calls Try.prog 26 #[m.v true] w (RetHalf w n) := by
  have HR := fun W (hb : Below w.heap.size w W) => NRight_any n m W (h.later hb)
  rw [hl] at HR
  have HR := Lib.hid HR
  have HX : Hid (∀ W, Below w.heap.size w W → RetHalf w n (.returned (.tuple #[.agg #[.bool false, .slice none 0 0, .slice none 0 0, .slice none 0 0], .string ⟨#[]⟩, .agg #[.bool false, .slice none 0 0, .slice none 0 0, .slice none 0 0]])) W) :=
    fun W hb => ⟨zeroN, zeroN, ⟨#[]⟩, zeroNB, zeroNB, rfl, .inl ⟨by rw [moved_leaf hl]; exact hno, rfl, rfl, rfl⟩, NAt_zero _, NAt_zero _, hb⟩
  have hk := h.hk
  have hcase : n.ok = false ∨ (n.ok = true ∧ m.kl < 2 + 0) := by
    by_cases ho : n.Ok
    · right
      refine ⟨Nd.ok_eq (by simp [ho]), ?_⟩
      rcases Nat.lt_or_ge m.kl (2 + 0) with h1 | h1
      · exact h1
      · exact absurd ⟨ho, by omega⟩ hno
    · left; exact Nd.ok_eq (by simp [ho])
  clear h hno hk
  obtain ⟨ka, kl, kc, ca, cl, cc, da, dl, dc⟩ := m
  simp only at *
  generalize RetHalf w n = RR at *
  generalize n.ok = r at *
  clear hl
  have HB0 : Hid (Below w.heap.size w (((w.alloc (.cells #[.bool true, .slice ka kl kc, .slice ca cl cc, .slice da dl dc] 26)).alloc (.cells #[.bool false, .slice none 0 0, .slice none 0 0, .slice none 0 0] 26)).alloc (.cells #[.bool false, .slice none 0 0, .slice none 0 0, .slice none 0 0] 26))) := (((Below.refl _ w).alloc (Nat.le_refl _) _).alloc (by simp) _).alloc (by simp; omega) _
  rcases hcase with hr | ⟨hr, hk⟩
  all_goals
    subst hr
    go_enter Try.func26, Try.ntmps26
    go_wp2_with fail
    refine (HR.out _ HB0.out).mono ?_
    rintro e w1 ⟨rfl, hb⟩
    have hbx : Below (w.heap.size + 3) _ w1 := hb.mono (by simp)
    have hbe := HB0.out.trans (hb.mono HB0.out.size)
    have hsz : w.heap.size + 1 + 1 < w1.heap.size := by have := hbx.size; simp at this; omega
    obtain ⟨hBa, hBb⟩ := three_blocks w (.cells #[.bool true, .slice ka kl kc, .slice ca cl cc, .slice da dl dc] 26) 26 #[.bool false, .slice none 0 0, .slice none 0 0, .slice none 0 0]
    replace hBa := hBa.bel hbx (show w.heap.size + 1 < w.heap.size + 3 by omega)
    replace hBb := hBb.bel hbx (show w.heap.size + 1 + 1 < w.heap.size + 3 by omega)
    have r0 : w1.cell? ⟨w.heap.size + 1, 0, none⟩ = some (.bool false) := hBa.cell 0
    have r1 : w1.cell? ⟨w.heap.size + 1, 1, none⟩ = some (.slice none 0 0) := hBa.cell 1
    have r2 : w1.cell? ⟨w.heap.size + 1, 2, none⟩ = some (.slice none 0 0) := hBa.cell 2
    have r3 : w1.cell? ⟨w.heap.size + 1, 3, none⟩ = some (.slice none 0 0) := hBa.cell 3
    have f0 := hBa.frozen 0
    have f1 := hBa.frozen 1
    have f2 := hBa.frozen 2
    have f3 := hBa.frozen 3
    have s0 : w1.cell? ⟨w.heap.size + 1 + 1, 0, none⟩ = some (.bool false) := hBb.cell 0
    have s1 : w1.cell? ⟨w.heap.size + 1 + 1, 1, none⟩ = some (.slice none 0 0) := hBb.cell 1
    have s2 : w1.cell? ⟨w.heap.size + 1 + 1, 2, none⟩ = some (.slice none 0 0) := hBb.cell 2
    have s3 : w1.cell? ⟨w.heap.size + 1 + 1, 3, none⟩ = some (.slice none 0 0) := hBb.cell 3
    have g0 := hBb.frozen 0
    have g1 := hBb.frozen 1
    have g2 := hBb.frozen 2
    have g3 := hBb.frozen 3
    clear hBa hBb
    have HFin : Hid (∀ v0 v1 v2 v3 u0 u1 u2 u3, RR _ (set4 (set4 w1 (w.heap.size + 1) v0 v1 v2 v3) (w.heap.size + 1 + 1) u0 u1 u2 u3)) :=
      fun v0 v1 v2 v3 u0 u1 u2 u3 => HX.out _ (set4_below (set4_below hbe (Nat.le_add_right _ 1) _ _ _ _) (Nat.le_add_right _ 2) _ _ _ _)
    clear hb hbx hbe HX
    go_wp2
    refine bodyPost_ret (v := .tuple #[.agg #[.bool false, .slice none 0 0, .slice none 0 0, .slice none 0 0], .string ⟨#[]⟩, .agg #[.bool false, .slice none 0 0, .slice none 0 0, .slice none 0 0]]) (by simp [results, Try.results26, go_sem, r0, r1, r2, r3, s0, s1, s2, s3, hsz]) rfl (HFin.out _ _ _ _ _ _ _ _)

set_option maxRecDepth 100000 in
set_option maxHeartbeats 4000000 in
theorem halve_noI (n : Nd) (m : NB) (w : World) (h : NAt w n m) (hl : n.leaf = false) (hno : ¬ (n.Ok ∧ 2 + 1 ≤ n.keys.length)) (hbig : m.kl ≤ 1000000) :
    Calls Try.prog 26 #[m.v false] w (RetHalf w n) := by
  have HR := fun W (hb : Below w.heap.size w W) => NRight_any n m W (h.later hb)
  rw [hl] at HR
  have HR := Lib.hid HR
  have HX : Hid (∀ W, Below w.heap.size w W → RetHalf w n (.returned (.tuple #[.agg #[.bool false, .slice none 0 0, .slice none 0 0, .slice none 0 0], .string ⟨#[]⟩, .agg #[.bool false, .slice none 0 0, .slice none 0 0, .slice none 0 0]])) W) :=
    fun W hb => ⟨zeroN, zeroN, ⟨#[]⟩, zeroNB, zeroNB, rfl, .inl ⟨by rw [moved_inner hl]; exact hno, rfl, rfl, rfl⟩, NAt_zero _, NAt_zero _, hb⟩
  have hk := h.hk
  have hcase : n.ok = false ∨ (n.ok = true ∧ m.kl < 2 + 1) := by
    by_cases ho : n.Ok
    · right
      refine ⟨Nd.ok_eq (by simp [ho]), ?_⟩
      rcases Nat.lt_or_ge m.kl (2 + 1) with h1 | h1
      · exact h1
      · exact absurd ⟨ho, by omega⟩ hno
    · left; exact Nd.ok_eq (by simp [ho])
  clear h hno hk
  obtain ⟨ka, kl, kc, ca, cl, cc, da, dl, dc⟩ := m
  simp only at *
  generalize RetHalf w n = RR at *
  generalize n.ok = r at *
  clear hl
  have HB0 : Hid (Below w.heap.size w (((w.alloc (.cells #[.bool false, .slice ka kl kc, .slice ca cl cc, .slice da dl dc] 26)).alloc (.cells #[.bool false, .slice none 0 0, .slice none 0 0, .slice none 0 0] 26)).alloc (.cells #[.bool false, .slice none 0 0, .slice none 0 0, .slice none 0 0] 26))) := (((Below.refl _ w).alloc (Nat.le_refl _) _).alloc (by simp) _).alloc (by simp; omega) _
  rcases hcase with hr | ⟨hr, hk⟩
  all_goals
    subst hr
    go_enter Try.func26, Try.ntmps26
    go_wp2_with fail
    refine (HR.out _ HB0.out).mono ?_
    rintro e w1 ⟨rfl, hb⟩
    have hbx : Below (w.heap.size + 3) _ w1 := hb.mono (by simp)
    have hbe := HB0.out.trans (hb.mono HB0.out.size)
    have hsz : w.heap.size + 1 + 1 < w1.heap.size := by have := hbx.size; simp at this; omega
    obtain ⟨hBa, hBb⟩ := three_blocks w (.cells #[.bool false, .slice ka kl kc, .slice ca cl cc, .slice da dl dc] 26) 26 #[.bool false, .slice none 0 0, .slice none 0 0, .slice none 0 0]
    replace hBa := hBa.bel hbx (show w.heap.size + 1 < w.heap.size + 3 by omega)
    replace hBb := hBb.bel hbx (show w.heap.size + 1 + 1 < w.heap.size + 3 by omega)
    have r0 : w1.cell? ⟨w.heap.size + 1, 0, none⟩ = some (.bool false) := hBa.cell 0
    have r1 : w1.cell? ⟨w.heap.size + 1, 1, none⟩ = some (.slice none 0 0) := hBa.cell 1
    have r2 : w1.cell? ⟨w.heap.size + 1, 2, none⟩ = some (.slice none 0 0) := hBa.cell 2
    have r3 : w1.cell? ⟨w.heap.size + 1, 3, none⟩ = some (.slice none 0 0) := hBa.cell 3
    have f0 := hBa.frozen 0
    have f1 := hBa.frozen 1
    have f2 := hBa.frozen 2
    have f3 := hBa.frozen 3
    have s0 : w1.cell? ⟨w.heap.size + 1 + 1, 0, none⟩ = some (.bool false) := hBb.cell 0
    have s1 : w1.cell? ⟨w.heap.size + 1 + 1, 1, none⟩ = some (.slice none 0 0) := hBb.cell 1
    have s2 : w1.cell? ⟨w.heap.size + 1 + 1, 2, none⟩ = some (.slice none 0 0) := hBb.cell 2
    have s3 : w1.cell? ⟨w.heap.size + 1 + 1, 3, none⟩ = some (.slice none 0 0) := hBb.cell 3
    have g0 := hBb.frozen 0
    have g1 := hBb.frozen 1
    have g2 := hBb.frozen 2
    have g3 := hBb.frozen 3
    clear hBa hBb
    have HFin : Hid (∀ v0 v1 v2 v3 u0 u1 u2 u3, RR _ (set4 (set4 w1 (w.heap.size + 1) v0 v1 v2 v3) (w.heap.size + 1 + 1) u0 u1 u2 u3)) :=
      fun v0 v1 v2 v3 u0 u1 u2 u3 => HX.out _ (set4_below (set4_below hbe (Nat.le_add_right _ 1) _ _ _ _) (Nat.le_add_right _ 2) _ _ _ _)
    clear hb hbx hbe HX
    go_wp2
    refine bodyPost_ret (v := .tuple #[.agg #[.bool false, .slice none 0 0, .slice none 0 0, .slice none 0 0], .string ⟨#[]⟩, .agg #[.bool false, .slice none 0 0, .slice none 0 0, .slice none 0 0]]) (by simp [results, Try.results26, go_sem, r0, r1, r2, r3, s0, s1, s2, s3, hsz]) rfl (HFin.out _ _ _ _ _ _ _ _)
end Go.Proofs.Ytlcphgomhhejbaa

/- The walk of the reader's inner. -/
namespace Go.Proofs.Ytlcphgomhhejbaa
open Go.RowKit

def innerOf (kid : Int) (l : List Pt) : Nd := ⟨false, l.map Pt.key, [], kid :: l.map Pt.page⟩

/-- Where the reader's inner stands: nk keys and nd kids are there. -/
structure InMid (w wr : World) (nb rb : Nat) (s : ByteArray) (at_ : Nat) (ok : Bool) (nk nd : Nat) (kv dv : Value) (ks ds : List Value) : Prop where
  node : Blk wr nb 26 #[.bool false, kv, .slice none 0 0, dv]
  res : Blk wr w.heap.size 26 #[.bool false, .slice none 0 0, .slice none 0 0, .slice none 0 0]
  keys : wr.ownsRow w.heap.size 9 1 kv nk ks
  kids : wr.ownsRow w.heap.size 3 1 dv nd ds
  rdr : Rdr wr rb s at_ ok
  chg : Chg [rb] w wr
  nlt : w.heap.size < nb
  rlt : rb < w.heap.size

structure InInv (w wr : World) (nb rb : Nat) (s : ByteArray) (kid : Nat) (k at_ : Nat) (ok : Bool) (kv dv : Value) (l : List Pt) : Prop where
  mid : InMid w wr nb rb s at_ ok k (k + 1) kv dv (cellsS (l.map Pt.key)) (cellsI ((kid : Int) :: l.map Pt.page))
  st : Stands false s 7 k l at_ ok
  fair : ∀ p ∈ l, p.key.size ≤ 255 ∧ (0 ≤ p.page ∧ p.page ≤ 4294967295)
  kidlt : kid < 4294967296

section
variable {w W W' : World} {nb rb : Nat} {s : ByteArray} {at_ at' : Nat} {ok ok' : Bool} {nk nd : Nat} {kv dv : Value} {ks ds : List Value}
theorem InMid.rdr_step (h : InMid w W nb rb s at_ ok nk nd kv dv ks ds) (hc : Chg [rb] W W') (hr : Rdr W' rb s at' ok') : InMid w W' nb rb s at' ok' nk nd kv dv ks ds := by
  have hr1 := h.rlt
  have hn := h.nlt
  exact ⟨h.node.chg hc (by simp; omega), h.res.chg hc (by simp; omega), own_chg h.keys hc (fun g hg hm => own_ne h.keys h.rdr (by decide) (by simp at hm; rw [hg, hm])), own_chg h.kids hc (fun g hg hm => own_ne h.kids h.rdr (by decide) (by simp at hm; rw [hg, hm])), hr, h.chg.trans hc, h.nlt, h.rlt⟩
theorem InMid.drew (h : InMid w W nb rb s at_ ok nk nd kv dv ks ds) : InMid w W.drew nb rb s at_ ok nk nd kv dv ks ds :=
  ⟨h.node, h.res, h.keys, h.kids, h.rdr, h.chg.drew, h.nlt, h.rlt⟩
theorem InMid.add_key {kv' : Value} {x2 : World} {T : TypeId} {o : Array Value} {ks' : List Value} (h : InMid w W nb rb s at_ ok nk nd kv dv ks ds) (hk : x2.ownsRow w.heap.size 9 1 kv' (nk + 1) ks') (hc : Chg kv.ownBlock.toList (W.alloc (.cells o T)) x2) :
    Blk x2 nb 26 #[.bool false, kv, .slice none 0 0, dv] ∧ InMid w (x2.setCell ⟨nb, 1, none⟩ kv') nb rb s at_ ok (nk + 1) nd kv' dv ks' ds := by
  have hr1 := h.rlt
  have hn := h.nlt
  have hc2 : Chg kv.ownBlock.toList W x2 := ((Chg.refl _ _).alloc _).trans hc
  have hnk : ∀ {g t cs}, Blk W g t cs → 9 ≠ t → g ∉ kv.ownBlock.toList := fun hb hne hm => own_ne h.keys hb hne (by rwa [Option.mem_toList] at hm)
  have hbase : ∀ g, kv.ownBlock = some g → w.heap.size ≤ g := fun g hg => (World.ownsRow.lt h.keys g hg).1
  have n2 := h.node.chg hc2 (hnk h.node (by decide))
  have hset : Chg [nb] x2 (x2.setCell ⟨nb, 1, none⟩ kv') := (Chg.refl _ _).setCell (.inl (by simp)) _
  refine ⟨n2, n2.set_ 1 kv', (h.res.chg hc2 (hnk h.res (by decide))).chg hset (by simp; omega), own_chg hk hset (fun g hg hm => own_ne hk n2 (by decide) (by simp at hm; rw [hg, hm])), ?_, (h.rdr.chg hc2 (hnk h.rdr (by decide))).chg hset (by simp; omega), ?_, h.nlt, h.rlt⟩
  · have := own_chg h.kids hc2 (fun g hg hm => own_apart h.keys h.kids (by decide) g (by rwa [Option.mem_toList] at hm) hg)
    exact own_chg this hset (fun g hg hm => own_ne this n2 (by decide) (by simp at hm; rw [hg, hm]))
  · refine Chg.setCell (h.chg.trans' (S1 := kv.ownBlock.toList) (fun g hg => .inr (hbase g (by rwa [Option.mem_toList] at hg))) hc2) (.inr (by omega)) _
theorem InMid.add_kid {dv' : Value} {x2 : World} {T : TypeId} {o : Array Value} {ds' : List Value} (h : InMid w W nb rb s at_ ok nk nd kv dv ks ds) (hk : x2.ownsRow w.heap.size 3 1 dv' (nd + 1) ds') (hc : Chg dv.ownBlock.toList (W.alloc (.cells o T)) x2) :
    Blk x2 nb 26 #[.bool false, kv, .slice none 0 0, dv] ∧ InMid w (x2.setCell ⟨nb, 3, none⟩ dv') nb rb s at_ ok nk (nd + 1) kv dv' ks ds' := by
  have hr1 := h.rlt
  have hn := h.nlt
  have hc2 : Chg dv.ownBlock.toList W x2 := ((Chg.refl _ _).alloc _).trans hc
  have hnk : ∀ {g t cs}, Blk W g t cs → 3 ≠ t → g ∉ dv.ownBlock.toList := fun hb hne hm => own_ne h.kids hb hne (by rwa [Option.mem_toList] at hm)
  have hbase : ∀ g, dv.ownBlock = some g → w.heap.size ≤ g := fun g hg => (World.ownsRow.lt h.kids g hg).1
  have n2 := h.node.chg hc2 (hnk h.node (by decide))
  have hset : Chg [nb] x2 (x2.setCell ⟨nb, 3, none⟩ dv') := (Chg.refl _ _).setCell (.inl (by simp)) _
  refine ⟨n2, n2.set_ 3 dv', (h.res.chg hc2 (hnk h.res (by decide))).chg hset (by simp; omega), ?_, own_chg hk hset (fun g hg hm => own_ne hk n2 (by decide) (by simp at hm; rw [hg, hm])), (h.rdr.chg hc2 (hnk h.rdr (by decide))).chg hset (by simp; omega), ?_, h.nlt, h.rlt⟩
  · have := own_chg h.keys hc2 (fun g hg hm => own_apart h.kids h.keys (by decide) g (by rwa [Option.mem_toList] at hm) hg)
    exact own_chg this hset (fun g hg hm => own_ne this n2 (by decide) (by simp at hm; rw [hg, hm]))
  · refine Chg.setCell (h.chg.trans' (S1 := dv.ownBlock.toList) (fun g hg => .inr (hbase g (by rwa [Option.mem_toList] at hg))) hc2) (.inr (by omega)) _
end

theorem in_exit {w wr : World} {nb rb : Nat} {s : ByteArray} {kid k at_ count : Nat} {ok : Bool} {l : List Pt} {ka da : Option Addr} {kc dc : Nat} (h : InInv w wr nb rb s kid k at_ ok (.slice ka k kc) (.slice da (k + 1) dc) l) (hk : k ≤ count) (hcount : count < 65536) (hend : ok = true → k = count) (v0 v1 v2 v3 : Value) :
    RetLf w rb s false (innerOf kid) 7 count (.returned (.agg #[.bool false, .slice ka k kc, .slice none 0 0, .slice da (k + 1) dc])) ((((wr.setCell ⟨w.heap.size, 0, none⟩ v0).setCell ⟨w.heap.size, 1, none⟩ v1).setCell ⟨w.heap.size, 2, none⟩ v2).setCell ⟨w.heap.size, 3, none⟩ v3) := by
  have hch : Chg [w.heap.size] wr ((((wr.setCell ⟨w.heap.size, 0, none⟩ v0).setCell ⟨w.heap.size, 1, none⟩ v1).setCell ⟨w.heap.size, 2, none⟩ v2).setCell ⟨w.heap.size, 3, none⟩ v3) :=
    ((((Chg.refl _ _).setCell (.inl (by simp)) _).setCell (.inl (by simp)) _).setCell (.inl (by simp)) _).setCell (.inl (by simp)) _
  have hne := h.mid.rlt
  have hkl := h.kidlt
  have hk2 := own_chg h.mid.keys hch (fun g hg hm => own_ne h.mid.keys h.mid.res (by decide) (by simp at hm; rw [hg, hm]))
  have hc2 := own_chg h.mid.kids hch (fun g hg hm => own_ne h.mid.kids h.mid.res (by decide) (by simp at hm; rw [hg, hm]))
  obtain ⟨a1, c1, e1, hkc, hkm, harr⟩ := own_slice hk2
  obtain ⟨a2, c2, e2, hcc, hcm, hcarr⟩ := own_slice hc2
  simp only [Value.slice.injEq, true_and] at e1 e2
  obtain ⟨rfl, rfl⟩ := e1
  obtain ⟨rfl, rfl⟩ := e2
  refine ⟨l, at_, ok, ⟨ka, k, kc, none, 0, 0, da, k + 1, dc⟩, rfl, ⟨?_, rfl, ?_, hkc, by simp, hcc, ?_, by simp, ?_, harr, .inl rfl, hcarr, ?_, by simp [innerOf], ?_⟩, ?_, h.mid.rdr.chg hch (by simp; omega), ?_, h.st.2.1, fun hok => ?_, fun hok => h.st.2.2.2 hok count hk, own_far hk2, .inl rfl, own_far hc2⟩
  · simp [innerOf, h.st.1]
  · simp [innerOf, h.st.1]
  · simp only; omega
  · simp only; omega
  · intro y hy
    simp only [innerOf, List.mem_map] at hy
    obtain ⟨p, hp, rfl⟩ := hy
    have := (h.fair p hp).1
    omega
  · intro y hy
    simp only [innerOf, List.mem_cons, List.mem_map] at hy
    rcases hy with rfl | ⟨p, hp, rfl⟩
    · omega
    · have := (h.fair p hp).2
      omega
  · simp only; omega
  · exact (((h.mid.chg.setCell (.inr (Nat.le_refl _)) _).setCell (.inr (Nat.le_refl _)) _).setCell (.inr (Nat.le_refl _)) _).setCell (.inr (Nat.le_refl _)) _
  · have := hend hok
    subst this
    exact h.st.2.2.1 hok

set_option maxRecDepth 100000 in
set_option maxHeartbeats 8000000 in
theorem rinner_any (rb : Nat) (s : ByteArray) (w : World) (h : Rdr w rb s 1 true) (hs : s.size = 512) :
    Calls Try.prog 40 #[.pointer (some ⟨rb, 0, none⟩)] w (RetLf w rb s false (innerOf (valL (cutL (bytesOf s) 3 4) : Nat)) 7 (valL (cutL (bytesOf s) 1 2))) := by
  obtain ⟨iS, hiS, hzS, hsS, hbS⟩ := info_parts info_str
  obtain ⟨iI, hiI, hzI, hsI, hbI⟩ := info_parts info_int
  have hlt := h.lt
  have hN := fun W hW => rnumber_any rb s 1 2 true 2 W rfl hW (by omega) (by omega) (by omega)
  rw [rdN_fit (show 1 + 2 ≤ s.size by omega)] at hN
  have hN2 := fun W hW => rnumber_any rb s 3 4 true 4 W rfl hW (by omega) (by omega) (by omega)
  rw [rdN_fit (show 3 + 4 ≤ s.size by omega)] at hN2
  have hcount : valL (cutL (bytesOf s) 1 2) < 65536 := by
    have := valL_lt _ (cutL_lt (bytesOf_lt s) 1 2)
    rw [cutL_len (by rw [bytesOf_len]; omega)] at this
    exact this
  have hkid : valL (cutL (bytesOf s) 3 4) < 4294967296 := by
    have := valL_lt _ (cutL_lt (bytesOf_lt s) 3 4)
    rw [cutL_len (by rw [bytesOf_len]; omega)] at this
    exact this
  generalize valL (cutL (bytesOf s) 1 2) = count at *
  generalize valL (cutL (bytesOf s) 3 4) = kid at *
  have HN : Hid (∀ W, Rdr W rb s 1 true → Calls Try.prog 38 #[.pointer (some ⟨rb, 0, none⟩), .int .i64 2] W fun e w' => e = .returned (.int .i64 (count : Int)) ∧ Rdr w' rb s 3 true ∧ Chg [rb] W w') := hN
  have HN2 : Hid (∀ W, Rdr W rb s 3 true → Calls Try.prog 38 #[.pointer (some ⟨rb, 0, none⟩), .int .i64 4] W fun e w' => e = .returned (.int .i64 (kid : Int)) ∧ Rdr w' rb s 7 true ∧ Chg [rb] W w') := hN2
  clear hN hN2
  have HR0 : Hid (Rdr (w.alloc (.cells #[.bool false, .slice none 0 0, .slice none 0 0, .slice none 0 0] 26)) rb s 1 true) := h.alloc _
  have HS := Lib.hid hs
  clear h hs
  go_enter Try.func40, Try.ntmps40
  go_wp2_with fail
  refine (HN.out _ HR0.out).mono ?_
  rintro e w1 ⟨rfl, hR1, hC1⟩
  have b0 : Blk w1 w.heap.size 26 #[.bool false, .slice none 0 0, .slice none 0 0, .slice none 0 0] := (Blk.new w _ _).chg hC1 (by simp; omega)
  have hC1' : Chg [rb] w w1 := ((Chg.refl _ _).alloc _).trans hC1
  have HR1 := Lib.hid hR1
  clear HR0 hR1 hC1
  go_wp2_with fail
  refine (HN2.out _ HR1.out).mono ?_
  rintro e w2 ⟨rfl, hR2, hC2⟩
  replace b0 := b0.chg hC2 (by simp; omega)
  replace hC2 := hC1'.trans hC2
  have hsz2 : w.heap.size < w2.heap.size := b0.lt
  have hI0 : InInv w ((w2.alloc (.cells #[.int .i64 (kid : Int)] 3)).alloc (.cells #[.bool false, .slice none 0 0, .slice none 0 0, .slice (some ⟨w2.heap.size, 0, none⟩) 1 1] 26)) (w2.heap.size + 1) rb s kid 0 7 true (.slice none 0 0) (.slice (some ⟨w2.heap.size, 0, none⟩) 1 1) [] := by
    refine ⟨⟨?_, (b0.alloc _).alloc _, World.ownsRow_nil _ _ _ _, ⟨rfl, .inr ⟨w2.heap.size, 1, #[.int .i64 (kid : Int)], rfl, by omega, ?_, by omega, by unfold maxLen; omega, rfl, rfl⟩⟩, (Blk.alloc hR2 _).alloc _, (hC2.alloc _).alloc _, by omega, hlt⟩, Stands.start (by have := HS.out; omega), by simp, hkid⟩
    · have := (Blk.new (w2.alloc (.cells #[.int .i64 (kid : Int)] 3)) 26 #[.bool false, .slice none 0 0, .slice none 0 0, .slice (some ⟨w2.heap.size, 0, none⟩) 1 1])
      simpa using this
    · have := Blk.alloc (Blk.new w2 3 #[.int .i64 (kid : Int)]) (.cells #[.bool false, .slice none 0 0, .slice none 0 0, .slice (some ⟨w2.heap.size, 0, none⟩) 1 1] 26)
      exact this
  have HI0 := Lib.hid hI0
  clear HN HN2 HR1 hR2 hC2 hC1' b0 hI0 hkid
  go_wp2_with fail
  generalize ((w2.alloc (.cells #[.int .i64 (kid : Int)] 3)).alloc (.cells #[.bool false, .slice none 0 0, .slice none 0 0, .slice (some ⟨w2.heap.size, 0, none⟩) 1 1] 26)) = W0 at *
  generalize w2.heap.size + 1 = nb at *
  go_loopw [11] (fun v wr => ∃ (k at_ : Nat) (ok : Bool) (kv dv : Value) (l : List Pt), k ≤ count ∧ Hid (InInv w wr nb rb s kid k at_ ok kv dv l)) (fun _ wr => lackOf wr nb count)
  case atStart => exact ⟨0, 7, true, _, _, [], by omega, HI0⟩
  case round =>
    obtain ⟨k, at_, ok, kv, dv, l, hk, HI⟩ := hrel
    obtain ⟨ka, kc, rfl, hkc, hkcm, _⟩ := own_slice HI.out.mid.keys
    obtain ⟨da, dc, rfl, hdc, hdcm, _⟩ := own_slice HI.out.mid.kids
    have hb1 := HI.out.mid.node
    have hb0 := HI.out.mid.res
    have n0 : wr.cell? ⟨nb, 0, none⟩ = some (.bool false) := (hb1.cell 0).trans rfl
    have n1 : wr.cell? ⟨nb, 1, none⟩ = some (.slice ka k kc) := (hb1.cell 1).trans rfl
    have n2 : wr.cell? ⟨nb, 2, none⟩ = some (.slice none 0 0) := (hb1.cell 2).trans rfl
    have n3 : wr.cell? ⟨nb, 3, none⟩ = some (.slice da (k + 1) dc) := (hb1.cell 3).trans rfl
    have hlack : lackOf wr nb count = count - k := by unfold lackOf; rw [n1]
    have r2 : wr.cell? ⟨rb, 2, none⟩ = some (.bool ok) := (HI.out.mid.rdr.cell 2).trans rfl
    have r0 := HI.out.mid.rdr.lt
    have hnlt := HI.out.mid.nlt
    by_cases hlt2 : k < count
    · have q1 : decide ((k : Int) < (count : Int)) = true := by first | (simp; done) | (simp; omega)
      cases ok with
      | false =>
        have HEx := Lib.hid (in_exit HI.out hk hcount (by simp))
        have m0 : wr.cell? ⟨w.heap.size, 0, none⟩ = some (.bool false) := (hb0.cell 0).trans rfl
        have m1 : wr.cell? ⟨w.heap.size, 1, none⟩ = some (.slice none 0 0) := (hb0.cell 1).trans rfl
        have m2 : wr.cell? ⟨w.heap.size, 2, none⟩ = some (.slice none 0 0) := (hb0.cell 2).trans rfl
        have m3 : wr.cell? ⟨w.heap.size, 3, none⟩ = some (.slice none 0 0) := (hb0.cell 3).trans rfl
        have f0 := hb0.frozen 0
        have f1 := hb0.frozen 1
        have f2 := hb0.frozen 2
        have f3 := hb0.frozen 3
        have hblt := hb0.lt
        clear hlack
        go_wp2
        refine bodyPost_ret (v := .agg #[.bool false, .slice ka k kc, .slice none 0 0, .slice da (k + 1) dc]) (by simp [results, Try.results40, go_sem, m0, m1, m2, m3, hblt]) rfl (HEx.out _ _ _ _)
      | true =>
        have hsz512 := HS.out
        have hat := HI.out.st.2.1
        have e1l : (rdN s at_ true 1).1 < 256 := by have := rdN_lt s at_ true 1; simpa using this
        have HN1 := Lib.hid (fun W hW => rnumber_any rb s at_ 1 true 1 W rfl hW hat (by omega) (by omega))
        have hat1 := rdN_at s at_ true 1 hat
        obtain ⟨⟨sz, at1, ok1⟩, hA⟩ : ∃ r, rdN s at_ true 1 = r := ⟨_, rfl⟩
        rw [hA] at HN1 e1l hat1
        have HT3 := Lib.hid (fun W hW => rtext_any rb s at1 sz ok1 _ W rfl hW hat1 (by omega) (by simp only at e1l; omega))
        have e3l := rdT_size s at1 ok1 sz
        have hat3 := rdT_at s at1 ok1 sz hat1
        obtain ⟨⟨key, at3, ok3⟩, hC3⟩ : ∃ r, rdT s at1 ok1 sz = r := ⟨_, rfl⟩
        rw [hC3] at HT3 e3l hat3
        have e4l : (rdN s at3 ok3 4).1 < 4294967296 := by have := rdN_lt s at3 ok3 4; simpa using this
        have HN4 := Lib.hid (fun W hW => rnumber_any rb s at3 4 ok3 4 W rfl hW hat3 (by omega) (by omega))
        obtain ⟨⟨pg, at4, ok4⟩, hD4⟩ : ∃ r, rdN s at3 ok3 4 = r := ⟨_, rfl⟩
        rw [hD4] at HN4 e4l
        simp only at e1l e3l e4l hat1 hat3
        replace HN1 : Hid (∀ W, Rdr W rb s at_ true → Calls Try.prog 38 #[.pointer (some ⟨rb, 0, none⟩), .int .i64 1] W fun e w' => e = .returned (.int .i64 (sz : Int)) ∧ Rdr w' rb s at1 ok1 ∧ Chg [rb] W w') := HN1.out
        replace HT3 : Hid (∀ W, Rdr W rb s at1 ok1 → Calls Try.prog 60 #[.pointer (some ⟨rb, 0, none⟩), .int .i64 (sz : Int)] W fun e w' => e = .returned (.string key) ∧ Rdr w' rb s at3 ok3 ∧ Chg [rb] W w') := HT3.out
        replace HN4 : Hid (∀ W, Rdr W rb s at3 ok3 → Calls Try.prog 38 #[.pointer (some ⟨rb, 0, none⟩), .int .i64 4] W fun e w' => e = .returned (.int .i64 (pg : Int)) ∧ Rdr w' rb s at4 ok4 ∧ Chg [rb] W w') := HN4.out
        have hst : Stands false s 7 (k + 1) (l ++ [⟨key, 0, ⟨#[]⟩, (pg : Int)⟩]) at4 ok4 := by
          have := HI.out.st.stepI
          have e : rdI s at_ true = (⟨key, 0, ⟨#[]⟩, (pg : Int)⟩, at4, ok4) := by
            unfold rdI
            simp only [hA, hC3, hD4]
          rw [e] at this
          exact this
        have HSt := Lib.hid hst
        have HLack := Lib.hid hlack
        have HFair := Lib.hid HI.out.fair
        have hkidlt := HI.out.kidlt
        have HM := Lib.hid HI.out.mid.drew
        clear hA hC3 hD4 hst hlack hb1 hb0
        have hnbS : nb ∉ rb :: (Value.slice ka k kc).ownBlock.toList := by
          intro hm
          simp only [List.mem_cons, Option.mem_toList] at hm
          rcases hm with hm | hm
          · omega
          · exact own_ne HM.out.keys HM.out.node (by decide) hm
        have e0 : ∀ W, Chg (rb :: (Value.slice ka k kc).ownBlock.toList) wr.drew W → W.cell? ⟨nb, 1, none⟩ = some (.slice ka k kc) := fun W hW => (hW.cell (b := nb) (by exact HM.out.node.lt) hnbS).trans ((HM.out.node.cell 1).trans rfl)
        have HRV : Hid (Rdr wr.drew rb s at_ true) := HM.out.rdr
        clear HI
        go_wp2_with fail
        clear n0 n1 n2 n3 r2
        refine wp_region_ordX (rb :: (Value.slice ka k kc).ownBlock.toList) 9 [(0, true), (1, true), (2, true), (3, true), (4, false), (5, false), (6, false), (7, false), (8, true)] (by kernel_rfl) (by kernel_rfl) (by kernel_rfl) (by kernel_rfl) ?_
        repeat (first | ((refine wpOX_F rfl (by rfl) (fun w' hL => exec_load rfl rfl (e0 w' hL)) ?_); try simp only [Act.put, List.setIfInBounds_toArray, List.set_cons_zero, List.set_cons_succ]) | (refine wpOX_F (v := ?_) rfl (by rfl) (fun w' hL => ?_) ?_; rotate_left; (solve | (go_simp; with_reducible rfl) | go_simp); try simp only [Act.put, List.setIfInBounds_toArray, List.set_cons_zero, List.set_cons_succ]) | (refine wpOX_G (Chg.refl _) rfl (by rfl) ?_; try simp only [Act.put, List.setIfInBounds_toArray, List.set_cons_zero, List.set_cons_succ]))
        refine wpOX_C rfl (by rfl) ?_
        go_simp
        refine (HN1.out _ HRV.out).mono ?_
        rintro e x0 ⟨rfl, hR0, hC0⟩
        refine ⟨hC0.sub (by simp), ?_⟩
        try simp only [Act.put, List.setIfInBounds_toArray, List.set_cons_zero, List.set_cons_succ]
        repeat (first | ((refine wpOX_F rfl (by rfl) (fun w' hL => exec_load rfl rfl (e0 w' hL)) ?_); try simp only [Act.put, List.setIfInBounds_toArray, List.set_cons_zero, List.set_cons_succ]) | (refine wpOX_F (v := ?_) rfl (by rfl) (fun w' hL => ?_) ?_; rotate_left; (solve | (go_simp; with_reducible rfl) | go_simp); try simp only [Act.put, List.setIfInBounds_toArray, List.set_cons_zero, List.set_cons_succ]) | (refine wpOX_G (Chg.refl _) rfl (by rfl) ?_; try simp only [Act.put, List.setIfInBounds_toArray, List.set_cons_zero, List.set_cons_succ]))
        refine wpOX_C rfl (by rfl) ?_
        go_simp
        refine (HT3.out _ hR0).mono ?_
        rintro e x1 ⟨rfl, hR3, hC3⟩
        refine ⟨hC3.sub (by simp), ?_⟩
        try simp only [Act.put, List.setIfInBounds_toArray, List.set_cons_zero, List.set_cons_succ]
        refine wpOX_C rfl (by rfl) ?_
        go_simp
        refine ⟨(Chg.refl _ _).alloc _, ?_⟩
        try simp only [Act.put, List.setIfInBounds_toArray, List.set_cons_zero, List.set_cons_succ]
        have hM1 := (HM.out.rdr_step hC0 hR0).rdr_step hC3 hR3
        refine wpOX_C rfl (by rfl) ?_
        refine wp_appC (.tmp 23) (.tmp 28) 22 rfl w.heap.size 9 iS (.string ⟨#[]⟩) 1 16 Try.underlying22 hiS hzS rfl hsS (by omega) hbS (by omega) (.slice ka k kc) k _ [.string key] x1 hM1.keys rfl _ rfl rfl (by simp [Value.oneCell']) rfl (by omega) (by have := hM1.node.lt; omega) ?_
        intro kv' x2 hk2 hc2 hsz2
        refine ⟨hc2.sub (fun g hg => List.mem_cons_of_mem _ hg), ?_⟩
        try simp only [Act.put, List.setIfInBounds_toArray, List.set_cons_zero, List.set_cons_succ]
        obtain ⟨hnode, hM2⟩ := hM1.add_key hk2 hc2
        obtain ⟨ka2, kc2, rfl, hkc2, hkm2, _⟩ := own_slice hk2
        have p1 : x2.cell? ⟨nb, 1, none⟩ = some (.slice ka k kc) := (hnode.cell 1).trans rfl
        have pf := hnode.frozen 1
        have pl := hnode.lt
        have HM2 := Lib.hid hM2.drew
        clear hM2 hnode hM1 hR3 hC3 hR0 hC0 hk2 hc2 HM HT3 HN1 HRV hsz2
        repeat (first | ((refine wpOX_F rfl (by rfl) (fun w' hL => exec_load rfl rfl (e0 w' hL)) ?_); try simp only [Act.put, List.setIfInBounds_toArray, List.set_cons_zero, List.set_cons_succ]) | (refine wpOX_F (v := ?_) rfl (by rfl) (fun w' hL => ?_) ?_; rotate_left; (solve | (go_simp; with_reducible rfl) | go_simp); try simp only [Act.put, List.setIfInBounds_toArray, List.set_cons_zero, List.set_cons_succ]) | (refine wpOX_G (Chg.refl _) rfl (by rfl) ?_; try simp only [Act.put, List.setIfInBounds_toArray, List.set_cons_zero, List.set_cons_succ]))
        refine wpOX_end rfl (by rfl) ?_
        go_simp
        simp only [NoPanic]
        clear e0 p1 pf pl hnbS
        generalize (x2.setCell ⟨nb, 1, none⟩ (.slice ka2 (k + 1) kc2)) = X3 at *
        go_wp2_with fail
        have hnbS : nb ∉ rb :: (Value.slice da (k + 1) dc).ownBlock.toList := by
          intro hm
          simp only [List.mem_cons, Option.mem_toList] at hm
          rcases hm with hm | hm
          · omega
          · exact own_ne HM2.out.kids HM2.out.node (by decide) hm
        have e0 : ∀ W, Chg (rb :: (Value.slice da (k + 1) dc).ownBlock.toList) X3.drew W → W.cell? ⟨nb, 3, none⟩ = some (.slice da (k + 1) dc) := fun W hW => (hW.cell (b := nb) (by exact HM2.out.node.lt) hnbS).trans ((HM2.out.node.cell 3).trans rfl)
        have HRV : Hid (Rdr X3.drew rb s at3 ok3) := HM2.out.rdr
        refine wp_region_ordX (rb :: (Value.slice da (k + 1) dc).ownBlock.toList) 7 [(0, true), (1, true), (2, true), (3, false), (4, false), (5, false), (6, true)] (by kernel_rfl) (by kernel_rfl) (by kernel_rfl) (by kernel_rfl) ?_
        repeat (first | ((refine wpOX_F rfl (by rfl) (fun w' hL => exec_load rfl rfl (e0 w' hL)) ?_); try simp only [Act.put, List.setIfInBounds_toArray, List.set_cons_zero, List.set_cons_succ]) | (refine wpOX_F (v := ?_) rfl (by rfl) (fun w' hL => ?_) ?_; rotate_left; (solve | (go_simp; with_reducible rfl) | go_simp); try simp only [Act.put, List.setIfInBounds_toArray, List.set_cons_zero, List.set_cons_succ]) | (refine wpOX_G (Chg.refl _) rfl (by rfl) ?_; try simp only [Act.put, List.setIfInBounds_toArray, List.set_cons_zero, List.set_cons_succ]))
        refine wpOX_C rfl (by rfl) ?_
        go_simp
        refine (HN4.out _ HRV.out).mono ?_
        rintro e x1 ⟨rfl, hR3, hC3⟩
        refine ⟨hC3.sub (by simp), ?_⟩
        try simp only [Act.put, List.setIfInBounds_toArray, List.set_cons_zero, List.set_cons_succ]
        refine wpOX_C rfl (by rfl) ?_
        go_simp
        refine ⟨(Chg.refl _ _).alloc _, ?_⟩
        try simp only [Act.put, List.setIfInBounds_toArray, List.set_cons_zero, List.set_cons_succ]
        have hM1 := HM2.out.rdr_step hC3 hR3
        refine wpOX_C rfl (by rfl) ?_
        refine wp_appC (.tmp 32) (.tmp 35) 24 rfl w.heap.size 3 iI (.int .i64 0) 1 8 Try.underlying24 hiI hzI rfl hsI (by omega) hbI (by omega) (.slice da (k + 1) dc) (k + 1) _ [.int .i64 (pg : Int)] x1 hM1.kids rfl _ rfl rfl (by simp [Value.oneCell']) rfl (by omega) (by have := hM1.node.lt; omega) ?_
        intro dv' x2 hk2 hc2 hsz2
        refine ⟨hc2.sub (fun g hg => List.mem_cons_of_mem _ hg), ?_⟩
        try simp only [Act.put, List.setIfInBounds_toArray, List.set_cons_zero, List.set_cons_succ]
        obtain ⟨hnode, hM3⟩ := hM1.add_kid hk2 hc2
        obtain ⟨da2, dc2, rfl, hdc2, hdm2, _⟩ := own_slice hk2
        have p1 : x2.cell? ⟨nb, 3, none⟩ = some (.slice da (k + 1) dc) := (hnode.cell 3).trans rfl
        have pf := hnode.frozen 3
        have pl := hnode.lt
        have HNew : Hid (InInv w (x2.setCell ⟨nb, 3, none⟩ (.slice da2 (k + 1 + 1) dc2)) nb rb s kid (k + 1) at4 ok4 (.slice ka2 (k + 1) kc2) (.slice da2 (k + 1 + 1) dc2) (l ++ [⟨key, 0, ⟨#[]⟩, (pg : Int)⟩])) := by
          refine ⟨?_, HSt.out, ?_, hkidlt⟩
          · have e1 : cellsS (List.map Pt.key (l ++ [⟨key, 0, ⟨#[]⟩, (pg : Int)⟩])) = cellsS (l.map Pt.key) ++ [.string key] := by rw [List.map_append]; exact cellsOf_snoc _ _ _
            have e2 : cellsI ((kid : Int) :: List.map Pt.page (l ++ [⟨key, 0, ⟨#[]⟩, (pg : Int)⟩])) = cellsI ((kid : Int) :: l.map Pt.page) ++ [.int .i64 (pg : Int)] := by rw [List.map_append, ← List.cons_append]; exact cellsOf_snoc _ _ _
            rw [e1, e2]
            exact hM3
          · intro q hq
            rcases List.mem_append.1 hq with hq | hq
            · exact HFair.out q hq
            · simp only [List.mem_singleton] at hq
              subst hq
              exact ⟨by simp only; omega, by simp only; omega⟩
        have HL6 : Hid (lackOf (x2.setCell ⟨nb, 3, none⟩ (.slice da2 (k + 1 + 1) dc2)) nb count = count - (k + 1)) := by
          show lackOf _ _ _ = _
          unfold lackOf
          rw [(HNew.out.mid.node.cell 1).trans rfl]
          rfl
        clear hM3 hnode hM1 hR3 hC3 hk2 hc2 HM2 HN4 HRV hsz2
        repeat (first | ((refine wpOX_F rfl (by rfl) (fun w' hL => exec_load rfl rfl (e0 w' hL)) ?_); try simp only [Act.put, List.setIfInBounds_toArray, List.set_cons_zero, List.set_cons_succ]) | (refine wpOX_F (v := ?_) rfl (by rfl) (fun w' hL => ?_) ?_; rotate_left; (solve | (go_simp; with_reducible rfl) | go_simp); try simp only [Act.put, List.setIfInBounds_toArray, List.set_cons_zero, List.set_cons_succ]) | (refine wpOX_G (Chg.refl _) rfl (by rfl) ?_; try simp only [Act.put, List.setIfInBounds_toArray, List.set_cons_zero, List.set_cons_succ]))
        refine wpOX_end rfl (by rfl) ?_
        go_simp
        simp only [NoPanic]
        clear e0 p1 pf pl hnbS
        go_roundw
        case rel => (repeat apply Exists.intro); exact ⟨⟨k + 1, at4, ok4, _, _, _, by omega, HNew⟩, rfl⟩
        case measure => rw [HL6.out, HLack.out]; omega
    · have q1 : decide ((k : Int) < (count : Int)) = false := by first | (simp; done) | (simp; omega)
      have HEx := Lib.hid (in_exit HI.out hk hcount (fun _ => by omega))
      have m0 : wr.cell? ⟨w.heap.size, 0, none⟩ = some (.bool false) := (hb0.cell 0).trans rfl
      have m1 : wr.cell? ⟨w.heap.size, 1, none⟩ = some (.slice none 0 0) := (hb0.cell 1).trans rfl
      have m2 : wr.cell? ⟨w.heap.size, 2, none⟩ = some (.slice none 0 0) := (hb0.cell 2).trans rfl
      have m3 : wr.cell? ⟨w.heap.size, 3, none⟩ = some (.slice none 0 0) := (hb0.cell 3).trans rfl
      have f0 := hb0.frozen 0
      have f1 := hb0.frozen 1
      have f2 := hb0.frozen 2
      have f3 := hb0.frozen 3
      have hblt := hb0.lt
      clear hlack
      go_wp2
      refine bodyPost_ret (v := .agg #[.bool false, .slice ka k kc, .slice none 0 0, .slice da (k + 1) dc]) (by simp [results, Try.results40, go_sem, m0, m1, m2, m3, hblt]) rfl (HEx.out _ _ _ _)
end Go.Proofs.Ytlcphgomhhejbaa

/- The walk of the reader's endsInZeros. -/
namespace Go.Proofs.Ytlcphgomhhejbaa
open Go.RowKit

set_option maxRecDepth 100000 in
set_option maxHeartbeats 1000000 in
theorem zeros_any (rb : Nat) (s : ByteArray) (at_ : Nat) (ok : Bool) (w : World) (h : Rdr w rb s at_ ok) (hat : at_ ≤ s.size) (hs : s.size ≤ 1000000) :
    Calls Try.prog 41 #[.pointer (some ⟨rb, 0, none⟩)] w fun e w' => e = .returned (.bool (((bytesOf s).drop at_).all (· == 0))) ∧ Below w.heap.size w w' := by
  have hlt := h.lt
  have e0 : ∀ W, Later w.drew W → W.cell? ⟨rb, 0, none⟩ = some (.string s) := fun W hW => (((Below.refl _ _).drew.trans hW : Below w.heap.size w W).cell (p := ⟨rb, 0, none⟩) hlt).trans ((h.cell 0).trans rfl)
  have e1 : ∀ W, Later w.drew W → W.cell? ⟨rb, 1, none⟩ = some (.int .i64 (at_ : Int)) := fun W hW => (((Below.refl _ _).drew.trans hW : Below w.heap.size w W).cell (p := ⟨rb, 1, none⟩) hlt).trans ((h.cell 1).trans rfl)
  obtain ⟨t, ht⟩ : ∃ t, t = s.extract at_ (at_ + (s.size - at_)) := ⟨_, rfl⟩
  have hcut : t = strN ((bytesOf s).drop at_) := by
    rw [ht, extract_cut s at_ (s.size - at_) (by omega)]
    unfold cutL
    rw [List.take_of_length_le (by rw [List.length_drop, bytesOf_len]; omega)]
  have hsl : ∀ W, (Instr.slice 9 (.string s) (some (.int .i64 (at_ : Int))) none none).run Try.prog W = .ok (.string t) W := by
    intro W
    rw [run_slice_string_l W 9 s Try.underlying9 .i64 (at_ : Int) (by omega) (by omega), ht]
    congr 3
    omega
  have hbt : bytesOf t = (bytesOf s).drop at_ := by
    rw [hcut, bytesOf_strB]
    intro c hc
    exact bytesOf_lt s c (List.mem_of_mem_drop hc)
  rw [← hbt]
  have hts : t.size ≤ 1000000 := by rw [← bytesOf_len, hbt, List.length_drop, bytesOf_len]; omega
  clear hbt hcut ht h hlt
  obtain ⟨W1, cap, hcv, hb1, hsz1, hcell⟩ := conv_bytes t w.drew
  have HC := Lib.hid hcell
  have HZ := Lib.hid hsz1
  clear hcell hsz1
  go_enter Try.func41, Try.ntmps41
  go_wp2_with fail
  refine wp_region_ord [(0, true), (1, true), (2, true), (3, true), (4, true), (5, true), (6, true), (7, true), (8, true), (11, true), (9, false), (10, true)] (by kernel_rfl) (by kernel_rfl) (by kernel_rfl) (by kernel_rfl) ?_
  repeat (first | (refine wpO_F (v := ?_) rfl (by rfl) (fun w' hL => ?_) ?_; rotate_left; (solve | (go_simp; with_reducible rfl) | go_simp); try simp only [Act.put, List.setIfInBounds_toArray, List.set_cons_zero, List.set_cons_succ]) | (refine wpO_G rfl (by rfl) ?_; try simp only [Act.put, List.setIfInBounds_toArray, List.set_cons_zero, List.set_cons_succ]))
  refine wpO_C rfl (by rfl) ?_
  go_simp
  refine ⟨hb1, ?_⟩
  try simp only [Act.put, List.setIfInBounds_toArray, List.set_cons_zero, List.set_cons_succ]
  repeat (first | (refine wpO_F (v := ?_) rfl (by rfl) (fun w' hL => ?_) ?_; rotate_left; (solve | (go_simp; with_reducible rfl) | go_simp); try simp only [Act.put, List.setIfInBounds_toArray, List.set_cons_zero, List.set_cons_succ]) | (refine wpO_G rfl (by rfl) ?_; try simp only [Act.put, List.setIfInBounds_toArray, List.set_cons_zero, List.set_cons_succ]))
  refine wpO_nil ?_
  clear e0 e1 hsl hcv
  have hbw : Below w.heap.size w W1 := Below.trans (Below.refl _ _).drew hb1
  clear hb1
  have hz : w.heap.size < W1.heap.size := by have := HZ.out; simp at this; omega
  have HL := Lib.hid (bytesOf_len t)
  clear HZ
  go_wp2_with fail
  go_loop [16] (fun i => ∃ k : Nat, k ≤ t.size ∧ i = .int .i64 k ∧ Hid (((bytesOf t).take k).all (· == 0) = true)) (fun i => t.size - (intOf i).toNat)
  case atStart => exact ⟨0, by omega, rfl, by simp [Hid]⟩
  case round =>
    obtain ⟨k, hk, rfl, HI⟩ := hrel
    by_cases hlt : k < t.size
    · have hkB : k < (bytesOf t).length := by have := HL.out; omega
      have hc : W1.cell? ⟨w.heap.size, 0 + k, none⟩ = some (.int .u8 ((bytesOf t)[k] : Int)) := by rw [Nat.zero_add]; exact HC.out k hkB
      have hc2 : W1.cell? ⟨w.heap.size, k, none⟩ = some (.int .u8 ((bytesOf t)[k] : Int)) := HC.out k hkB
      have HT : Hid ((bytesOf t)[k] = 0 → ((bytesOf t).take (k + 1)).all (· == 0) = true) := by
        intro h0
        rw [List.take_succ_eq_append_getElem hkB, List.all_append, HI.out, h0]; rfl
      have HF : Hid ((bytesOf t)[k] ≠ 0 → (bytesOf t).all (· == 0) = false) := by
        intro h0
        rw [List.all_eq_false]
        exact ⟨(bytesOf t)[k], List.getElem_mem hkB, by simpa using h0⟩
      obtain ⟨c, hcc⟩ : ∃ c, (bytesOf t)[k] = c := ⟨_, rfl⟩
      rw [hcc] at hc hc2 HT HF
      clear hcc
      by_cases h0 : c = 0
      · subst h0
        have HT2 := Lib.hid (HT.out rfl)
        clear HT HF
        go_wp2
        go_round
        case rel => exact ⟨k + 1, by omega, by go_num, HT2⟩
        case measure => simp [intOf]; omega
      · have HF2 := Lib.hid (HF.out h0)
        have q : ((c : Int) != 0) = true := by simp; omega
        clear HT HF
        go_wp2
        go_ret
        exact ⟨ret_b HF2.out.symm, hbw⟩
    · have HA : Hid ((bytesOf t).all (· == 0) = true) := by
        have := HI.out
        rw [List.take_of_length_le (by have := HL.out; omega)] at this
        exact this
      go_wp2
      go_ret
      exact ⟨ret_b HA.out.symm, hbw⟩
end Go.Proofs.Ytlcphgomhhejbaa
