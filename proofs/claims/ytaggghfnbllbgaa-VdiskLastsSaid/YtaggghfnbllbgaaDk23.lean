/- VdiskLasts: the rows of bytes that wait, in memory. -/
import Derived.Test.YtaggghfnbllbgaaDk22
import Derived.Test.YtaggghfnbllbgaaDk21
import Derived.Deep.AppendLies
namespace Go.Proofs.Ytaggghfnbllbgaa
set_option linter.unusedSimpArgs false
open Go.RowKit

theorem OwnK.grow {w0 w w' : World} {B : Nat} {d : DS} {K K' T : List Nat} (h : OwnK w0 w B d K) (hc : Chg T w w') (hT : ∀ k ∈ T, k ∈ K) (hK : ∀ k ∈ K', k ∈ K ∨ (w.heap.size ≤ k ∧ k < w'.heap.size)) : OwnK w0 w' B d K' := by
  obtain ⟨h1, S, h2, h3, h4⟩ := h
  refine ⟨h1.trans (hc.below h1.size (fun k hk => (h4 k (hT k hk)).2.2)), S, h2.chg hc (fun k hk hm => (h4 k (hT k hm)).1 hk), h3, fun k hk => ?_⟩
  rcases hK k hk with hk | ⟨hk1, hk2⟩
  · exact ⟨(h4 k hk).1, Nat.lt_of_lt_of_le (h4 k hk).2.1 hc.size, (h4 k hk).2.2⟩
  · exact ⟨fun hm => absurd (h2.lt _ hm) (by omega), hk2, Nat.le_trans h1.size hk1⟩

def rowsL (V : Nat → Nat → Value) : List Nat := [V 0 0, V 0 1, V 0 2, V 0 3, V 1 0, V 1 1, V 1 2, V 1 3].filterMap Value.ownBlock
def waitA (V : Nat → Nat → Value) : Array Value := #[V 0 0, V 0 1, V 0 2, V 0 3, V 1 0, V 1 1, V 1 2, V 1 3]
def updV (V : Nat → Nat → Value) (f s : Nat) (v : Value) : Nat → Nat → Value := fun g t => if g = f ∧ t = s then v else V g t
def updW (W : Nat → Nat → List Nat) (f s : Nat) (l : List Nat) : Nat → Nat → List Nat := fun g t => if g = f ∧ t = s then l else W g t

theorem mem_rowsL {V : Nat → Nat → Value} {k : Nat} : k ∈ rowsL V ↔ ∃ f s, f < 2 ∧ s < 4 ∧ (V f s).ownBlock = some k := by
  unfold rowsL
  rw [List.mem_filterMap]
  constructor
  · rintro ⟨v, hv, hk⟩
    simp only [List.mem_cons, List.not_mem_nil, or_false] at hv
    rcases hv with rfl | rfl | rfl | rfl | rfl | rfl | rfl | rfl
    · exact ⟨0, 0, by omega, by omega, hk⟩
    · exact ⟨0, 1, by omega, by omega, hk⟩
    · exact ⟨0, 2, by omega, by omega, hk⟩
    · exact ⟨0, 3, by omega, by omega, hk⟩
    · exact ⟨1, 0, by omega, by omega, hk⟩
    · exact ⟨1, 1, by omega, by omega, hk⟩
    · exact ⟨1, 2, by omega, by omega, hk⟩
    · exact ⟨1, 3, by omega, by omega, hk⟩
  · rintro ⟨f, s, hf, hs, hk⟩
    refine ⟨V f s, ?_, hk⟩
    match f, hf, s, hs with
    | 0, _, 0, _ => simp
    | 0, _, 1, _ => simp
    | 0, _, 2, _ => simp
    | 0, _, 3, _ => simp
    | 1, _, 0, _ => simp
    | 1, _, 1, _ => simp
    | 1, _, 2, _ => simp
    | 1, _, 3, _ => simp
theorem waitA_get (V : Nat → Nat → Value) (f s : Nat) (hf : f < 2) (hs : s < 4) : (waitA V)[f * 4 + s]? = some (V f s) := by
  match f, hf, s, hs with
  | 0, _, 0, _ => rfl
  | 0, _, 1, _ => rfl
  | 0, _, 2, _ => rfl
  | 0, _, 3, _ => rfl
  | 1, _, 0, _ => rfl
  | 1, _, 1, _ => rfl
  | 1, _, 2, _ => rfl
  | 1, _, 3, _ => rfl
theorem waitA_set (V : Nat → Nat → Value) (f s : Nat) (v : Value) (hf : f < 2) (hs : s < 4) : (waitA V).setIfInBounds (f * 4 + s) v = waitA (updV V f s v) := by
  match f, hf, s, hs with
  | 0, _, 0, _ => rfl
  | 0, _, 1, _ => rfl
  | 0, _, 2, _ => rfl
  | 0, _, 3, _ => rfl
  | 1, _, 0, _ => rfl
  | 1, _, 1, _ => rfl
  | 1, _, 2, _ => rfl
  | 1, _, 3, _ => rfl

/-- The rows of bytes. -/
structure RowsI (w : World) (WB : Nat) (V : Nat → Nat → Value) (W : Nat → Nat → List Nat) : Prop where
  wb : Blk w WB 58 (waitA V)
  rows : ∀ f s, f < 2 → s < 4 → w.ownsRow 0 5 1 (V f s) (W f s).length (cellsB (W f s))
  apart : ∀ f s g t, f < 2 → s < 4 → g < 2 → t < 4 → ¬ (f = g ∧ s = t) → ∀ k, (V f s).ownBlock = some k → (V g t).ownBlock ≠ some k
  byte : ∀ f s, f < 2 → s < 4 → ∀ c ∈ W f s, c < 256

/-- All that the law keeps. -/
structure LastM (w0 w : World) (B SB WB : Nat) (d : DS) (sure : Nat → Nat → Nat) (V : Nat → Nat → Value) (W : Nat → Nat → List Nat) : Prop where
  own : OwnK w0 w B d (WB :: SB :: rowsL V)
  sb : Blk w SB 56 (showA sure)
  ri : RowsI w WB V W

section
variable {w0 w w' : World} {B SB WB : Nat} {d d' : DS} {sure : Nat → Nat → Nat} {V : Nat → Nat → Value} {W : Nat → Nat → List Nat}
theorem RowsI.keep (h : RowsI w WB V W) {K : List Nat} (hk : Keep K w w') (hW : WB ∈ K) (hR : ∀ k ∈ rowsL V, k ∈ K) : RowsI w' WB V W :=
  ⟨hk.blk h.wb hW, fun f s hf hs => own_keep (h.rows f s hf hs) (fun g hg => hk.2 g (hR g (mem_rowsL.2 ⟨f, s, hf, hs, hg⟩))), h.apart, h.byte⟩
theorem LastM.disk (h : LastM w0 w B SB WB d sure V W) (ho : OwnK w0 w' B d' (WB :: SB :: rowsL V)) (hk : Keep (WB :: SB :: rowsL V) w w') : LastM w0 w' B SB WB d' sure V W :=
  ⟨ho, hk.blk h.sb (by simp), h.ri.keep hk (by simp) (fun k hk => by simp [hk])⟩
theorem LastM.below (h : LastM w0 w B SB WB d sure V W) (hb : Below w.heap.size w w') : LastM w0 w' B SB WB d sure V W := h.disk (h.own.below hb) (h.own.keep hb)
theorem LastM.ge (h : LastM w0 w B SB WB d sure V W) {k : Nat} (hk : k ∈ WB :: SB :: rowsL V) : w0.heap.size ≤ k ∧ k < w.heap.size := by
  obtain ⟨_, S, _, _, h4⟩ := h.own
  exact ⟨(h4 k hk).2.2, (h4 k hk).2.1⟩
theorem LastM.ne (h : LastM w0 w B SB WB d sure V W) : SB ≠ WB := h.sb.ne_ h.ri.wb (by decide)
theorem LastM.noWB (h : LastM w0 w B SB WB d sure V W) {f s : Nat} (hf : f < 2) (hs : s < 4) : (V f s).ownBlock ≠ some WB := own_ne (h.ri.rows f s hf hs) h.ri.wb (by decide)
theorem LastM.noSB (h : LastM w0 w B SB WB d sure V W) {f s : Nat} (hf : f < 2) (hs : s < 4) : (V f s).ownBlock ≠ some SB := own_ne (h.ri.rows f s hf hs) h.sb (by decide)

/-- Behind the store of a byte that is sure. -/
theorem LastM.setSure (h : LastM w0 w B SB WB d sure V W) (f s c : Nat) (hf : f < 2) (hs : s < 4) : LastM w0 (w.setCell ⟨SB, f * 4 + s, none⟩ (.int .u8 (c : Int))) B SB WB d (updS sure f s c) V W := by
  have hc : Chg [SB] w (w.setCell ⟨SB, f * 4 + s, none⟩ (.int .u8 (c : Int))) := (Chg.refl _ _).setCell (.inl (by simp)) _
  refine ⟨h.own.set_ (by simp) _ _, ?_, ⟨h.ri.wb.far (fun e => h.ne e.symm) _, fun g t hg ht => own_chg (h.ri.rows g t hg ht) hc (fun k hk => ?_), h.ri.apart, h.ri.byte⟩⟩
  · have := h.sb.set_ (f * 4 + s) (.int .u8 (c : Int))
    rw [showA_set sure f s c hf hs] at this
    exact this
  · simp only [List.mem_singleton]
    rintro rfl
    exact h.noSB hg ht hk

/-- Behind the store of a row that is known. -/
theorem LastM.setRow (h : LastM w0 w B SB WB d sure V W) (f s : Nat) (v : Value) (l : List Nat) (hf : f < 2) (hs : s < 4) (hl : ∀ c ∈ l, c < 256) (hr : w.ownsRow 0 5 1 v l.length (cellsB l))
    (hv : v.ownBlock = none ∨ v.ownBlock = (V f s).ownBlock) : LastM w0 (w.setCell ⟨WB, f * 4 + s, none⟩ v) B SB WB d sure (updV V f s v) (updW W f s l) := by
  have hc : Chg [WB] w (w.setCell ⟨WB, f * 4 + s, none⟩ v) := (Chg.refl _ _).setCell (.inl (by simp)) _
  have hown : ∀ g t k, g < 2 → t < 4 → (updV V f s v g t).ownBlock = some k → (V g t).ownBlock = some k := by
    intro g t k hg ht hk
    unfold updV at hk
    by_cases e : g = f ∧ t = s
    · rw [if_pos e] at hk
      rcases hv with hv | hv
      · rw [hv] at hk; cases hk
      · rw [e.1, e.2, ← hv]; exact hk
    · rw [if_neg e] at hk; exact hk
  refine ⟨h.own.grow hc (by simp) (fun k hk => .inl ?_), h.sb.far h.ne _, ⟨?_, fun g t hg ht => ?_, fun g t g' t' hg ht hg' ht' hne k hk => ?_, fun g t hg ht => ?_⟩⟩
  · simp only [List.mem_cons] at hk ⊢
    rcases hk with hk | hk | hk
    · exact .inl hk
    · exact .inr (.inl hk)
    · obtain ⟨g, t, hg, ht, hk⟩ := mem_rowsL.1 hk
      exact .inr (.inr (mem_rowsL.2 ⟨g, t, hg, ht, hown g t k hg ht hk⟩))
  · have := h.ri.wb.set_ (f * 4 + s) v
    rw [waitA_set V f s v hf hs] at this
    exact this
  · unfold updV updW
    by_cases e : g = f ∧ t = s
    · rw [if_pos e, if_pos e]
      refine own_chg hr hc (fun k hk => ?_)
      have : (V f s).ownBlock = some k := by
        rcases hv with hv | hv
        · rw [hv] at hk; cases hk
        · rw [← hv]; exact hk
      simp only [List.mem_singleton]
      rintro rfl
      exact h.noWB hf hs this
    · rw [if_neg e, if_neg e]
      refine own_chg (h.ri.rows g t hg ht) hc (fun k hk => ?_)
      simp only [List.mem_singleton]
      rintro rfl
      exact h.noWB hg ht hk
  · intro hk'
    exact h.ri.apart g t g' t' hg ht hg' ht' hne k (hown g t k hg ht hk) (hown g' t' k hg' ht' hk')
  · unfold updW
    split
    · exact hl
    · exact h.ri.byte g t hg ht

/-- Behind the append of a byte, ahead of the store. -/
theorem LastM.app (h : LastM w0 w B SB WB d sure V W) (f s c : Nat) (hf : f < 2) (hs : s < 4) (hc : c < 256) {w5 w6 : World} (h5 : Chg [] w w5) {g cap n : Nat} (hn : n = (W f s).length + 1)
    (hown : w6.ownsRow 0 5 1 (.slice (some ⟨g, 0, none⟩) n cap) n (cellsB (W f s ++ [c]))) (hgr : w5.grownBy w6 (V f s).ownBlock) (hlies : (V f s).ownBlock = some g ∨ g = w5.heap.size) (hlt : g < w6.heap.size) :
    LastM w0 (w6.setCell ⟨WB, f * 4 + s, none⟩ (.slice (some ⟨g, 0, none⟩) n cap)) B SB WB d sure (updV V f s (.slice (some ⟨g, 0, none⟩) n cap)) (updW W f s (W f s ++ [c])) := by
  have hob : (Value.slice (some ⟨g, 0, none⟩) n cap).ownBlock = some g := rfl
  -- the world ahead of the store, with the new row in its place
  have hcg : Chg (V f s).ownBlock.toList w w6 := (h5.sub (by simp)).trans ⟨hgr.os, hgr.tape, hgr.output, hgr.size, fun k hk hn => hgr.block k hk (fun e => hn (by rw [← e]; simp))⟩
  have hsz5 : w.heap.size ≤ w5.heap.size := h5.size
  have hin : ∀ k ∈ (V f s).ownBlock.toList, k ∈ WB :: SB :: rowsL V := fun k hk => by
    simp only [List.mem_cons]
    exact .inr (.inr (mem_rowsL.2 ⟨f, s, hf, hs, by simpa using hk⟩))
  have hfre : ∀ k, (V f s).ownBlock = some k → g = k ∨ w.heap.size ≤ g := fun k hk => by
    rcases hlies with hl | hl
    · rw [hl] at hk; exact .inl (Option.some.inj hk)
    · exact .inr (by omega)
  have hgK : (V f s).ownBlock = some g ∨ w.heap.size ≤ g := by
    rcases hlies with hl | hl
    · exact .inl hl
    · exact .inr (by omega)
  have hoth : ∀ g' t', g' < 2 → t' < 4 → ¬ (g' = f ∧ t' = s) → ∀ k, (V g' t').ownBlock = some k → k ∉ (V f s).ownBlock.toList ∧ k ≠ g := fun g' t' hg' ht' hne k hk => by
    have h1 : k ∉ (V f s).ownBlock.toList := fun hm => h.ri.apart g' t' f s hg' ht' hf hs hne k hk (by simpa using hm)
    refine ⟨h1, ?_⟩
    rintro rfl
    rcases hgK with hl | hl
    · exact h1 (by simp [hl])
    · have := (h.ge (k := k) (by simp only [List.mem_cons]; exact .inr (.inr (mem_rowsL.2 ⟨g', t', hg', ht', hk⟩)))).2
      omega
  have hWBn : WB ∉ (V f s).ownBlock.toList := fun hm => h.noWB hf hs (by simpa using hm)
  have hSBn : SB ∉ (V f s).ownBlock.toList := fun hm => h.noSB hf hs (by simpa using hm)
  have hwb6 := h.ri.wb.chg hcg hWBn
  have hsb6 := h.sb.chg hcg hSBn
  have hgWB : g ≠ WB := fun e => own_ne hown hwb6 (by decide) (by rw [hob, e])
  have hset : Chg [WB] w6 (w6.setCell ⟨WB, f * 4 + s, none⟩ (.slice (some ⟨g, 0, none⟩) n cap)) := (Chg.refl _ _).setCell (.inl (by simp)) _
  have hsz6 : (w6.setCell ⟨WB, f * 4 + s, none⟩ (.slice (some ⟨g, 0, none⟩) n cap)).heap.size = w6.heap.size := by simp [World.setCell]
  have hall : Chg (WB :: (V f s).ownBlock.toList) w (w6.setCell ⟨WB, f * 4 + s, none⟩ (.slice (some ⟨g, 0, none⟩) n cap)) := (hcg.sub (fun k hk => by simp [hk])).trans (hset.sub (by simp))
  refine ⟨h.own.grow hall (fun k hk => ?_) (fun k hk => ?_), hsb6.far h.ne _, ⟨?_, fun g' t' hg' ht' => ?_, fun g1 t1 g2 t2 hg1 ht1 hg2 ht2 hne k hk => ?_, fun g' t' hg' ht' => ?_⟩⟩
  · rcases List.mem_cons.1 hk with rfl | hk
    · simp
    · exact hin k hk
  · rw [hsz6]
    simp only [List.mem_cons] at hk ⊢
    rcases hk with hk | hk | hk
    · exact .inl (.inl hk)
    · exact .inl (.inr (.inl hk))
    · obtain ⟨g', t', hg', ht', hk⟩ := mem_rowsL.1 hk
      unfold updV at hk
      by_cases e : g' = f ∧ t' = s
      · rw [if_pos e, hob] at hk
        obtain rfl := Option.some.inj hk
        rcases hgK with hl | hl
        · exact .inl (.inr (.inr (mem_rowsL.2 ⟨f, s, hf, hs, hl⟩)))
        · exact .inr ⟨hl, hlt⟩
      · rw [if_neg e] at hk
        exact .inl (.inr (.inr (mem_rowsL.2 ⟨g', t', hg', ht', hk⟩)))
  · have := hwb6.set_ (f * 4 + s) (.slice (some ⟨g, 0, none⟩) n cap)
    rw [waitA_set V f s _ hf hs] at this
    exact this
  · unfold updV updW
    by_cases e : g' = f ∧ t' = s
    · rw [if_pos e, if_pos e]
      have : w6.ownsRow 0 5 1 (.slice (some ⟨g, 0, none⟩) n cap) (W f s ++ [c]).length (cellsB (W f s ++ [c])) := by
        rw [List.length_append]; simp only [List.length_singleton]; rw [← hn]; exact hown
      refine own_chg this hset (fun k hk => ?_)
      rw [hob] at hk
      obtain rfl := Option.some.inj hk
      simpa using hgWB
    · rw [if_neg e, if_neg e]
      refine own_chg (own_chg (h.ri.rows g' t' hg' ht') hcg (fun k hk => (hoth g' t' hg' ht' e k hk).1)) hset (fun k hk => ?_)
      simp only [List.mem_singleton]
      rintro rfl
      exact h.noWB hg' ht' hk
  · unfold updV at hk ⊢
    by_cases e1 : g1 = f ∧ t1 = s
    · rw [if_pos e1, hob] at hk
      obtain rfl := Option.some.inj hk
      have e2 : ¬ (g2 = f ∧ t2 = s) := fun e2 => hne ⟨e1.1.trans e2.1.symm, e1.2.trans e2.2.symm⟩
      rw [if_neg e2]
      intro hk2
      exact (hoth g2 t2 hg2 ht2 e2 _ hk2).2 rfl
    · rw [if_neg e1] at hk
      by_cases e2 : g2 = f ∧ t2 = s
      · rw [if_pos e2, hob]
        intro hk2
        exact (hoth g1 t1 hg1 ht1 e1 k hk).2 (Option.some.inj hk2).symm
      · rw [if_neg e2]
        exact h.ri.apart g1 t1 g2 t2 hg1 ht1 hg2 ht2 hne k hk
  · unfold updW
    split
    · intro x hx
      rcases List.mem_append.1 hx with hx | hx
      · exact h.ri.byte f s hf hs x hx
      · obtain rfl := List.mem_singleton.1 hx; exact hc
    · exact h.ri.byte g' t' hg' ht'
end
end Go.Proofs.Ytaggghfnbllbgaa
