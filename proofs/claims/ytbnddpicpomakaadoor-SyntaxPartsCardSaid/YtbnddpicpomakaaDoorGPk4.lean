/- Several texts of one proof, one behind the other. -/
import Derived.Test.YtbnddpicpomakaaDoorGPk3
import Derived.Laws.StructEq
import Derived.Lib.Hide
set_option linter.unusedSimpArgs false
set_option linter.unusedVariables false

/- The walks of runes.Fold, runes.Name and of the reference's. -/
set_option linter.unusedSimpArgs false
set_option linter.unusedVariables false
set_option maxRecDepth 100000
namespace Go.Proofs.YtbnddpicpomakaaDoor
set_option linter.unusedSimpArgs false
open Go.RowKit

def foldC (c : Nat) : Nat := if 65 ≤ c ∧ c ≤ 90 then c + 32 else c
def foldS (s : ByteArray) : ByteArray := strN ((bytesU s).map foldC)

theorem foldC_lt {c : Nat} (h : c < 256) : foldC c < 256 := by unfold foldC; split <;> omega

theorem conv_bytesU (s : ByteArray) (w : World) : ∃ W1 cap, (convert 9 80 (.string s)).run Tryd.prog w = .ok (.slice (some ⟨w.heap.size, 0, none⟩) s.size cap) W1 ∧ Below w.heap.size w W1 ∧ W1.heap.size = w.heap.size + 1 ∧
    ∀ (j : Nat), j < s.size → W1.cell? ⟨w.heap.size, j, none⟩ = some (.int .u8 (byteN s j : Int)) ∧ W1.frozen? ⟨w.heap.size, j, none⟩ = false := by
  refine ⟨_, _, Lib.run_convert_string_bytes w 9 80 5 s Tryd.underlying9 Tryd.underlying80 Tryd.underlying5, ⟨rfl, rfl, rfl, ?_, fun k hk => Lib.bytesWorld_at_old w _ s k hk⟩, Lib.bytesWorld_size w _ s, ?_⟩
  · rw [Lib.bytesWorld_size]; omega
  · intro j hj
    refine ⟨?_, ?_⟩
    · rw [Lib.bytesWorld_cell w _ s j hj]
      have : byteN s j = (s.data.toList.getD j 0).toNat := by
        unfold byteN bytesU
        rw [getD_map]
      rw [this]
    · unfold World.frozen?
      simp only [Lib.bytesWorld_at_new]
      have : j < (Lib.bytesCells w 5 s).size := by
        simp only [Lib.bytesCells, Array.size_append]
        simp
        have : s.data.size = s.size := rfl
        omega
      simp
      omega

/-- The row in block G while the first k bytes are folded. -/
def FoldAt (w : World) (G n k : Nat) (s : ByteArray) : Prop := ∀ j, j < n → w.cell? ⟨G, j, none⟩ = some (.int .u8 ((if j < k then foldC (byteN s j) else byteN s j : Nat) : Int)) ∧ w.frozen? ⟨G, j, none⟩ = false

theorem FoldAt.keep {w : World} {G n k : Nat} {s : ByteArray} (h : FoldAt w G n k s) (hf : foldC (byteN s k) = byteN s k) : FoldAt w G n (k + 1) s := by
  intro j hj
  refine ⟨?_, (h j hj).2⟩
  rw [(h j hj).1]
  by_cases h1 : j < k
  · rw [if_pos h1, if_pos (by omega)]
  · by_cases h2 : j = k
    · subst h2; rw [if_neg (by omega), if_pos (by omega), hf]
    · rw [if_neg h1, if_neg (by omega)]

theorem FoldAt.set {w : World} {G n k : Nat} {s : ByteArray} (h : FoldAt w G n k s) (hk : k < n) (v : Int) (hv : v = (foldC (byteN s k) : Int)) : FoldAt (w.setCell ⟨G, k, none⟩ (.int .u8 v)) G n (k + 1) s := by
  subst hv
  intro j hj
  refine ⟨?_, by rw [World.frozen?_setCell]; exact (h j hj).2⟩
  by_cases h2 : j = k
  · subst h2
    rw [World.cell?_setCell_same _ _ _ (h j hj).1, if_pos (by omega)]
  · rw [World.cell?_setCell_other _ _ _ _ (by simp [Ne.symm h2]), (h j hj).1]
    by_cases h1 : j < k
    · rw [if_pos h1, if_pos (by omega)]
    · rw [if_neg h1, if_neg (by omega)]

theorem FoldAt.bs {w : World} {G n : Nat} {s : ByteArray} (h : FoldAt w G n n s) (hn : n = s.size) (hG : G < w.heap.size) : Bs w.heap.size w (some ⟨G, 0, none⟩) ((bytesU s).map foldC) := by
  refine ⟨?_, .inr ⟨G, 0, rfl, hG, fun i c hi => ?_⟩⟩
  · intro c hc
    obtain ⟨d, hd, rfl⟩ := List.mem_map.1 hc
    exact foldC_lt (bytesU_lt s d hd)
  · rw [List.getElem?_map] at hi
    have hil : i < (bytesU s).length := by
      by_cases hil : i < (bytesU s).length
      · exact hil
      · rw [List.getElem?_eq_none (by omega)] at hi; simp at hi
    rw [List.getElem?_eq_getElem hil] at hi
    simp only [Option.map_some, Option.some.injEq] at hi
    rw [bytesU_len] at hil
    rw [Nat.zero_add, (h i (by omega)).1, if_pos (by omega), ← hi]
    have : byteN s i = (bytesU s)[i]'(by rw [bytesU_len]; exact hil) := by
      unfold byteN
      rw [List.getD_eq_getElem?_getD, List.getElem?_eq_getElem (by rw [bytesU_len]; exact hil)]; rfl
    rw [this]

set_option maxHeartbeats 2000000 in
theorem Fold_any (s : ByteArray) (w : World) (hs : s.size ≤ 1000000) :
    Calls Tryd.prog 97 #[.string s] w fun e w' => e = .returned (.string (foldS s)) ∧ Below w.heap.size w w' := by
  obtain ⟨W1, cap, hcv, hb1, hsz1, hcell⟩ := conv_bytesU s w
  have hF : FoldAt W1 w.heap.size s.size 0 s := fun j hj => by
    obtain ⟨h1, h2⟩ := hcell j hj
    exact ⟨by rw [h1, if_neg (by omega)], h2⟩
  have HF0 := Lib.hid hF
  have hz1 : w.heap.size < W1.heap.size := by omega
  obtain ⟨n, hn⟩ : ∃ n, n = s.size := ⟨_, rfl⟩
  have HN := Lib.hid hn
  rw [← hn] at hcv HF0
  have hn1 : n ≤ 1000000 := by omega
  clear hcell hF hsz1 hn
  go_enter Tryd.func97, Tryd.ntmps97
  go_wp2
  clear hcv
  go_loopw [10] (fun i wr => ∃ k : Nat, k ≤ n ∧ i = .int .i64 k ∧ Hid (FoldAt wr w.heap.size n k s) ∧ LaterB w.heap.size W1 wr) (fun i _ => n - (intOf i).toNat)
  case atStart => exact ⟨0, by omega, rfl, HF0.out, LaterB.refl _ _⟩
  case round =>
    obtain ⟨k, hk, rfl, HF, hlb⟩ := hrel
    have hbw : Below w.heap.size w wr := hb1.trans ⟨hlb.os, hlb.tape, hlb.output, hlb.size, fun j hj => hlb.block j (by omega) (by omega)⟩
    by_cases hlt : k < n
    · obtain ⟨hc, hfz⟩ := HF.out k hlt
      rw [if_neg (by omega)] at hc
      have hb256 : byteN s k < 256 := by unfold byteN; exact getD_lt _ (bytesU_lt s) k
      have HK := Lib.hid (fun h => HF.out.keep h)
      have HS := Lib.hid (fun v h => HF.out.set hlt v h)
      obtain ⟨c, hcc⟩ : ∃ c, byteN s k = c := ⟨_, rfl⟩
      rw [hcc] at hc hb256 HK HS
      clear hcc HF
      by_cases hcap : 65 ≤ c ∧ c ≤ 90
      · obtain ⟨h1, h2⟩ := hcap
        have q1 : decide ((65 : Int) ≤ (c : Int)) = true := by simp; omega
        have q2 : decide ((c : Int) ≤ 90) = true := by simp; omega
        have hfc : foldC c = c + 32 := by unfold foldC; rw [if_pos ⟨h1, h2⟩]
        have HFC := Lib.hid hfc
        clear hfc
        go_wp2
        go_roundw
        case rel => exact ⟨k + 1, by omega, by go_num, HS.out _ (by rw [HFC.out]; omega), hlb.trans (LaterB.setCell _)⟩
        case measure => simp [intOf]; omega
      · have hfc : foldC c = c := by unfold foldC; rw [if_neg hcap]
        have HK2 := Lib.hid (HK.out hfc)
        clear hfc HK HS
        by_cases h1 : 65 ≤ c
        · have q1 : decide ((65 : Int) ≤ (c : Int)) = true := by simp; omega
          have q2 : decide ((c : Int) ≤ 90) = false := by simp; omega
          go_wp2
          go_roundw
          case rel => exact ⟨k + 1, by omega, by go_num, HK2.out, hlb⟩
          case measure => simp [intOf]; omega
        · have q1 : decide ((65 : Int) ≤ (c : Int)) = false := by simp; omega
          go_wp2
          go_roundw
          case rel => exact ⟨k + 1, by omega, by go_num, HK2.out, hlb⟩
          case measure => simp [intOf]; omega
    · obtain rfl : k = n := by omega
      have hB := HF.out.bs HN.out (by have := hlb.size; omega)
      have hcv := hB.conv (P := Tryd.prog) 80 5 Tryd.underlying80 Tryd.underlying5 9 Tryd.underlying9 k cap (by rw [List.length_map, bytesU_len]; exact HN.out)
      have HFS : Hid (strN ((bytesU s).map foldC) = foldS s) := rfl
      rw [HFS.out] at hcv
      clear hB HF HF0
      go_wp2
      go_ret
      exact ⟨rfl, hbw⟩

theorem map_takeF (l : List Nat) (k : Nat) (hk : k < l.length) : (l.take (k + 1)).map foldC = (l.take k).map foldC ++ [foldC l[k]] := by
  rw [List.take_add_one, List.getElem?_eq_getElem hk, List.map_append]; rfl

set_option maxRecDepth 1000000 in
set_option maxHeartbeats 4000000 in
theorem rFold_any (s : ByteArray) (w : World) (hs : s.size ≤ 1000000) :
    Calls Tryd.prog 107 #[.string s] w fun e w' => e = .returned (.string (foldS s)) ∧ Below w.heap.size w w' := by
  obtain ⟨i0, hi, hz0, hz1, hz2⟩ := info_parts Tryd.info5
  go_enter Tryd.func107, Tryd.ntmps107
  go_wp2
  go_loopw [3, 4] (fun v i wr => ∃ k : Nat, k ≤ s.size ∧ i = .int .i64 k ∧ OwnB wr w.heap.size 5 v (((bytesU s).take k).map foldC) ∧ Below w.heap.size w wr) (fun _ i _ => s.size - (intOf i).toNat)
  case atStart => exact ⟨0, by omega, rfl, OwnB.nil _ _ _, Below.refl _ _⟩
  case round =>
    obtain ⟨k, hk, rfl, hown, hb⟩ := hrel
    have hsz := hb.size
    by_cases hlt : k < s.size
    · have hkl : k < (bytesU s).length := by rw [bytesU_len]; exact hlt
      have hx : (bytesU s)[k] = (s[k]'hlt).toNat := by simp [bytesU]; rfl
      have hm := map_takeF (bytesU s) k hkl
      rw [hx] at hm
      have HM := Lib.hid hm
      have hc256 := (s[k]'hlt).toNat_lt
      have hll : (((bytesU s).take k).map foldC).length < 100000000000000 := by
        have := List.length_take_le k (bytesU s)
        rw [List.length_map]; omega
      clear hx hm
      by_cases hcap : 65 ≤ (s[k]'hlt).toNat ∧ (s[k]'hlt).toNat ≤ 90
      · obtain ⟨h1, h2⟩ := hcap
        have hfc : foldC (s[k]'hlt).toNat = (s[k]'hlt).toNat + 32 := by unfold foldC; rw [if_pos ⟨h1, h2⟩]
        have HFC := Lib.hid hfc
        clear hfc
        go_wp2_with (at_builtin; refine wpList_app1 rfl _ _ 80 rfl w.heap.size 5 i0 Tryd.underlying80 hi hz0 hz1 hz2 _ _ wr hown rfl ((s[k]'hlt).toNat + 32) (by omega) _ (by push_cast; first | rfl | omega) rfl hll hsz ?_; intro v' w1 hown' hb' hsz')
        go_roundw
        case rel => exact ⟨k + 1, by omega, by go_num, by rw [HM.out, HFC.out]; exact hown', hb.trans hb'⟩
        case measure => simp [intOf]; omega
      · have hfc : foldC (s[k]'hlt).toNat = (s[k]'hlt).toNat := by unfold foldC; rw [if_neg hcap]
        have HFC := Lib.hid hfc
        have hways : (s[k]'hlt).toNat < 65 ∨ (65 ≤ (s[k]'hlt).toNat ∧ 90 < (s[k]'hlt).toNat) := by omega
        clear hfc hcap
        rcases hways with h1 | ⟨h1, h2⟩
        all_goals
          go_wp2_with (at_builtin; refine wpList_app1 rfl _ _ 80 rfl w.heap.size 5 i0 Tryd.underlying80 hi hz0 hz1 hz2 _ _ wr hown rfl (s[k]'hlt).toNat (by omega) _ rfl rfl hll hsz ?_; intro v' w1 hown' hb' hsz')
          go_roundw
          case rel => exact ⟨k + 1, by omega, by go_num, by rw [HM.out, HFC.out]; exact hown', hb.trans hb'⟩
          case measure => simp [intOf]; omega
    · have hall : (bytesU s).take k = bytesU s := List.take_of_length_le (by rw [bytesU_len]; omega)
      rw [hall] at hown
      obtain ⟨a, cap, rfl, hcap, hB, _⟩ := hown.slice
      have hcv := hB.conv (P := Tryd.prog) 80 5 Tryd.underlying80 Tryd.underlying5 9 Tryd.underlying9 _ cap rfl
      have HFS : Hid (strN ((bytesU s).map foldC) = foldS s) := rfl
      rw [HFS.out] at hcv
      obtain ⟨n, hn⟩ : ∃ n, ((bytesU s).map foldC).length = n := ⟨_, rfl⟩
      rw [hn] at hcv ⊢
      clear hB hown hall hn
      go_wp2
      go_ret
      exact ⟨rfl, hb⟩

/-- What Name answers. -/
def nameV (s : ByteArray) : ByteArray × Int := if 20 < s.size then (⟨#[]⟩, 2) else if nameB s = false then (⟨#[]⟩, 3) else (foldS s, 0)

set_option maxHeartbeats 1000000 in
theorem Name_any (s : ByteArray) (w : World) (hs : s.size ≤ 140737488351232) :
    Calls Tryd.prog 80 #[.string s] w fun e w' => e = .returned (.tuple #[.string (nameV s).1, .int .i64 (nameV s).2]) ∧ Below w.heap.size w w' := by
  by_cases hl : 20 < s.size
  · have HN : Hid (nameV s = (⟨#[]⟩, 2)) := by unfold nameV; rw [if_pos hl]; rfl
    go_enter Tryd.func80, Tryd.ntmps80
    go_wp2
    go_ret2
    exact ⟨by rw [HN.out]; rfl, Below.refl _ _⟩
  · have ql : decide ((20 : Int) < (s.size : Int)) = false := by simp; omega
    have HI := Lib.hid (fun W => isName_any s W (by omega))
    have HF := Lib.hid (fun W => Fold_any s W (by omega))
    have hN : nameV s = if nameB s = false then (⟨#[]⟩, 3) else (foldS s, 0) := by unfold nameV; rw [if_neg hl]
    obtain ⟨b, hb⟩ : ∃ b, nameB s = b := ⟨_, rfl⟩
    rw [hb] at HI hN
    obtain ⟨f, hf⟩ : ∃ f, foldS s = f := ⟨_, rfl⟩
    rw [hf] at HF hN
    have HN := Lib.hid hN
    clear hN hb hf hl
    go_enter Tryd.func80, Tryd.ntmps80
    go_wp2_with fail
    refine (HI.out _).mono ?_
    rintro e w1 ⟨rfl, b1⟩
    cases b with
    | false =>
      have HN2 : Hid (nameV s = (⟨#[]⟩, 3)) := by rw [HN.out]; rfl
      clear HN
      go_wp2
      go_ret2
      exact ⟨by rw [HN2.out]; rfl, b1⟩
    | true =>
      have HN2 : Hid (nameV s = (f, 0)) := by rw [HN.out]; rfl
      clear HN
      go_wp2_with fail
      refine (HF.out _).mono ?_
      rintro e w2 ⟨rfl, b2⟩
      go_wp2
      go_ret2
      exact ⟨by rw [HN2.out]; rfl, b1.trans (b2.mono b1.size)⟩
end Go.Proofs.YtbnddpicpomakaaDoor

/- The mathematics of expressions: how deep and how many, which may be. -/
set_option linter.unusedSimpArgs false
set_option linter.unusedVariables false
set_option maxRecDepth 100000
namespace Go.Proofs.YtbnddpicpomakaaDoor
open Go.RowKit

/-- The greatest of some numbers. -/
def maxL : List Nat → Nat
  | [] => 0
  | x :: r => max x (maxL r)
theorem maxL_le {l : List Nat} {m : Nat} : maxL l ≤ m ↔ ∀ x ∈ l, x ≤ m := by
  induction l with
  | nil => simp [maxL]
  | cons x r ih => simp only [maxL, List.mem_cons, forall_eq_or_imp, ← ih]; omega
theorem maxL_snoc (l : List Nat) (x : Nat) : maxL (l ++ [x]) = max (maxL l) x := by
  induction l with
  | nil => simp [maxL]
  | cons y r ih => simp only [List.cons_append, maxL, ih]; omega
theorem maxL_mem {l : List Nat} {x : Nat} (h : x ∈ l) : x ≤ maxL l := maxL_le.1 (Nat.le_refl _) x h

section
variable {α : Type}
def Rose.depth : Rose α → Nat
  | .mk _ args => 1 + maxL (args.attach.map fun x => Rose.depth x.1)
termination_by e => SizeOf.sizeOf e
decreasing_by exact Rose.size_arg x.2
theorem Rose.depth_eq (e : Rose α) : e.depth = 1 + maxL (e.args.map Rose.depth) := by
  obtain ⟨l, args⟩ := e
  rw [Rose.depth, Rose.args]
  congr 2
  rw [List.attach_map_val (f := Rose.depth)]
theorem Rose.depth_pos (e : Rose α) : 1 ≤ e.depth := by rw [Rose.depth_eq]; omega
theorem Rose.depth_arg {e x : Rose α} (h : x ∈ e.args) : x.depth < e.depth := by
  rw [Rose.depth_eq e]
  have := maxL_mem (List.mem_map.2 ⟨x, h, rfl⟩ : x.depth ∈ e.args.map Rose.depth)
  omega
theorem Rose.depth_le {e : Rose α} {n : Nat} : e.depth ≤ n + 1 ↔ ∀ x ∈ e.args, x.depth ≤ n := by
  rw [Rose.depth_eq]
  have := @maxL_le (e.args.map Rose.depth) n
  simp only [List.mem_map, forall_exists_index, and_imp, forall_apply_eq_imp_iff₂] at this
  rw [← this]; omega

def Rose.count : Rose α → Nat
  | .mk _ args => 1 + (args.attach.map fun x => Rose.count x.1).sum
termination_by e => SizeOf.sizeOf e
decreasing_by exact Rose.size_arg x.2
theorem Rose.count_eq (e : Rose α) : e.count = 1 + (e.args.map Rose.count).sum := by
  obtain ⟨l, args⟩ := e
  rw [Rose.count, Rose.args]
  congr 2
  rw [List.attach_map_val (f := Rose.count)]
theorem Rose.count_pos (e : Rose α) : 1 ≤ e.count := by rw [Rose.count_eq]; omega

/-- Do all labels do, each with the number of its arguments? -/
def Rose.allB (p : α → Nat → Bool) : Rose α → Bool
  | .mk l args => p l args.length && args.attach.all fun x => Rose.allB p x.1
termination_by e => SizeOf.sizeOf e
decreasing_by exact Rose.size_arg x.2
theorem Rose.allB_eq (p : α → Nat → Bool) (e : Rose α) : e.allB p = (p e.lab e.args.length && e.args.all (Rose.allB p)) := by
  obtain ⟨l, args⟩ := e
  rw [Rose.allB, Rose.args, Rose.lab]
  congr 1
  rw [Bool.eq_iff_iff, List.all_eq_true, List.all_eq_true]
  simp

theorem sum_le_max {l : List Nat} : maxL l ≤ l.sum := by
  induction l with
  | nil => simp [maxL]
  | cons x r ih => simp only [maxL, List.sum_cons]; omega

theorem Rose.depth_le_count (e : Rose α) : e.depth ≤ e.count := by
  induction e using Rose.ind with
  | h l args ih =>
    rw [Rose.depth_eq, Rose.count_eq]
    have h1 : maxL ((Rose.mk l args).args.map Rose.depth) ≤ ((Rose.mk l args).args.map Rose.count).sum := by
      refine Nat.le_trans ?_ sum_le_max
      rw [maxL_le]
      intro x hx
      obtain ⟨y, hy, rfl⟩ := List.mem_map.1 hx
      exact Nat.le_trans (ih y hy) (maxL_mem (List.mem_map.2 ⟨y, hy, rfl⟩))
    omega

/-- All labels do, and no more than so many levels. -/
def Rose.fits (p : α → Nat → Bool) : Nat → Rose α → Bool
  | 0, _ => false
  | n + 1, e => p e.lab e.args.length && e.args.all (Rose.fits p n)
theorem Rose.fits_eq (p : α → Nat → Bool) : ∀ (n : Nat) (e : Rose α), e.fits p n = (e.allB p && decide (e.depth ≤ n))
  | 0, e => by have := e.depth_pos; simp [Rose.fits]; omega
  | n + 1, e => by
    rw [Rose.fits, Rose.allB_eq, Bool.eq_iff_iff]
    simp only [Bool.and_eq_true, List.all_eq_true, decide_eq_true_iff, Rose.depth_le, Rose.fits_eq p n]
    constructor
    · rintro ⟨h1, h2⟩; exact ⟨⟨h1, fun x hx => (h2 x hx).1⟩, fun x hx => (h2 x hx).2⟩
    · rintro ⟨⟨h1, h2⟩, h3⟩; exact ⟨h1, fun x hx => ⟨h2 x hx, h3 x hx⟩⟩
end

/-- Is an expression too much for a statement? -/
def Lb.big (l : Lb) (n : Nat) : Bool := decide (6 < n) || decide (100 < l.nm.size + l.tb.size + l.op.size) || decide (200 < l.v.s.size)
def greatX : Nat → Ex → Bool
  | 0, _ => true
  | n + 1, e => e.lab.big e.args.length || e.args.any (greatX n)
theorem greatX_fits : ∀ (n : Nat) (e : Ex), greatX n e = !e.fits (fun l k => !l.big k) n
  | 0, e => rfl
  | n + 1, e => by
    rw [greatX, Rose.fits, Bool.eq_iff_iff]
    have : e.args.any (greatX n) = !e.args.all (Rose.fits (fun l k => !l.big k) n) := by
      rw [List.any_eq_not_all_not]
      congr 2
      funext x
      rw [greatX_fits n x]; simp
    rw [this]
    simp

/-- A string's bytes. -/
def sB (l : List Nat) : ByteArray := strN l

def resL : List (List Nat) := [
  [97, 110, 100],
  [97, 115],
  [97, 115, 99],
  [98, 101, 103, 105, 110],
  [98, 101, 116, 119, 101, 101, 110],
  [98, 108, 111, 98],
  [98, 121],
  [99, 111, 109, 109, 105, 116],
  [99, 114, 101, 97, 116, 101],
  [100, 101, 108, 101, 116, 101],
  [100, 101, 115, 99],
  [100, 105, 115, 116, 105, 110, 99, 116],
  [100, 114, 111, 112],
  [102, 111, 114],
  [102, 114, 111, 109],
  [103, 114, 111, 117, 112],
  [105, 110, 100, 101, 120],
  [105, 110, 115, 101, 114, 116],
  [105, 110, 116],
  [105, 110, 116, 111],
  [105, 115],
  [106, 111, 105, 110],
  [107, 101, 121],
  [108, 105, 107, 101],
  [108, 105, 109, 105, 116],
  [110, 111, 116],
  [110, 117, 108, 108],
  [111, 102],
  [111, 110],
  [111, 114],
  [111, 114, 100, 101, 114],
  [112, 101, 114, 105, 111, 100],
  [112, 111, 114, 116, 105, 111, 110],
  [112, 114, 105, 109, 97, 114, 121],
  [112, 114, 117, 110, 101],
  [114, 101, 108, 101, 97, 115, 101],
  [114, 111, 108, 108, 98, 97, 99, 107],
  [115, 97, 118, 101, 112, 111, 105, 110, 116],
  [115, 101, 108, 101, 99, 116],
  [115, 101, 116],
  [115, 121, 115, 116, 101, 109, 95, 116, 105, 109, 101],
  [116, 97, 98, 108, 101],
  [116, 101, 120, 116],
  [116, 111],
  [117, 112, 100, 97, 116, 101],
  [118, 97, 108, 117, 101, 115],
  [118, 101, 114, 115, 105, 111, 110, 101, 100],
  [119, 104, 101, 114, 101],
  [119, 105, 116, 104, 111, 117, 116]]
/-- A reserved word? -/
def resB (s : ByteArray) : Bool := resL.any fun l => s.toList == l.map UInt8.ofNat
/-- The name of a column or a table? -/
def isX (s : ByteArray) : Bool := decide ((nameV s).2 = 0) && decide ((nameV s).1 = s) && !resB s
def binL : List (List Nat) := [[111, 114], [97, 110, 100], [61], [60, 62], [60], [60, 61], [62], [62, 61], [108, 105, 107, 101], [124, 124], [43], [45], [42], [47], [37]]
def inL (L : List (List Nat)) (s : ByteArray) : Bool := L.any fun l => s.toList == l.map UInt8.ofNat
def unL : List (List Nat) := [[45], [110, 111, 116]]
def nullL : List (List Nat) := [[105, 115, 32, 110, 117, 108, 108], [105, 115, 32, 110, 111, 116, 32, 110, 117, 108, 108]]
def aggL : List (List Nat) := [[99, 111, 117, 110, 116], [115, 117, 109], [109, 105, 110], [109, 97, 120]]
def countL : List (List Nat) := [[99, 111, 117, 110, 116]]
def callL : List (List Nat) := [[111, 118, 101, 114, 108, 97, 112, 115], [99, 111, 110, 116, 97, 105, 110, 115]]
def lenL : List (List Nat) := [[108, 101, 110, 103, 116, 104]]
/-- Is there such an operation? -/
def takesB (k : Int) (op : ByteArray) (n : Nat) : Bool :=
  if k = 3 then decide (n = 1) && inL unL op
  else if k = 4 then decide (n = 2) && inL binL op
  else if k = 5 then decide (n = 1) && inL nullL op
  else if k = 6 then (inL aggL op && decide (n = 1)) || (inL countL op && decide (n = 0))
  else if k = 7 then (inL callL op && decide (n = 4)) || (inL lenL op && decide (n = 1))
  else false
/-- Is a value without anything? -/
def Vl.zeroB (v : Vl) : Bool := ((v.k : Int) == 0) && ((v.n == 0) && v.s.toList.isEmpty)
/-- May a label be, with so many arguments? -/
def Lb.ok (l : Lb) (n : Nat) : Bool :=
  if l.kd = 1 then l.v.right && decide (0 ≤ l.v.n) && l.tb.toList.isEmpty && l.nm.toList.isEmpty && l.op.toList.isEmpty && ((n : Int) == 0)
  else if l.kd = 2 then isX l.nm && (l.tb.toList.isEmpty || isX l.tb) && l.v.zeroB && l.op.toList.isEmpty && ((n : Int) == 0)
  else takesB l.kd l.op n && l.v.zeroB && l.tb.toList.isEmpty && l.nm.toList.isEmpty
/-- Right, with so many levels. -/
def rightX (n : Nat) (e : Ex) : Bool := e.fits Lb.ok n
theorem rightX_eq (n : Nat) (e : Ex) : rightX n e = (e.allB Lb.ok && decide (e.depth ≤ n)) := Rose.fits_eq _ n e
end Go.Proofs.YtbnddpicpomakaaDoor

/- The walks of layer 2's small functions. -/
set_option linter.unusedSimpArgs false
set_option linter.unusedVariables false
set_option maxRecDepth 100000
namespace Go.Proofs.YtbnddpicpomakaaDoor
open Go.RowKit

theorem ret_b {a b : Bool} (h : a = b) : Ending.returned (.bool a) = .returned (.bool b) := by rw [h]

theorem Below.box (w : World) (o : Obj) : Below w.heap.size w (w.alloc o) := (Below.refl _ _).alloc (Nat.le_refl _) _

theorem null_any (w : World) : Calls Tryd.prog 108 #[] w fun e w' => e = .returned (.agg #[.int .u8 0, .int .i64 0, .string ⟨#[]⟩]) ∧ Below w.heap.size w w' := by
  go_enter Tryd.func108, Tryd.ntmps108
  go_wp2
  exact bodyPost_ret (v := .agg #[.int .u8 0, .int .i64 0, .string ⟨#[]⟩]) (by simp [results, Tryd.results108, go_sem]) rfl ⟨rfl, Below.box _ _⟩

theorem whole_any (n : Int) (w : World) : Calls Tryd.prog 109 #[.int .i64 n] w fun e w' => e = .returned (.agg #[.int .u8 1, .int .i64 n, .string ⟨#[]⟩]) ∧ Below w.heap.size w w' := by
  go_enter Tryd.func109, Tryd.ntmps109
  go_wp2
  exact bodyPost_ret (v := .agg #[.int .u8 1, .int .i64 n, .string ⟨#[]⟩]) (by simp [results, Tryd.results109, go_sem]) rfl ⟨rfl, Below.box _ _⟩

theorem kinds (k : Nat) : k = 0 ∨ k = 1 ∨ k = 2 ∨ k = 3 ∨ 3 < k := by omega

theorem right_big {k : Nat} (n : Int) (s : ByteArray) (hk : 3 < k) : Vl.right ⟨k, n, s⟩ = false := by
  unfold Vl.right
  rw [if_neg (by simp only; omega), if_neg (by simp only; omega), if_neg (by simp only; omega)]

theorem rright_any (k : Nat) (n : Int) (s : ByteArray) (w : World) : Calls Tryd.prog 62 #[.agg #[.int .u8 k, .int .i64 n, .string s]] w fun e w' => e = .returned (.bool (Vl.right ⟨k, n, s⟩)) ∧ Below w.heap.size w w' := by
  rcases kinds k with rfl | rfl | rfl | rfl | hk
  all_goals
    go_enter Tryd.func62, Tryd.ntmps62
    go_wp2
    all_goals
      go_ret
      exact ⟨ret_b (by first | (rw [right_big _ _ hk]; done) | (rw [right_big _ _ hk]; simp; omega) | (rw [Bool.eq_iff_iff]; simp [Vl.right, *])), Below.box _ _⟩
end Go.Proofs.YtbnddpicpomakaaDoor

/- '==' of two values of SQL. -/
set_option linter.unusedSimpArgs false
set_option linter.unusedVariables false
set_option maxRecDepth 100000
namespace Go.Proofs.YtbnddpicpomakaaDoor
open Go.RowKit

@[go_sem high] theorem eqV (k k' n n' : Int) (s s' : ByteArray) (w : World) : (Op.equalIn 10000 36 (.agg #[.int .u8 k, .int .i64 n, .string s]) (.agg #[.int .u8 k', .int .i64 n', .string s'])).run Tryd.prog w = .ok (k == k' && (n == n' && s.toList == s'.toList)) w := by
  have hS : Tryd.prog.underlying 36 = some (.struct (Tryd.prog.fieldsOf 36)) := by kernel_rfl
  have hp : Tryd.prog.stoodInHeld 36 = false := by kernel_rfl
  rw [show (10000 : Nat) = 9999 + 1 from rfl, run_equalIn_agg w 9999 36 _ _ hS hp]
  simp only [Program.fieldsOf, Tryd.underlying36]
  go_simp
  by_cases h1 : k = k' <;> by_cases h2 : n = n' <;> by_cases h3 : s.toList = s'.toList <;> simp [h1, h2, h3]

@[go_sem] theorem eqGuardV : Tryd.prog.eqGuardType Tryd.prog.depth 36 = false := by kernel_rfl

theorem isEmpty_size (s : ByteArray) : s.toList.isEmpty = decide (s.size = 0) := by
  have : s.toList = s.data.toList := ByteArray.toList_eq s
  rw [this]
  cases h : s.data.toList with
  | nil => simp [ByteArray.size, ← Array.length_toList, h]
  | cons x r => simp [ByteArray.size, ← Array.length_toList, h]
end Go.Proofs.YtbnddpicpomakaaDoor

/- The walk of cell.Right. -/
set_option linter.unusedSimpArgs false
set_option linter.unusedVariables false
set_option maxRecDepth 100000
namespace Go.Proofs.YtbnddpicpomakaaDoor
open Go.RowKit

/-- A boxed value is there in every later world. -/
theorem box_later (w : World) (T : TypeId) (v0 v1 v2 : Value) : ∀ W, Later (w.alloc (.cells #[v0, v1, v2] T)) W →
    W.cell? ⟨w.heap.size, 0, none⟩ = some v0 ∧ W.cell? ⟨w.heap.size, 1, none⟩ = some v1 ∧ W.cell? ⟨w.heap.size, 2, none⟩ = some v2 := by
  intro W h
  have hs : (w.alloc (.cells #[v0, v1, v2] T)).heap.size = w.heap.size + 1 := by simp
  refine ⟨?_, ?_, ?_⟩
  · rw [h.cell (p := ⟨w.heap.size, 0, none⟩) (by rw [hs]; simp), World.cell?_alloc_new]; rfl
  · rw [h.cell (p := ⟨w.heap.size, 1, none⟩) (by rw [hs]; simp), World.cell?_alloc_new]; rfl
  · rw [h.cell (p := ⟨w.heap.size, 2, none⟩) (by rw [hs]; simp), World.cell?_alloc_new]; rfl

theorem Later.undrew {w W : World} (h : Later w.drew W) : Later w W := (Below.refl _ _).drew.trans h

/-- What holds in every later world goes on holding. -/
theorem later_next {w w1 : World} {p : World → Prop} (h : ∀ W, Later w W → p W) (hl : Later w w1) : ∀ W, Later w1 W → p W := fun W hW => h W (hl.trans hW)

theorem right_any (k : Nat) (n : Int) (s : ByteArray) (w : World) : Calls Tryd.prog 91 #[.agg #[.int .u8 k, .int .i64 n, .string s]] w fun e w' => e = .returned (.bool (Vl.right ⟨k, n, s⟩)) ∧ Below w.heap.size w w' := by
  have hbx := fun W h => box_later w 36 (.int .u8 k) (.int .i64 n) (.string s) W (Later.undrew h)
  rcases kinds k with rfl | rfl | rfl | rfl | hk
  · have hc0 := fun W h => (hbx W h).1
    have hc1 := fun W h => (hbx W h).2.1
    have hc2 := fun W h => (hbx W h).2.2
    clear hbx
    go_enter Tryd.func91, Tryd.ntmps91
    go_wp2_with fail
    refine wp_region_ord [(0, true), (1, false), (2, true), (3, true)] (by kernel_rfl) (by kernel_rfl) (by kernel_rfl) (by kernel_rfl) ?_
    repeat (first | (refine wpO_F (v := ?_) rfl (by rfl) (fun w' hL => ?_) ?_; rotate_left; (solve | (go_simp; with_reducible rfl) | go_simp); try simp only [Act.put, List.setIfInBounds_toArray, List.set_cons_zero, List.set_cons_succ]) | (refine wpO_G rfl (by rfl) ?_; try simp only [Act.put, List.setIfInBounds_toArray, List.set_cons_zero, List.set_cons_succ]))
    refine wpO_C rfl (by rfl) ?_
    go_simp
    refine (null_any _).mono ?_
    rintro e w1 ⟨rfl, hb1⟩
    refine ⟨hb1, ?_⟩
    try simp only [Act.put, List.setIfInBounds_toArray, List.set_cons_zero, List.set_cons_succ]
    repeat (first | (refine wpO_F (v := ?_) rfl (by rfl) (fun w' hL => ?_) ?_; rotate_left; (solve | (go_simp; with_reducible rfl) | go_simp); try simp only [Act.put, List.setIfInBounds_toArray, List.set_cons_zero, List.set_cons_succ]) | (refine wpO_G rfl (by rfl) ?_; try simp only [Act.put, List.setIfInBounds_toArray, List.set_cons_zero, List.set_cons_succ]))
    refine wpO_nil ?_
    go_wp2
    go_ret
    exact ⟨ret_b (by rw [isEmpty_size, Bool.eq_iff_iff]; simp [Vl.right]), (Below.box _ _).drew.trans (hb1.mono (by simp))⟩
  · have hc0 := fun W h => (hbx W h).1
    have hc1 := fun W h => (hbx W h).2.1
    have hc2 := fun W h => (hbx W h).2.2
    clear hbx
    go_enter Tryd.func91, Tryd.ntmps91
    go_wp2_with fail
    refine wp_region_ord [(0, true), (1, true), (2, true), (3, false), (4, true), (5, true)] (by kernel_rfl) (by kernel_rfl) (by kernel_rfl) (by kernel_rfl) ?_
    repeat (first | (refine wpO_F (v := ?_) rfl (by rfl) (fun w' hL => ?_) ?_; rotate_left; (solve | (go_simp; with_reducible rfl) | go_simp); try simp only [Act.put, List.setIfInBounds_toArray, List.set_cons_zero, List.set_cons_succ]) | (refine wpO_G rfl (by rfl) ?_; try simp only [Act.put, List.setIfInBounds_toArray, List.set_cons_zero, List.set_cons_succ]))
    refine wpO_C rfl (by rfl) ?_
    go_simp
    refine (whole_any n _).mono ?_
    rintro e w1 ⟨rfl, hb1⟩
    refine ⟨hb1, ?_⟩
    try simp only [Act.put, List.setIfInBounds_toArray, List.set_cons_zero, List.set_cons_succ]
    repeat (first | (refine wpO_F (v := ?_) rfl (by rfl) (fun w' hL => ?_) ?_; rotate_left; (solve | (go_simp; with_reducible rfl) | go_simp); try simp only [Act.put, List.setIfInBounds_toArray, List.set_cons_zero, List.set_cons_succ]) | (refine wpO_G rfl (by rfl) ?_; try simp only [Act.put, List.setIfInBounds_toArray, List.set_cons_zero, List.set_cons_succ]))
    refine wpO_nil ?_
    go_wp2
    go_ret
    exact ⟨ret_b (by rw [isEmpty_size, Bool.eq_iff_iff]; simp [Vl.right]), (Below.box _ _).drew.trans (hb1.mono (by simp))⟩
  all_goals clear hbx
  · go_enter Tryd.func91, Tryd.ntmps91
    go_wp2
    go_ret
    exact ⟨ret_b (by rw [Bool.eq_iff_iff]; simp [Vl.right]), Below.box _ _⟩
  · go_enter Tryd.func91, Tryd.ntmps91
    go_wp2
    go_ret
    exact ⟨ret_b (by rw [Bool.eq_iff_iff]; simp [Vl.right]), Below.box _ _⟩
  · have e0 : ((k : Int) == 0) = false := by simp; omega
    have e1 : ((k : Int) == 1) = false := by simp; omega
    have e2 : ((k : Int) == 2) = false := by simp; omega
    have e3 : ((k : Int) == 3) = false := by simp; omega
    go_enter Tryd.func91, Tryd.ntmps91
    go_wp2
    go_ret
    exact ⟨ret_b (by rw [right_big _ _ hk]), Below.box _ _⟩
end Go.Proofs.YtbnddpicpomakaaDoor

/- The walks of Reserved, isBinary, isAggregate. -/
set_option linter.unusedSimpArgs false
set_option linter.unusedVariables false
set_option maxRecDepth 100000
namespace Go.Proofs.YtbnddpicpomakaaDoor
open Go.RowKit

set_option maxHeartbeats 4000000 in
theorem isAgg_any (s : ByteArray) (w : World) : Calls Tryd.prog 111 #[.string s] w fun e w' => e = .returned (.bool (inL aggL s)) ∧ w = w' := by
  obtain ⟨b, hb⟩ : ∃ b, inL aggL s = b := ⟨_, rfl⟩
  rw [hb]
  have HB := Lib.hid hb
  clear hb
  go_enter Tryd.func111, Tryd.ntmps111
  go_wp2
  all_goals
    go_ret
    exact ⟨ret_b (by rw [← HB.out]; clear HB; simp_all [inL, aggL]), rfl⟩

set_option maxHeartbeats 4000000 in
theorem isBin_any (s : ByteArray) (w : World) : Calls Tryd.prog 110 #[.string s] w fun e w' => e = .returned (.bool (inL binL s)) ∧ w = w' := by
  obtain ⟨b, hb⟩ : ∃ b, inL binL s = b := ⟨_, rfl⟩
  rw [hb]
  have HB := Lib.hid hb
  clear hb
  go_enter Tryd.func110, Tryd.ntmps110
  go_wp2
  all_goals
    go_ret
    exact ⟨ret_b (by rw [← HB.out]; clear HB; simp_all [inL, binL]), rfl⟩

set_option maxHeartbeats 16000000 in
theorem Reserved_any (s : ByteArray) (w : World) : Calls Tryd.prog 33 #[.string s] w fun e w' => e = .returned (.bool (resB s)) ∧ w = w' := by
  obtain ⟨b, hb⟩ : ∃ b, resB s = b := ⟨_, rfl⟩
  rw [hb]
  have HB := Lib.hid hb
  clear hb
  go_enter Tryd.func33, Tryd.ntmps33
  go_wp2
  all_goals
    go_ret
    exact ⟨ret_b (by rw [← HB.out]; clear HB; simp_all [resB, resL]), rfl⟩
end Go.Proofs.YtbnddpicpomakaaDoor

/- The walks of cell.add, sub, mul, div, mod: int64s. -/
set_option linter.unusedSimpArgs false
set_option linter.unusedVariables false
set_option maxRecDepth 100000
namespace Go.Proofs.YtbnddpicpomakaaDoor
open Go.RowKit

theorem fits_yes {n : Int} (h1 : -9223372036854775808 ≤ n) (h2 : n ≤ 9223372036854775807) : fits n = true := (fits_iff n).2 ⟨h1, h2⟩
theorem fits_no {n : Int} (h : n < -9223372036854775808 ∨ 9223372036854775807 < n) : fits n = false := by
  cases hf : fits n with
  | false => rfl
  | true => have := (fits_iff n).1 hf; omega

theorem div_fits (x y : Int) (hx1 : -9223372036854775808 ≤ x) (hx2 : x ≤ 9223372036854775807) (hy : y ≠ 0) (h : ¬ (x = -9223372036854775808 ∧ y = -1)) : -9223372036854775808 ≤ x.tdiv y ∧ x.tdiv y ≤ 9223372036854775807 := by
  have h1 : (x.tdiv y).natAbs = x.natAbs / y.natAbs := Int.natAbs_tdiv x y
  by_cases hy1 : y = -1
  · subst hy1
    rw [Int.tdiv_neg, Int.tdiv_one]; omega
  · by_cases hy2 : y = 1
    · subst hy2; rw [Int.tdiv_one]; omega
    · have : x.natAbs / y.natAbs ≤ x.natAbs / 2 := Nat.div_le_div_left (by omega) (by omega)
      omega

theorem mod_fits (x y : Int) (hx1 : -9223372036854775808 ≤ x) (hx2 : x ≤ 9223372036854775807) : -9223372036854775808 ≤ x.tmod y ∧ x.tmod y ≤ 9223372036854775807 := by
  have h1 : (x.tmod y).natAbs = x.natAbs % y.natAbs := Int.natAbs_tmod x y
  have h2 : x.natAbs % y.natAbs ≤ x.natAbs := Nat.mod_le _ _
  have h3 : 0 ≤ x → 0 ≤ x.tmod y := fun h => Int.tmod_nonneg y h
  by_cases h : 0 ≤ x
  · have := h3 h; omega
  · have h4 : x.tmod y = -((-x).tmod y) := by rw [Int.neg_tmod]; simp
    have h5 := Int.tmod_nonneg y (show 0 ≤ -x by omega)
    omega

end Go.Proofs.YtbnddpicpomakaaDoor
