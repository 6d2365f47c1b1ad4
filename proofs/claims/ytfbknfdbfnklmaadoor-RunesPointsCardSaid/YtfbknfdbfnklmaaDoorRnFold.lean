/- The walks of runes.Fold, runes.Name and of the reference's. -/
import Derived.Test.YtfbknfdbfnklmaaDoorRnName
namespace Go.Proofs.YtfbknfdbfnklmaaDoor
set_option linter.unusedSimpArgs false
open Go.RowKit

def foldC (c : Nat) : Nat := if 65 ≤ c ∧ c ≤ 90 then c + 32 else c
def foldS (s : ByteArray) : ByteArray := strN ((bytesU s).map foldC)

theorem foldC_lt {c : Nat} (h : c < 256) : foldC c < 256 := by unfold foldC; split <;> omega

theorem conv_bytesU (s : ByteArray) (w : World) : ∃ W1 cap, (convert 9 33 (.string s)).run Tryd.prog w = .ok (.slice (some ⟨w.heap.size, 0, none⟩) s.size cap) W1 ∧ Below w.heap.size w W1 ∧ W1.heap.size = w.heap.size + 1 ∧
    ∀ (j : Nat), j < s.size → W1.cell? ⟨w.heap.size, j, none⟩ = some (.int .u8 (byteN s j : Int)) ∧ W1.frozen? ⟨w.heap.size, j, none⟩ = false := by
  refine ⟨_, _, Lib.run_convert_string_bytes w 9 33 5 s Tryd.underlying9 Tryd.underlying33 Tryd.underlying5, ⟨rfl, rfl, rfl, ?_, fun k hk => Lib.bytesWorld_at_old w _ s k hk⟩, Lib.bytesWorld_size w _ s, ?_⟩
  · rw [Lib.bytesWorld_size]; omega
  · intro j hj
    refine ⟨?_, ?_⟩
    · rw [Lib.bytesWorld_cell w _ s j hj]
      have : byteN s j = (s.data.toList.getD j 0).toNat := by
        unfold byteN bytesU
        rw [getD_map]
      rw [this]
    · unfold World.frozen?
      simp only [Lib.bytesWorld_at_new]
      have : j < (Lib.bytesCells w 5 s).size := by
        simp only [Lib.bytesCells, Array.size_append]
        simp
        have : s.data.size = s.size := rfl
        omega
      simp
      omega

/-- The row in block G while the first k bytes are folded. -/
def FoldAt (w : World) (G n k : Nat) (s : ByteArray) : Prop := ∀ j, j < n → w.cell? ⟨G, j, none⟩ = some (.int .u8 ((if j < k then foldC (byteN s j) else byteN s j : Nat) : Int)) ∧ w.frozen? ⟨G, j, none⟩ = false

theorem FoldAt.keep {w : World} {G n k : Nat} {s : ByteArray} (h : FoldAt w G n k s) (hf : foldC (byteN s k) = byteN s k) : FoldAt w G n (k + 1) s := by
  intro j hj
  refine ⟨?_, (h j hj).2⟩
  rw [(h j hj).1]
  by_cases h1 : j < k
  · rw [if_pos h1, if_pos (by omega)]
  · by_cases h2 : j = k
    · subst h2; rw [if_neg (by omega), if_pos (by omega), hf]
    · rw [if_neg h1, if_neg (by omega)]

theorem FoldAt.set {w : World} {G n k : Nat} {s : ByteArray} (h : FoldAt w G n k s) (hk : k < n) (v : Int) (hv : v = (foldC (byteN s k) : Int)) : FoldAt (w.setCell ⟨G, k, none⟩ (.int .u8 v)) G n (k + 1) s := by
  subst hv
  intro j hj
  refine ⟨?_, by rw [World.frozen?_setCell]; exact (h j hj).2⟩
  by_cases h2 : j = k
  · subst h2
    rw [World.cell?_setCell_same _ _ _ (h j hj).1, if_pos (by omega)]
  · rw [World.cell?_setCell_other _ _ _ _ (by simp [Ne.symm h2]), (h j hj).1]
    by_cases h1 : j < k
    · rw [if_pos h1, if_pos (by omega)]
    · rw [if_neg h1, if_neg (by omega)]

theorem FoldAt.bs {w : World} {G n : Nat} {s : ByteArray} (h : FoldAt w G n n s) (hn : n = s.size) (hG : G < w.heap.size) : Bs w.heap.size w (some ⟨G, 0, none⟩) ((bytesU s).map foldC) := by
  refine ⟨?_, .inr ⟨G, 0, rfl, hG, fun i c hi => ?_⟩⟩
  · intro c hc
    obtain ⟨d, hd, rfl⟩ := List.mem_map.1 hc
    exact foldC_lt (bytesU_lt s d hd)
  · rw [List.getElem?_map] at hi
    have hil : i < (bytesU s).length := by
      by_cases hil : i < (bytesU s).length
      · exact hil
      · rw [List.getElem?_eq_none (by omega)] at hi; simp at hi
    rw [List.getElem?_eq_getElem hil] at hi
    simp only [Option.map_some, Option.some.injEq] at hi
    rw [bytesU_len] at hil
    rw [Nat.zero_add, (h i (by omega)).1, if_pos (by omega), ← hi]
    have : byteN s i = (bytesU s)[i]'(by rw [bytesU_len]; exact hil) := by
      unfold byteN
      rw [List.getD_eq_getElem?_getD, List.getElem?_eq_getElem (by rw [bytesU_len]; exact hil)]; rfl
    rw [this]

set_option maxHeartbeats 2000000 in
theorem Fold_any (s : ByteArray) (w : World) (hs : s.size ≤ 1000000) :
    Calls Tryd.prog 19 #[.string s] w fun e w' => e = .returned (.string (foldS s)) ∧ Below w.heap.size w w' := by
  obtain ⟨W1, cap, hcv, hb1, hsz1, hcell⟩ := conv_bytesU s w
  have hF : FoldAt W1 w.heap.size s.size 0 s := fun j hj => by
    obtain ⟨h1, h2⟩ := hcell j hj
    exact ⟨by rw [h1, if_neg (by omega)], h2⟩
  have HF0 := Lib.hid hF
  have hz1 : w.heap.size < W1.heap.size := by omega
  obtain ⟨n, hn⟩ : ∃ n, n = s.size := ⟨_, rfl⟩
  have HN := Lib.hid hn
  rw [← hn] at hcv HF0
  have hn1 : n ≤ 1000000 := by omega
  clear hcell hF hsz1 hn
  go_enter Tryd.func19, Tryd.ntmps19
  go_wp2
  clear hcv
  go_loopw [10] (fun i wr => ∃ k : Nat, k ≤ n ∧ i = .int .i64 k ∧ Hid (FoldAt wr w.heap.size n k s) ∧ LaterB w.heap.size W1 wr) (fun i _ => n - (intOf i).toNat)
  case atStart => exact ⟨0, by omega, rfl, HF0.out, LaterB.refl _ _⟩
  case round =>
    obtain ⟨k, hk, rfl, HF, hlb⟩ := hrel
    have hbw : Below w.heap.size w wr := hb1.trans ⟨hlb.os, hlb.tape, hlb.output, hlb.size, fun j hj => hlb.block j (by omega) (by omega)⟩
    by_cases hlt : k < n
    · obtain ⟨hc, hfz⟩ := HF.out k hlt
      rw [if_neg (by omega)] at hc
      have hb256 : byteN s k < 256 := by unfold byteN; exact getD_lt _ (bytesU_lt s) k
      have HK := Lib.hid (fun h => HF.out.keep h)
      have HS := Lib.hid (fun v h => HF.out.set hlt v h)
      obtain ⟨c, hcc⟩ : ∃ c, byteN s k = c := ⟨_, rfl⟩
      rw [hcc] at hc hb256 HK HS
      clear hcc HF
      by_cases hcap : 65 ≤ c ∧ c ≤ 90
      · obtain ⟨h1, h2⟩ := hcap
        have q1 : decide ((65 : Int) ≤ (c : Int)) = true := by simp; omega
        have q2 : decide ((c : Int) ≤ 90) = true := by simp; omega
        have hfc : foldC c = c + 32 := by unfold foldC; rw [if_pos ⟨h1, h2⟩]
        have HFC := Lib.hid hfc
        clear hfc
        go_wp2
        go_roundw
        case rel => exact ⟨k + 1, by omega, by go_num, HS.out _ (by rw [HFC.out]; omega), hlb.trans (LaterB.setCell _)⟩
        case measure => simp [intOf]; omega
      · have hfc : foldC c = c := by unfold foldC; rw [if_neg hcap]
        have HK2 := Lib.hid (HK.out hfc)
        clear hfc HK HS
        by_cases h1 : 65 ≤ c
        · have q1 : decide ((65 : Int) ≤ (c : Int)) = true := by simp; omega
          have q2 : decide ((c : Int) ≤ 90) = false := by simp; omega
          go_wp2
          go_roundw
          case rel => exact ⟨k + 1, by omega, by go_num, HK2.out, hlb⟩
          case measure => simp [intOf]; omega
        · have q1 : decide ((65 : Int) ≤ (c : Int)) = false := by simp; omega
          go_wp2
          go_roundw
          case rel => exact ⟨k + 1, by omega, by go_num, HK2.out, hlb⟩
          case measure => simp [intOf]; omega
    · obtain rfl : k = n := by omega
      have hB := HF.out.bs HN.out (by have := hlb.size; omega)
      have hcv := hB.conv (P := Tryd.prog) 33 5 Tryd.underlying33 Tryd.underlying5 9 Tryd.underlying9 k cap (by rw [List.length_map, bytesU_len]; exact HN.out)
      have HFS : Hid (strN ((bytesU s).map foldC) = foldS s) := rfl
      rw [HFS.out] at hcv
      clear hB HF HF0
      go_wp2
      go_ret
      exact ⟨rfl, hbw⟩

theorem map_takeF (l : List Nat) (k : Nat) (hk : k < l.length) : (l.take (k + 1)).map foldC = (l.take k).map foldC ++ [foldC l[k]] := by
  rw [List.take_add_one, List.getElem?_eq_getElem hk, List.map_append]; rfl

set_option maxRecDepth 1000000 in
set_option maxHeartbeats 4000000 in
theorem rFold_any (s : ByteArray) (w : World) (hs : s.size ≤ 1000000) :
    Calls Tryd.prog 20 #[.string s] w fun e w' => e = .returned (.string (foldS s)) ∧ Below w.heap.size w w' := by
  obtain ⟨i0, hi, hz0, hz1, hz2⟩ := info_parts Tryd.info5
  go_enter Tryd.func20, Tryd.ntmps20
  go_wp2
  go_loopw [3, 4] (fun v i wr => ∃ k : Nat, k ≤ s.size ∧ i = .int .i64 k ∧ OwnB wr w.heap.size 5 v (((bytesU s).take k).map foldC) ∧ Below w.heap.size w wr) (fun _ i _ => s.size - (intOf i).toNat)
  case atStart => exact ⟨0, by omega, rfl, OwnB.nil _ _ _, Below.refl _ _⟩
  case round =>
    obtain ⟨k, hk, rfl, hown, hb⟩ := hrel
    have hsz := hb.size
    by_cases hlt : k < s.size
    · have hkl : k < (bytesU s).length := by rw [bytesU_len]; exact hlt
      have hx : (bytesU s)[k] = (s[k]'hlt).toNat := by simp [bytesU]; rfl
      have hm := map_takeF (bytesU s) k hkl
      rw [hx] at hm
      have HM := Lib.hid hm
      have hc256 := (s[k]'hlt).toNat_lt
      have hll : (((bytesU s).take k).map foldC).length < 100000000000000 := by
        have := List.length_take_le k (bytesU s)
        rw [List.length_map]; omega
      clear hx hm
      by_cases hcap : 65 ≤ (s[k]'hlt).toNat ∧ (s[k]'hlt).toNat ≤ 90
      · obtain ⟨h1, h2⟩ := hcap
        have hfc : foldC (s[k]'hlt).toNat = (s[k]'hlt).toNat + 32 := by unfold foldC; rw [if_pos ⟨h1, h2⟩]
        have HFC := Lib.hid hfc
        clear hfc
        go_wp2_with (at_builtin; refine wpList_app1 rfl _ _ 33 rfl w.heap.size 5 i0 Tryd.underlying33 hi hz0 hz1 hz2 _ _ wr hown rfl ((s[k]'hlt).toNat + 32) (by omega) _ (by push_cast; first | rfl | omega) rfl hll hsz ?_; intro v' w1 hown' hb' hsz')
        go_roundw
        case rel => exact ⟨k + 1, by omega, by go_num, by rw [HM.out, HFC.out]; exact hown', hb.trans hb'⟩
        case measure => simp [intOf]; omega
      · have hfc : foldC (s[k]'hlt).toNat = (s[k]'hlt).toNat := by unfold foldC; rw [if_neg hcap]
        have HFC := Lib.hid hfc
        have hways : (s[k]'hlt).toNat < 65 ∨ (65 ≤ (s[k]'hlt).toNat ∧ 90 < (s[k]'hlt).toNat) := by omega
        clear hfc hcap
        rcases hways with h1 | ⟨h1, h2⟩
        all_goals
          go_wp2_with (at_builtin; refine wpList_app1 rfl _ _ 33 rfl w.heap.size 5 i0 Tryd.underlying33 hi hz0 hz1 hz2 _ _ wr hown rfl (s[k]'hlt).toNat (by omega) _ rfl rfl hll hsz ?_; intro v' w1 hown' hb' hsz')
          go_roundw
          case rel => exact ⟨k + 1, by omega, by go_num, by rw [HM.out, HFC.out]; exact hown', hb.trans hb'⟩
          case measure => simp [intOf]; omega
    · have hall : (bytesU s).take k = bytesU s := List.take_of_length_le (by rw [bytesU_len]; omega)
      rw [hall] at hown
      obtain ⟨a, cap, rfl, hcap, hB, _⟩ := hown.slice
      have hcv := hB.conv (P := Tryd.prog) 33 5 Tryd.underlying33 Tryd.underlying5 9 Tryd.underlying9 _ cap rfl
      have HFS : Hid (strN ((bytesU s).map foldC) = foldS s) := rfl
      rw [HFS.out] at hcv
      obtain ⟨n, hn⟩ : ∃ n, ((bytesU s).map foldC).length = n := ⟨_, rfl⟩
      rw [hn] at hcv ⊢
      clear hB hown hall hn
      go_wp2
      go_ret
      exact ⟨rfl, hb⟩

/-- What Name answers. -/
def nameV (s : ByteArray) : ByteArray × Int := if 20 < s.size then (⟨#[]⟩, 2) else if nameB s = false then (⟨#[]⟩, 3) else (foldS s, 0)

set_option maxHeartbeats 1000000 in
theorem Name_any (s : ByteArray) (w : World) (hs : s.size ≤ 140737488351232) :
    Calls Tryd.prog 15 #[.string s] w fun e w' => e = .returned (.tuple #[.string (nameV s).1, .int .i64 (nameV s).2]) ∧ Below w.heap.size w w' := by
  by_cases hl : 20 < s.size
  · have HN : Hid (nameV s = (⟨#[]⟩, 2)) := by unfold nameV; rw [if_pos hl]; rfl
    go_enter Tryd.func15, Tryd.ntmps15
    go_wp2
    go_ret2
    exact ⟨by rw [HN.out]; rfl, Below.refl _ _⟩
  · have ql : decide ((20 : Int) < (s.size : Int)) = false := by simp; omega
    have HI := Lib.hid (fun W => isName_any s W (by omega))
    have HF := Lib.hid (fun W => Fold_any s W (by omega))
    have hN : nameV s = if nameB s = false then (⟨#[]⟩, 3) else (foldS s, 0) := by unfold nameV; rw [if_neg hl]
    obtain ⟨b, hb⟩ : ∃ b, nameB s = b := ⟨_, rfl⟩
    rw [hb] at HI hN
    obtain ⟨f, hf⟩ : ∃ f, foldS s = f := ⟨_, rfl⟩
    rw [hf] at HF hN
    have HN := Lib.hid hN
    clear hN hb hf hl
    go_enter Tryd.func15, Tryd.ntmps15
    go_wp2_with fail
    refine (HI.out _).mono ?_
    rintro e w1 ⟨rfl, b1⟩
    cases b with
    | false =>
      have HN2 : Hid (nameV s = (⟨#[]⟩, 3)) := by rw [HN.out]; rfl
      clear HN
      go_wp2
      go_ret2
      exact ⟨by rw [HN2.out]; rfl, b1⟩
    | true =>
      have HN2 : Hid (nameV s = (f, 0)) := by rw [HN.out]; rfl
      clear HN
      go_wp2_with fail
      refine (HF.out _).mono ?_
      rintro e w2 ⟨rfl, b2⟩
      go_wp2
      go_ret2
      exact ⟨by rw [HN2.out]; rfl, b1.trans (b2.mono b1.size)⟩
end Go.Proofs.YtfbknfdbfnklmaaDoor
