/- The walks of the methods Front and Least. -/
import Derived.Test.YtfbknfdbfnklmabDoorLComp
import Derived.Test.YtfbknfdbfnklmabDoorUConv
namespace Go.Proofs.YtfbknfdbfnklmabDoor
open Go.RowKit

theorem takeWhile_all (f : Nat → Bool) : ∀ l : List Nat, (∀ x ∈ l, f x = true) → l.takeWhile f = l
  | [], _ => rfl
  | x :: l, h => by rw [List.takeWhile_cons, if_pos (h x (by simp)), takeWhile_all f l fun y hy => h y (by simp [hy])]

theorem front_take (p : List Nat) : p.take (frontP p).length = frontP p := by
  have := List.prefix_iff_eq_take.1 (List.takeWhile_prefix (l := p) (fun c => c != 37 && c != 95))
  exact this.symm

theorem front_idx (p : List Nat) : (idxI isMark (ptsZ p) = -1 ∧ frontP p = p) ∨ (idxI isMark (ptsZ p) = ((frontP p).length : Int)) := by
  have hm : ∀ c : Nat, (!isMark (c : Int)) = (c != 37 && c != 95) := by
    intro c
    unfold isMark
    rw [Bool.eq_iff_iff]
    simp only [Bool.not_eq_true', Bool.or_eq_false_iff, Bool.and_eq_true, beq_eq_false_iff_ne, bne_iff_ne, ne_eq]
    omega
  have htw : ((ptsZ p).takeWhile fun c => !isMark c).length = (frontP p).length := by
    unfold ptsZ frontP
    rw [List.takeWhile_map, List.length_map]
    congr 2
    funext c; exact hm c
  unfold idxI
  split
  · rename_i h
    left
    refine ⟨rfl, ?_⟩
    unfold frontP
    refine takeWhile_all _ _ fun c hc => ?_
    rw [← hm]
    exact List.all_eq_true.1 h _ (List.mem_map.2 ⟨c, hc, rfl⟩)
  · right; rw [htw]

/-- The value is nil (p is empty), or leads to a pattern with the points p. -/
def PatP (w : World) (v : Value) (p : List Nat) : Prop :=
  (p = [] ∧ v = .pointer none) ∨ ∃ B a cap, v = .pointer (some ⟨B, 0, none⟩) ∧ B < w.heap.size ∧ w.cell? ⟨B, 0, none⟩ = some (.slice a p.length cap) ∧ p.length ≤ cap ∧ p.length ≤ 1000 ∧ Rs .i32 w.heap.size w a (ptsZ p) ∧ ∀ v ∈ p, okP v = true

theorem PatIn.points {w : World} {v : Value} {o : Option (List Nat)} (h : PatIn w v o) : PatP w v (o.getD []) := by
  rcases h with ⟨rfl, rfl⟩ | ⟨p, B, a, cap, rfl, h2, h3, h4, h5, h6, h7, h8, h9⟩
  · exact .inl ⟨rfl, rfl⟩
  · exact .inr ⟨B, a, cap, h2, h3, h4, h6, h7, h8, h9⟩

theorem PatP.below {w w' : World} {v : Value} {p : List Nat} (h : PatP w v p) (hb : Below w.heap.size w w') : PatP w' v p := by
  rcases h with h | ⟨B, a, cap, h2, h3, h4, h6, h7, h8, h9⟩
  · exact .inl h
  · exact .inr ⟨B, a, cap, h2, by have := hb.size; omega, (hb.cell (p := ⟨B, 0, none⟩) h3).trans h4, h6, h7, (h8.below hb).mono hb.size, h9⟩

set_option maxHeartbeats 2000000 in
theorem Front_any (v : Value) (p : List Nat) (w : World) (hP : PatP w v p) :
    Calls Tryd.prog 15 #[v] w fun e w' => e = .returned (.string (strP (frontP p))) ∧ Below w.heap.size w w' := by
  rcases hP with ⟨rfl, rfl⟩ | ⟨B, a, cap, rfl, hB, hc0, hcap, hlen, hR, hok⟩
  · go_enter Tryd.func15, Tryd.ntmps15
    go_wp2
    go_ret
    exact ⟨rfl, Below.refl _ _⟩
  · have hfl : (frontP p).length ≤ p.length := (List.takeWhile_prefix _).length_le
    have hft := front_take p
    have hfi := front_idx p
    have HI := Lib.hid (idxMark_any (ptsZ p) (ptsZ_range hok) a p.length cap w hR (by rw [ptsZ_len]) (by omega))
    obtain ⟨a', hV, hsl⟩ := hR.upTo 36 21 Tryd.underlying36 Tryd.sizeOf21 p.length cap (frontP p).length (by rw [ptsZ_len]) hfl hcap
    rw [ptsZ_take, hft] at hV
    have hfok : ∀ v ∈ frontP p, okP v = true := fun v hv => hok v (by rw [← hft] at hv; exact List.mem_of_mem_take hv)
    have HS := Lib.hid (fun W (hb : Below w.heap.size w W) => (hV.below hb).str (P := Tryd.prog) hfok 36 9 21 Tryd.underlying36 Tryd.underlying21 Tryd.underlying9 (frontP p).length cap rfl)
    obtain ⟨r, hr⟩ : ∃ r, idxI isMark (ptsZ p) = r := ⟨_, rfl⟩
    rw [hr] at HI hfi
    obtain ⟨n, hn⟩ : ∃ n, n = p.length := ⟨_, rfl⟩
    obtain ⟨k, hk⟩ : ∃ k, k = (frontP p).length := ⟨_, rfl⟩
    rw [← hn] at hc0 hcap hlen hfl HI hsl
    rw [← hk] at hfl HS hsl hfi
    have hways : (r = -1 ∧ n = k) ∨ r = (k : Int) := by
      rcases hfi with ⟨h1, h2⟩ | h
      · left; refine ⟨h1, ?_⟩; rw [hn, hk, h2]
      · exact .inr h
    obtain ⟨f, hf⟩ : ∃ f, strP (frontP p) = f := ⟨_, rfl⟩
    rw [hf] at HS ⊢
    clear hfi hft hfok hV hR hok hr hn hk hf
    rcases hways with ⟨rfl, rfl⟩ | rfl
    · go_enter Tryd.func15, Tryd.ntmps15
      go_wp2_with fail
      refine HI.out.mono ?_
      rintro e w1 ⟨rfl, hb⟩
      have hc1 := (hb.cell (p := ⟨B, 0, none⟩) hB).trans hc0
      have hcv := HS.out w1 hb
      clear HI HS hc0
      go_wp2
      go_ret
      exact ⟨rfl, hb⟩
    · go_enter Tryd.func15, Tryd.ntmps15
      go_wp2_with fail
      refine HI.out.mono ?_
      rintro e w1 ⟨rfl, hb⟩
      have hc1 := (hb.cell (p := ⟨B, 0, none⟩) hB).trans hc0
      have hcv := HS.out w1 hb
      clear HI HS hc0
      go_wp2
      go_ret
      exact ⟨rfl, hb⟩

theorem least_take (p : List Nat) (k : Nat) (hk : k < p.length) : leastP (p.take (k + 1)) = leastP (p.take k) + if p[k] = 37 then 0 else 1 := by
  unfold leastP
  rw [List.take_add_one, List.getElem?_eq_getElem hk, List.filter_append, List.length_append]
  congr 1
  by_cases h : p[k] = 37 <;> simp [h]

theorem least_le (p : List Nat) : leastP p ≤ p.length := List.length_filter_le _ _

set_option maxHeartbeats 2000000 in
theorem Least_any (v : Value) (p : List Nat) (w : World) (hP : PatP w v p) :
    Calls Tryd.prog 16 #[v] w fun e w' => e = .returned (.int .i64 (leastP p)) ∧ Below w.heap.size w w' := by
  rcases hP with ⟨rfl, rfl⟩ | ⟨B, a, cap, rfl, hB, hc0, hcap, hlen, hR, hok⟩
  · go_enter Tryd.func16, Tryd.ntmps16
    go_wp2
    go_ret
    exact ⟨rfl, Below.refl _ _⟩
  · have HR := Lib.hid hR
    obtain ⟨n, hn⟩ : ∃ n, n = p.length := ⟨_, rfl⟩
    rw [← hn] at hc0 hcap hlen
    have HN := Lib.hid hn
    clear hR hok hn
    go_enter Tryd.func16, Tryd.ntmps16
    go_wp2
    go_loopw [3, 13] (fun s i wr => ∃ k c : Nat, k ≤ n ∧ i = .int .i64 k ∧ s = .int .i64 c ∧ Hid (leastP (p.take k) = c) ∧ c ≤ k ∧ Below w.heap.size w wr) (fun _ i _ => n - (intOf i).toNat)
    case atStart => exact ⟨0, 0, by omega, rfl, rfl, by simp [leastP, Hid], by omega, Below.refl _ _⟩
    case round =>
      obtain ⟨k, c, hk, rfl, rfl, HC, hck, hb⟩ := hrel
      by_cases hlt : k < n
      · have hkp : k < p.length := by have := HN.out; omega
        obtain ⟨b, o, rfl, hbN, hc⟩ := (HR.out.below hb).at_ (j := k) (by rw [ptsZ_len]; exact hkp)
        have e1 : (ptsZ p)[k]'(by rw [ptsZ_len]; exact hkp) = ((p[k] : Nat) : Int) := by simp [ptsZ]
        rw [e1] at hc
        have hlt2 := least_take p k hkp
        rw [HC.out] at hlt2
        obtain ⟨x, hx⟩ : ∃ x, x = p[k] := ⟨_, rfl⟩
        rw [← hx] at hc hlt2
        have HL := Lib.hid hlt2
        clear e1 hx hlt2 HC
        by_cases h37 : x = 37
        · subst h37
          have HC2 : Hid (leastP (p.take (k + 1)) = c) := by rw [HL.out]; simp [Hid]
          go_wp2
          go_roundw
          case rel => exact ⟨k + 1, c, by omega, by go_num, rfl, HC2, by omega, hb⟩
          case measure => simp [intOf]; omega
        · have q : ((x : Int) != 37) = true := by simp; omega
          have HC2 : Hid (leastP (p.take (k + 1)) = c + 1) := by rw [HL.out, if_neg h37]; rfl
          go_wp2
          go_roundw
          case rel => exact ⟨k + 1, c + 1, by omega, by go_num, by go_num, HC2, by omega, hb⟩
          case measure => simp [intOf]; omega
      · have HC2 : Hid (leastP p = c) := by
          have := HC.out
          rw [List.take_of_length_le (by have := HN.out; omega)] at this
          exact this
        go_wp2
        go_ret
        exact ⟨by rw [HC2.out]; rfl, hb⟩

/-! The law LikeBegins. -/
theorem begins_math {s : ByteArray} {P S : List Nat} (hP : ∀ v ∈ P, okP v = true) (hS : decS (bytesU s) = some S) (hM : M P S) :
    (strP (frontP P)).size ≤ s.size ∧ ((s.extract 0 (strP (frontP P)).size).toList == (strP (frontP P)).toList) = true ∧ leastP P ≤ s.size := by
  obtain ⟨h1, h2⟩ := M_begins P S hM
  obtain ⟨g1, g2⟩ := (decS_iff (bytesU_lt s) S).1 hS
  obtain ⟨R, rfl⟩ := h1
  have hlen := (encS_len (frontP P ++ R)).1
  rw [g2, bytesU_len] at hlen
  rw [encS_append] at g2
  have hF : ∀ v ∈ frontP P, okP v = true := fun v hv => g1 v (by simp [hv])
  have hsz : (strP (frontP P)).size ≤ s.size := by
    rw [strP_size, ← bytesU_len, ← g2, List.length_append]; omega
  refine ⟨hsz, ?_, by omega⟩
  rw [beq_iff_eq]
  congr 1
  apply ByteArray.ext
  apply Array.toList_inj.1
  rw [ByteArray.data_extract, Array.toList_extract]
  have e : s.data.toList = (encS (frontP P)).map UInt8.ofNat ++ (encS R).map UInt8.ofNat := by
    rw [← List.map_append, g2]
    unfold bytesU
    rw [List.map_map]
    conv => lhs; rw [← List.map_id s.data.toList]
    refine List.map_congr_left fun c _ => ?_
    simp
  rw [e, strP_size]
  simp [strP]

end Go.Proofs.YtfbknfdbfnklmabDoor
