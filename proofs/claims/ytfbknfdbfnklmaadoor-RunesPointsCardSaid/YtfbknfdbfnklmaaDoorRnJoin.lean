/- The walk of runes.Join. -/
import Derived.Test.YtfbknfdbfnklmaaDoorUFunc5
import Derived.Test.YtfbknfdbfnklmaaDoorUConv
import Derived.Test.YtfbknfdbfnklmaaDoorUSplit
import Derived.Shelf.Small.Utf8
namespace Go.Proofs.YtfbknfdbfnklmaaDoor
set_option linter.unusedSimpArgs false
open Go.RowKit

def badPt (c : Int) : Bool := !Lib.validRune c

theorem validRune_okP (v : Nat) : Lib.validRune (v : Int) = okP v := by
  rw [Bool.eq_iff_iff, okP_iff]
  unfold Lib.validRune
  rw [decide_eq_true_iff]
  omega

theorem cloBad_any (c : Int) (w : World) (hc : -2147483648 ≤ c ∧ c ≤ 2147483647) : Calls Tryd.prog 33 #[.int .i32 c] w fun e w' => e = .returned (.bool (badPt c)) ∧ Below w.heap.size w w' := by
  have HV : Hid (∀ W, Calls Tryd.prog 34 #[.int .i32 c] W fun e w' => e = .returned (.bool (Lib.validRune c)) ∧ w' = W) := fun W => Any.utf8_ValidRune Tryd.laysRune c W
  have HB : Hid (badPt c = !Lib.validRune c) := rfl
  obtain ⟨r, hr⟩ : ∃ r, Lib.validRune c = r := ⟨_, rfl⟩
  rw [hr] at HV HB
  clear hr
  go_enter Tryd.func33, Tryd.ntmps33
  go_wp2_with fail
  refine (HV.out _).mono ?_
  rintro e w1 ⟨rfl, rfl⟩
  go_wp2
  go_ret
  exact ⟨by rw [HB.out]; rfl, Below.refl _ _⟩

set_option maxHeartbeats 1000000 in
theorem idxBad_any (l : List Int) (hr : ∀ c ∈ l, -2147483648 ≤ c ∧ c ≤ 2147483647) (a : Option Addr) (len cap : Nat) (w : World) (hV : Rs .i32 w.heap.size w a l) (hlen : len = l.length) (hmax : len ≤ 140737488355328) :
    Calls Tryd.prog 45 #[.slice a len cap, .func (.func 33) #[] #[]] w fun e w' => e = .returned (.int .i64 (idxI badPt l)) ∧ Below w.heap.size w w' := by
  have HV := Lib.hid hV
  have HL := Lib.hid hlen
  have HRR := Lib.hid hr
  clear hV hlen hr
  go_enter Tryd.func45, Tryd.ntmps45
  go_wp2
  go_loopw [8] (fun i wr => ∃ k : Nat, k ≤ len ∧ i = .int .i64 k ∧ Hid ((l.take k).all (fun c => !badPt c) = true) ∧ Below w.heap.size w wr) (fun i _ => len - (intOf i).toNat)
  case atStart => exact ⟨0, by omega, rfl, by simp [Hid], Below.refl _ _⟩
  case round =>
    obtain ⟨k, hk, rfl, HI, hb⟩ := hrel
    have hsz := hb.size
    by_cases hlt : k < len
    · have hkl : k < l.length := by have := HL.out; omega
      obtain ⟨b, o, rfl, hbN, hc⟩ := (HV.out.below hb).at_ hkl
      have hyr := HRR.out _ (List.getElem_mem hkl)
      have HT := Lib.hid (fun h => take_all badPt l k hkl HI.out h)
      have HH := Lib.hid (fun h => idx_hit badPt l k hkl HI.out h)
      obtain ⟨y, hy⟩ : ∃ y, y = l[k] := ⟨_, rfl⟩
      rw [← hy] at hc HT HH hyr
      clear hy
      have HN := Lib.hid (fun W => cloBad_any y W hyr)
      obtain ⟨r, hrr⟩ : ∃ r, badPt y = r := ⟨_, rfl⟩
      rw [hrr] at HN HT HH
      clear hrr hyr
      go_wp2_with fail
      refine (HN.out _).mono ?_
      rintro e w1 ⟨rfl, hb1⟩
      clear HN
      cases r with
      | false =>
        go_wp2
        go_roundw
        case rel => exact ⟨k + 1, by omega, by go_num, HT.out (by trivial), hb.trans (Below.mono hb1 hsz)⟩
        case measure => simp [intOf]; omega
      | true =>
        go_wp2
        go_ret
        exact ⟨by rw [HH.out (by trivial)]; rfl, hb.trans (Below.mono hb1 hsz)⟩
    · go_wp2
      go_ret
      have hk2 : l.take k = l := List.take_of_length_le (by have := HL.out; omega)
      have := HI.out
      rw [hk2] at this
      exact ⟨by rw [idx_none _ _ this]; rfl, hb⟩

theorem hasBad_any (l : List Int) (hr : ∀ c ∈ l, -2147483648 ≤ c ∧ c ≤ 2147483647) (a : Option Addr) (len cap : Nat) (w : World) (hV : Rs .i32 w.heap.size w a l) (hlen : len = l.length) (hmax : len ≤ 140737488355328) :
    Calls Tryd.prog 32 #[.slice a len cap, .func (.func 33) #[] #[]] w fun e w' => e = .returned (.bool (l.any badPt)) ∧ Below w.heap.size w w' := by
  have HC := Lib.hid (idxBad_any l hr a len cap w hV hlen hmax)
  have hA := idx_any badPt l
  have hG := idx_ge badPt l
  obtain ⟨r, hrr⟩ : ∃ r, idxI badPt l = r := ⟨_, rfl⟩
  rw [hrr] at HC hA hG
  have HA := Lib.hid hA
  clear hV hlen hrr hA hr
  go_enter Tryd.func32, Tryd.ntmps32
  go_wp2_with fail
  refine HC.out.mono ?_
  rintro e w1 ⟨rfl, hb⟩
  clear HC
  go_wp2
  go_ret
  exact ⟨by rw [← HA.out]; rfl, hb⟩

def joinV (l : List Int) : ByteArray × Int := if l.any badPt then (⟨#[]⟩, 3) else (strP (l.map Int.toNat), 0)

theorem good_pts {l : List Int} (h : l.any badPt = false) : l = ptsZ (l.map Int.toNat) ∧ ∀ v ∈ l.map Int.toNat, okP v = true := by
  have hb : ∀ c ∈ l, Lib.validRune c = true := by
    intro c hc
    have := List.any_eq_false.1 h c hc
    unfold badPt at this
    simpa using this
  constructor
  · unfold ptsZ
    rw [List.map_map]
    conv => lhs; rw [← List.map_id l]
    apply List.map_congr_left
    intro c hc
    have := hb c hc
    unfold Lib.validRune at this
    rw [decide_eq_true_iff] at this
    show c = ((c.toNat : Nat) : Int)
    omega
  · intro v hv
    obtain ⟨c, hc, rfl⟩ := List.mem_map.1 hv
    have h1 := hb c hc
    have h0 : 0 ≤ c := by
      unfold Lib.validRune at h1
      rw [decide_eq_true_iff] at h1
      omega
    obtain ⟨n, rfl⟩ := Int.eq_ofNat_of_zero_le h0
    rw [← validRune_okP]
    simpa using h1

theorem pts_good {p : List Nat} (h : ∀ v ∈ p, okP v = true) : joinV (ptsZ p) = (strP p, 0) ∧ ∀ c ∈ ptsZ p, -2147483648 ≤ c ∧ c ≤ 2147483647 := by
  have h1 : (ptsZ p).any badPt = false := by
    rw [List.any_eq_false]
    intro c hc
    obtain ⟨v, hv, rfl⟩ := List.mem_map.1 hc
    unfold badPt
    rw [validRune_okP, h v hv]; simp
  have h2 : (ptsZ p).map Int.toNat = p := by
    unfold ptsZ
    rw [List.map_map]
    conv => rhs; rw [← List.map_id p]
    apply List.map_congr_left
    intro c _; simp
  refine ⟨?_, ?_⟩
  · unfold joinV
    rw [h1, h2]; rfl
  · intro c hc
    obtain ⟨v, hv, rfl⟩ := List.mem_map.1 hc
    have := okP_le (h v hv)
    omega

set_option maxHeartbeats 1000000 in
theorem Join_any (l : List Int) (hr : ∀ c ∈ l, -2147483648 ≤ c ∧ c ≤ 2147483647) (a : Option Addr) (len cap : Nat) (w : World) (hV : Rs .i32 w.heap.size w a l) (hlen : len = l.length) (hmax : len ≤ 140737488355328) :
    Calls Tryd.prog 14 #[.slice a len cap] w fun e w' => e = .returned (.tuple #[.string (joinV l).1, .int .i64 (joinV l).2]) ∧ Below w.heap.size w w' := by
  have HC := Lib.hid (hasBad_any l hr a len cap w hV hlen hmax)
  cases hb : l.any badPt with
  | true =>
    have HJ : Hid (joinV l = (⟨#[]⟩, 3)) := by unfold joinV; rw [if_pos hb]; rfl
    rw [hb] at HC
    clear hV hlen hr hb
    go_enter Tryd.func14, Tryd.ntmps14
    go_wp2_with fail
    refine HC.out.mono ?_
    rintro e w1 ⟨rfl, hb⟩
    go_wp2
    go_ret2
    exact ⟨by rw [HJ.out]; rfl, hb⟩
  | false =>
    have HJ : Hid (joinV l = (strP (l.map Int.toNat), 0)) := by unfold joinV; rw [if_neg (by rw [hb]; simp)]; rfl
    rw [hb] at HC
    obtain ⟨hl, hok⟩ := good_pts hb
    have HCV : Hid (∀ W, Below w.heap.size w W → (convert 22 9 (.slice a len cap)).run Tryd.prog W = .ok (.string (strP (l.map Int.toNat))) W) := by
      intro W hW
      have hV2 := (hV.below hW).mono hW.size
      rw [hl] at hV2
      exact Rs.str (P := Tryd.prog) hV2 hok 22 9 21 Tryd.underlying22 Tryd.underlying21 Tryd.underlying9 len cap (by rw [List.length_map]; exact hlen)
    clear hV hlen hr hb hl hok
    go_enter Tryd.func14, Tryd.ntmps14
    go_wp2_with fail
    refine HC.out.mono ?_
    rintro e w1 ⟨rfl, hb⟩
    have hcv := HCV.out w1 hb
    go_wp2
    go_ret2
    exact ⟨by rw [HJ.out]; rfl, hb⟩
end Go.Proofs.YtfbknfdbfnklmaaDoor
