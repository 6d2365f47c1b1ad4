/- The walk of hindsightref06.Front. -/
import Derived.Test.YtfbknfdbfnklmabDoorLFront
import Derived.Test.YtfbknfdbfnklmabDoorURWrite
import Derived.Test.YtfbknfdbfnklmabDoorURSplit
namespace Go.Proofs.YtfbknfdbfnklmabDoor
open Go.RowKit

theorem strN_enc (v : Nat) : strN (encP v) = strP [v] := by
  simp [strN, strP, encS]

theorem strP_snoc (p : List Nat) (v : Nat) : strP p ++ strP [v] = strP (p ++ [v]) := by
  apply ByteArray.ext
  simp [strP, encS]

theorem takeWhile_snoc (f : Nat → Bool) : ∀ (l : List Nat) (x : Nat), (l ++ [x]).takeWhile f = if l.all f = true then (if f x = true then l ++ [x] else l) else l.takeWhile f
  | [], x => by by_cases h : f x = true <;> simp [List.takeWhile_cons, h]
  | y :: l, x => by
    rw [List.cons_append, List.takeWhile_cons, List.takeWhile_cons, takeWhile_snoc f l x, List.all_cons]
    by_cases hy : f y = true
    · rw [if_pos hy, if_pos hy, hy, Bool.true_and]
      by_cases hl : l.all f = true
      · rw [if_pos hl, if_pos hl]
        by_cases hx : f x = true
        · rw [if_pos hx, if_pos hx]
        · rw [if_neg hx, if_neg hx]
      · rw [if_neg hl, if_neg hl]
    · rw [if_neg hy, if_neg hy]
      have : f y = false := by simpa using hy
      rw [this]; simp

def plainP (c : Nat) : Bool := c != 37 && c != 95

theorem front_snoc (p : List Nat) (k : Nat) (hk : k < p.length) : frontP (p.take (k + 1)) = if ((p.take k).all plainP && plainP p[k]) = true then frontP (p.take k) ++ [p[k]] else frontP (p.take k) := by
  have e : p.take (k + 1) = p.take k ++ [p[k]] := by rw [List.take_add_one, List.getElem?_eq_getElem hk]; rfl
  unfold frontP
  rw [e, takeWhile_snoc]
  have ha : (p.take k).all (fun c => c != 37 && c != 95) = (p.take k).all plainP := rfl
  rw [ha]
  by_cases hl : (p.take k).all plainP = true
  · have hw : (p.take k).takeWhile (fun c => c != 37 && c != 95) = p.take k := takeWhile_all _ _ (fun x hx => List.all_eq_true.1 hl x hx)
    rw [if_pos hl, hl, Bool.true_and, hw]
    rfl
  · rw [if_neg hl, if_neg]
    intro h
    rw [Bool.and_eq_true] at h
    exact hl h.1

theorem all_snoc (p : List Nat) (k : Nat) (hk : k < p.length) : (p.take (k + 1)).all plainP = ((p.take k).all plainP && plainP p[k]) := by
  rw [List.take_add_one, List.getElem?_eq_getElem hk, List.all_append]; simp

theorem encZ_nat {v : Nat} (h : okP v = true) : encZ (v : Int) = encP v := by
  have : okZ (v : Int) = true := by unfold okZ; simp [h]
  unfold encZ; rw [if_pos this]; rfl

theorem front_size (p : List Nat) (k : Nat) : (strP (frontP (p.take k))).size ≤ 4 * k := by
  rw [strP_size]
  have h1 := (encS_len (frontP (p.take k))).2
  have h2 : (frontP (p.take k)).length ≤ (p.take k).length := (List.takeWhile_prefix _).length_le
  have h3 : (p.take k).length ≤ k := List.length_take_le _ _
  omega

def ptsI (p : List Nat) : List Int := p.map fun (n : Nat) => (n : Int)

set_option maxRecDepth 100000 in
set_option maxHeartbeats 4000000 in
theorem rFront_any (p : List Nat) (hok : ∀ v ∈ p, okP v = true) (a : Option Addr) (n cap : Nat) (w : World) (hR : Rs .i64 w.heap.size w a (ptsI p)) (hn : n = p.length) (hmax : n ≤ 1000000) :
    Calls Tryd.prog 14 #[.slice a n cap] w fun e w' => e = .returned (.tuple #[.string (strP (frontP p)), .int .i64 (leastP p)]) ∧ Below w.heap.size w w' := by
  have HR := Lib.hid hR
  have HN := Lib.hid hn
  have HOK := Lib.hid hok
  clear hR hn hok
  go_enter Tryd.func14, Tryd.ntmps14
  go_wp2
  go_loopw [4, 5, 6, 7] (fun s4 s5 s6 s7 wr => ∃ (k c : Nat) (f : ByteArray) (ah : Bool), k ≤ n ∧ s7 = .int .i64 k ∧ s4 = .string f ∧ s5 = .int .i64 c ∧ s6 = .bool ah ∧ Hid (strP (frontP (p.take k)) = f) ∧ Hid (leastP (p.take k) = c) ∧ Hid ((p.take k).all plainP = ah) ∧ c ≤ k ∧ Below w.heap.size w wr) (fun _ _ _ s7 _ => n - (intOf s7).toNat)
  case atStart => exact ⟨0, 0, _, true, by omega, rfl, rfl, rfl, rfl, by simp [Hid, frontP, strP, encS], by simp [leastP, Hid], by simp [Hid], by omega, Below.refl _ _⟩
  case round =>
    obtain ⟨k, c, f, ah, hk, rfl, rfl, rfl, rfl, HF, HC, HAh, hck, hb⟩ := hrel
    by_cases hlt : k < n
    · have hkp : k < p.length := by have := HN.out; omega
      obtain ⟨b, o, rfl, hbN, hc⟩ := (HR.out.below hb).at_ (j := k) (by simp [ptsI]; exact hkp)
      have e1 : (ptsI p)[k]'(by simp [ptsI]; exact hkp) = ((p[k] : Nat) : Int) := by simp [ptsI]
      rw [e1] at hc
      have hl := least_take p k hkp
      have hf := front_snoc p k hkp
      have ha := all_snoc p k hkp
      have hv := HOK.out _ (List.getElem_mem hkp)
      rw [HC.out] at hl
      rw [HAh.out] at hf ha
      have hfs := front_size p k
      rw [HF.out] at hfs
      obtain ⟨x, hx⟩ : ∃ x, x = p[k] := ⟨_, rfl⟩
      rw [← hx] at hc hl hf ha hv
      have hx31 := okP_le hv
      have HL := Lib.hid hl
      have HFr := Lib.hid hf
      have HAl := Lib.hid ha
      have HW := Lib.hid (fun W => rWrite_any (x : Int) W (by omega) (by omega))
      rw [encZ_nat hv] at HW
      have HSt := Lib.hid (strN_enc x)
      clear e1 hx hl hf ha hv HC HAh
      by_cases hgo : ah = true ∧ x ≠ 37 ∧ x ≠ 95
      · obtain ⟨rfl, h37, h95⟩ := hgo
        have q1 : ((x : Int) != 37) = true := by simp; omega
        have q2 : ((x : Int) != 95) = true := by simp; omega
        have hpl : plainP x = true := by unfold plainP; simp [h37, h95]
        have HF2 : Hid (strP (frontP (p.take (k + 1))) = f ++ strP [x]) := by
          rw [HFr.out, hpl, if_pos (by simp), ← strP_snoc, HF.out]; rfl
        have HA2 : Hid ((p.take (k + 1)).all plainP = true) := by rw [HAl.out, hpl]; rfl
        have HL2 : Hid (leastP (p.take (k + 1)) = c + 1) := by rw [HL.out, if_neg h37]; rfl
        clear hpl HFr HAl HL HF
        go_wp2_with fail
        refine (HW.out _).mono ?_
        rintro e w1 ⟨hb1, a1, c1, rfl, hB1⟩
        have hcv := hB1.conv (P := Tryd.prog) 49 5 Tryd.underlying49 Tryd.underlying5 9 Tryd.underlying9 (encP x).length c1 rfl
        rw [HSt.out] at hcv
        have hc1 := (hb1.cell (p := ⟨b, o + k, none⟩) (by have := hb.size; show b < _; omega)).trans hc
        have hbb := hb.trans (hb1.mono hb.size)
        have hsx : (strP [x]).size ≤ 4 := by
          rw [strP_size]; have := (encS_len [x]).2; simpa using this
        have hss : ¬ 9223372036854775807 < f.size + (strP [x]).size := by omega
        obtain ⟨g, hg⟩ : ∃ g, strP [x] = g := ⟨_, rfl⟩
        rw [hg] at hcv hss HF2
        obtain ⟨nn, hnn⟩ : ∃ nn, (encP x).length = nn := ⟨_, rfl⟩
        rw [hnn] at hcv ⊢
        clear HW hB1 hb1 hc hb hg hsx hnn
        go_wp2
        go_roundw
        case rel => exact ⟨k + 1, c + 1, _, true, by omega, by go_num, rfl, by go_num, rfl, HF2, HL2, HA2, by omega, hbb⟩
        case measure => simp [intOf]; omega
      · have hpl : (ah && plainP x) = false := by
          rw [Bool.eq_false_iff]
          intro h
          rw [Bool.and_eq_true] at h
          refine hgo ⟨h.1, ?_⟩
          have := h.2
          unfold plainP at this
          simpa using this
        have HF2 : Hid (strP (frontP (p.take (k + 1))) = f) := by
          rw [HFr.out, hpl, if_neg (by simp), HF.out]; rfl
        have HA2 : Hid ((p.take (k + 1)).all plainP = false) := by rw [HAl.out, hpl]; rfl
        have hways : (ah = false ∧ x = 37) ∨ (ah = false ∧ x ≠ 37) ∨ (ah = true ∧ x = 37) ∨ (ah = true ∧ x ≠ 37 ∧ x = 95) := by
          cases ah with
          | false =>
            by_cases h : x = 37
            · exact .inl ⟨rfl, h⟩
            · exact .inr (.inl ⟨rfl, h⟩)
          | true =>
            by_cases h : x = 37
            · exact .inr (.inr (.inl ⟨rfl, h⟩))
            · by_cases h2 : x = 95
              · exact .inr (.inr (.inr ⟨rfl, h, h2⟩))
              · exact absurd ⟨rfl, h, h2⟩ hgo
        have HL2 : Hid (leastP (p.take (k + 1)) = c + if x = 37 then 0 else 1) := HL.out
        clear hgo hpl HFr HAl HL HF HW HSt
        rcases hways with ⟨rfl, rfl⟩ | ⟨rfl, h37⟩ | ⟨rfl, rfl⟩ | ⟨rfl, h37, rfl⟩
        · have HL3 : Hid (leastP (p.take (k + 1)) = c) := HL2.out
          clear HL2
          go_wp2
          go_roundw
          case rel => exact ⟨k + 1, c, _, false, by omega, by go_num, rfl, rfl, rfl, HF2, HL3, HA2, by omega, hb⟩
          case measure => simp [intOf]; omega
        · have HL3 : Hid (leastP (p.take (k + 1)) = c + 1) := by rw [HL2.out, if_neg h37]; rfl
          have q1 : ((x : Int) != 37) = true := by simp; omega
          clear HL2
          go_wp2
          go_roundw
          case rel => exact ⟨k + 1, c + 1, _, false, by omega, by go_num, rfl, by go_num, rfl, HF2, HL3, HA2, by omega, hb⟩
          case measure => simp [intOf]; omega
        · have HL3 : Hid (leastP (p.take (k + 1)) = c) := HL2.out
          clear HL2
          go_wp2
          go_roundw
          case rel => exact ⟨k + 1, c, _, false, by omega, by go_num, rfl, rfl, rfl, HF2, HL3, HA2, by omega, hb⟩
          case measure => simp [intOf]; omega
        · have HL3 : Hid (leastP (p.take (k + 1)) = c + 1) := HL2.out
          clear HL2
          go_wp2
          go_roundw
          case rel => exact ⟨k + 1, c + 1, _, false, by omega, by go_num, rfl, by go_num, rfl, HF2, HL3, HA2, by omega, hb⟩
          case measure => simp [intOf]; omega
    · have hall : p.take k = p := List.take_of_length_le (by have := HN.out; omega)
      have HF2 : Hid (strP (frontP p) = f) := by have := HF.out; rw [hall] at this; exact this
      have HL2 : Hid (leastP p = c) := by have := HC.out; rw [hall] at this; exact this
      clear hall HF HC HAh
      go_wp2
      go_ret2
      exact ⟨by rw [HF2.out, HL2.out]; rfl, hb⟩
end Go.Proofs.YtfbknfdbfnklmabDoor
