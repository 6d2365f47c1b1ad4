/- Several texts of one proof, one behind the other. -/
import Derived.Test.YtbnddpicpomakaaGreatDoorMPk10
import Derived.Deep.QuietTactic
import Derived.BigQuiet
import Derived.OpenShut
import Derived.Lib.SmallJoins
import Derived.SizedLaws
set_option linter.unusedSimpArgs false
set_option linter.unusedVariables false

/- The walk of the reference's bytes (layer 19). -/
set_option linter.unusedSimpArgs false
set_option linter.unusedVariables false
set_option maxRecDepth 100000
namespace Go.Proofs.YtbnddpicpomakaaGreatDoor
open Go.RowKit

theorem clZ_none {l : List Nat} {p : Nat} (h : clR 1 (l.drop (p + 1)) = none) : clZ l p = -1 := by
  unfold clZ
  rw [Nat.add_comm p 1, clR_up _ _ 1 p (Nat.le_refl _), Nat.add_comm 1 p, h]; rfl
theorem clZ_some {l : List Nat} {p k : Nat} (h : clR 1 (l.drop (p + 1)) = some k) : clZ l p = ((p + k : Nat) : Int) := by
  unfold clZ
  rw [Nat.add_comm p 1, clR_up _ _ 1 p (Nat.le_refl _), Nat.add_comm 1 p, h]
  show ((k + p : Nat) : Int) = _
  rw [Nat.add_comm]
theorem clR_bound {m : List Nat} {k : Nat} (h : clR 1 m = some k) : 1 ≤ k ∧ k ≤ m.length := by
  obtain ⟨b, r, hm, hk⟩ := clR_dbl _ m 1 k (Nat.le_refl _) h
  rw [hm, List.length_append, List.length_cons]; omega
theorem hexZ_some {c x : Nat} (h : hexV c = some x) : hexZ c = (x : Int) := by unfold hexZ; rw [h]
theorem hexZ_none {c : Nat} (h : hexV c = none) : hexZ c = -1 := by unfold hexZ; rw [h]
theorem unhex_two {l : List Nat} {j a b : Nat} (h1 : l[j]? = some a) (h2 : l[j + 1]? = some b) : unhexR (l.drop j) = match hexV a, hexV b, unhexR (l.drop (j + 2)) with
    | some x, some y, some r => some ((16 * x + y) :: r)
    | _, _, _ => none := by
  obtain ⟨g1, rfl⟩ := List.getElem?_eq_some_iff.1 h1
  obtain ⟨g2, rfl⟩ := List.getElem?_eq_some_iff.1 h2
  rw [List.drop_eq_getElem_cons g1, List.drop_eq_getElem_cons g2, unhexR]
  rfl

theorem rDig_quiet (c : Nat) (w : World) (hc : c < 256) : Calls Tryz.prog 99 #[.int .u8 (c : Int)] w fun e w' => e = .returned (.int .i64 (hexZ c)) ∧ w' = w := (rDigit_any c w hc).mono fun _ _ h => ⟨h.1, h.2.symm⟩
/-- What 'bytes' hands back. -/
def RetBy (o : Option (List Nat × Nat)) (p : Nat) (w : World) (e : Ending) (w' : World) : Prop :=
  Below w.heap.size w w' ∧ ((o = none ∧ e = .returned (.tuple #[.string ⟨#[]⟩, .int .i64 0])) ∨ ∃ b k, o = some (b, k) ∧ e = .returned (.tuple #[.string (strN b), .int .i64 ((p + k : Nat) : Int)]))

set_option maxRecDepth 1000000 in
set_option maxHeartbeats 8000000 in
theorem rBytes_any (s : ByteArray) (p : Nat) (w : World) (hs : s.size ≤ 400000) (hp : p < s.size) :
    Calls Tryz.prog 61 #[.string s, .int .i64 (p : Int)] w (RetBy (bytR ((bytesU s).drop (p + 1))) p w) := by
  obtain ⟨i0, hi, hz0, hz1, hz2⟩ := info_parts Tryz.info5
  have HCl := Lib.hid (fun W => rClosing_any s p W (by omega) hp)
  have HO : Hid (bytR ((bytesU s).drop (p + 1)) = match clR 1 ((bytesU s).drop (p + 1)) with
    | none => none
    | some k => (unhexR (((bytesU s).drop (p + 1)).take (k - 1))).map fun b => (b, k + 1)) := rfl
  cases hk : clR 1 ((bytesU s).drop (p + 1)) with
  | none =>
    rw [clZ_none hk] at HCl
    rw [hk] at HO
    generalize bytR ((bytesU s).drop (p + 1)) = o at *
    clear hk
    go_enter Tryz.func61, Tryz.ntmps61
    go_wp2_with fail
    refine (HCl.out _).mono ?_
    rintro e w1 ⟨rfl, rfl⟩
    go_wp2
    go_ret2
    exact ⟨Below.refl _ _, .inl ⟨HO.out, rfl⟩⟩
  | some k =>
    have hbd := clR_bound hk
    rw [List.length_drop, bytesU_len] at hbd
    rw [clZ_some hk] at HCl
    rw [hk] at HO
    have HO2 : Hid (bytR ((bytesU s).drop (p + 1)) = (unhexR (((bytesU s).drop (p + 1)).take (k - 1))).map fun b => (b, k + 1)) := HO.out
    clear hk HO
    have hlen : (((bytesU s).drop (p + 1)).take (k - 1)).length = k - 1 := by rw [List.length_take, List.length_drop, bytesU_len]; omega
    have hraw : ∀ j (h : j < k - 1) (h2 : p + 1 + j < s.size), (((bytesU s).drop (p + 1)).take (k - 1))[j]? = some (s[p + 1 + j]'h2).toNat := fun j h h2 => by
      rw [List.getElem?_take_of_lt h, List.getElem?_drop, List.getElem?_eq_getElem (by rw [bytesU_len]; exact h2), bytesU_get s _ h2]
    have HR := Lib.hid hraw
    have HL := Lib.hid hlen
    generalize bytR ((bytesU s).drop (p + 1)) = o at *
    generalize ((bytesU s).drop (p + 1)).take (k - 1) = raw at *
    obtain ⟨en, hen⟩ : ∃ en, p + k = en := ⟨_, rfl⟩
    have hE1 : ((en : Nat) : Int) - (p : Int) = (k : Int) := by omega
    rw [hen] at HCl
    by_cases hev : k % 2 = 0
    · have HN : Hid (o = none) := by
        show _ = _
        rw [HO2.out]
        cases hu : unhexR raw with
        | none => rfl
        | some r =>
          have := (unhex_mem _ raw r (Nat.le_refl _) hu).2
          rw [HL.out] at this; omega
      have hm : (((en : Int) - (p : Int)) % 2 == 0) = true := by rw [beq_iff_eq, hE1]; omega
      clear HO2 HR HL hraw hlen hE1
      go_enter Tryz.func61, Tryz.ntmps61
      go_wp2_with fail
      refine (HCl.out _).mono ?_
      rintro e w1 ⟨rfl, rfl⟩
      go_wp2
      go_ret2
      exact ⟨Below.refl _ _, .inl ⟨HN.out, rfl⟩⟩
    · have hm : (((en : Int) - (p : Int)) % 2 == 0) = false := by rw [beq_eq_false_iff_ne, hE1]; omega
      clear hraw hlen hE1
      go_enter Tryz.func61, Tryz.ntmps61
      go_wp2_with fail
      refine (HCl.out _).mono ?_
      rintro e w1 ⟨rfl, rfl⟩
      go_wp2
      go_loopw [7, 8] (fun v i wr => ∃ (j : Nat) (q : List Nat), 2 * j ≤ k - 1 ∧ q.length = j ∧ i = .int .i64 ((p + 1 + 2 * j : Nat) : Int) ∧ OwnB wr w.heap.size 5 v q ∧ Hid (unhexR raw = (unhexR (raw.drop (2 * j))).map (q ++ ·)) ∧ Below w.heap.size w wr) (fun _ i _ => s.size - (intOf i).toNat)
      case atStart => exact ⟨0, [], by omega, rfl, by go_num, OwnB.nil _ _ _, by show _ = _; simp, Below.refl _ _⟩
      case round =>
        obtain ⟨j, q, hj, hqj, rfl, hown, HQ, hb⟩ := hrel
        obtain ⟨i, hii⟩ : ∃ i, p + 1 + 2 * j = i := ⟨_, rfl⟩
        have hsz := hb.size
        rw [hii]
        by_cases hlt : 2 * j < k - 1
        · have h1 : i < s.size := by omega
          have h2 : i + 1 < s.size := by omega
          have hr1 := HR.out (2 * j) (by omega) (by omega)
          have hr2 := HR.out (2 * j + 1) (by omega) (by omega)
          have hu := unhex_two hr1 hr2
          have e1 : (s[p + 1 + 2 * j]'(by omega)).toNat = (s[i]'h1).toNat := by subst hii; rfl
          have e2 : (s[p + 1 + (2 * j + 1)]'(by omega)).toNat = (s[i + 1]'h2).toNat := by subst hii; rfl
          rw [e1, e2] at hu
          have HU := Lib.hid hu
          have c1 : (s[i]'h1).toNat < 256 := (s[i]'h1).toNat_lt
          have c2 : (s[i + 1]'h2).toNat < 256 := (s[i + 1]'h2).toNat_lt
          have q0 : decide ((i : Int) < (en : Int)) = true := by simp; omega
          have g1 : (0 : Int) ≤ (i : Int) + 1 := by omega
          have g2 : (i : Int) + 1 < (s.size : Int) := by omega
          have HII := Lib.hid hii
          have hie : i < en := by omega
          have HJ : Hid (2 * (j + 1) ≤ k - 1) := by show _ ≤ _; omega
          have HQJ : Hid (q.length + 1 = j + 1) := by rw [hqj]; rfl
          have hql : q.length ≤ 400000 := by omega
          clear hu hr1 hr2 e1 e2 hii hlt hj hqj hev hm hen hbd
          cases hv1 : hexV (s[i]'h1).toNat with
          | none =>
            have HN : Hid (o = none) := by
              show _ = _
              rw [HO2.out, HQ.out, HU.out, hv1]; rfl
            have x1 := hexZ_none hv1
            obtain ⟨x2, hx2⟩ : ∃ x, hexZ (s[i + 1]'h2).toNat = x := ⟨_, rfl⟩
            clear HU HQ HO2 hv1
            go_wp2_with fail
            go_quiet (refine Calls.quiet_of_same (rDig_quiet _ _ (by assumption)))
            go_wp2
            go_ret2
            exact ⟨drewN_bel hb _, .inl ⟨HN.out, rfl⟩⟩
          | some x =>
            have x1 := hexZ_some hv1
            have hx := hexV_lt hv1
            cases hv2 : hexV (s[i + 1]'h2).toNat with
            | none =>
              have HN : Hid (o = none) := by
                show _ = _
                rw [HO2.out, HQ.out, HU.out, hv1, hv2]; rfl
              have x2 := hexZ_none hv2
              clear HU HQ HO2 hv1 hv2
              go_wp2_with fail
              go_quiet (refine Calls.quiet_of_same (rDig_quiet _ _ (by assumption)))
              go_wp2
              go_ret2
              exact ⟨drewN_bel hb _, .inl ⟨HN.out, rfl⟩⟩
            | some y =>
              have x2 := hexZ_some hv2
              have hy := hexV_lt hv2
              have HQ2 : Hid (unhexR raw = (unhexR (raw.drop (2 * (j + 1)))).map ((q ++ [16 * x + y]) ++ ·)) := by
                show _ = _
                rw [HQ.out, HU.out, hv1, hv2, show 2 * (j + 1) = 2 * j + 2 by omega]
                cases unhexR (raw.drop (2 * j + 2)) <;> simp
              clear HU HQ hv1 hv2
              obtain ⟨z, hz⟩ : ∃ z, 16 * x + y = z := ⟨_, rfl⟩
              have hxy : (16 * (x : Int) + (y : Int)) = (z : Int) := by omega
              have hz256 : z < 256 := by omega
              rw [hz] at HQ2
              clear hz
              go_wp2_with fail
              go_quiet (refine Calls.quiet_of_same (rDig_quiet _ _ (by assumption)))
              go_wp2_with (at_builtin; refine wpList_app1 rfl _ _ 99 rfl w.heap.size 5 i0 Tryz.underlying99 hi hz0 hz1 hz2 _ _ _ (hown.below (Nat.le_refl _) (drewN_bel (Below.refl _ _) _)) rfl z (by omega) _ rfl rfl (by omega) hsz ?_; intro v1 w1 hown1 hb1' hsz1')
              go_roundw
              case rel => exact ⟨j + 1, _, HJ.out, by rw [List.length_append]; exact HQJ.out, by rw [show p + 1 + 2 * (j + 1) = i + 2 from by have := HII.out; omega]; go_num, hown1, HQ2, (drewN_bel hb _).trans hb1'⟩
              case measure => simp [intOf]; omega
        · have HV : Hid (o = some (q, k + 1)) := by
            show _ = _
            rw [HO2.out, HQ.out, List.drop_of_length_le (by rw [HL.out]; omega)]
            simp [unhexR]
          have q0 : decide ((i : Int) < (en : Int)) = false := by simp; omega
          obtain ⟨a, cap, rfl, hcap, hB, _⟩ := hown.slice
          have hcv := hB.conv (P := Tryz.prog) 99 5 Tryz.underlying99 Tryz.underlying5 9 Tryz.underlying9 _ cap rfl
          rw [hqj] at hcv
          clear hB hown HQ HO2
          rw [hqj]
          go_wp2
          go_ret2
          exact ⟨hb, .inr ⟨q, k + 1, HV.out, by rw [show p + (k + 1) = en + 1 from by omega]; rfl⟩⟩
end Go.Proofs.YtbnddpicpomakaaGreatDoor

/- The walk of the reference's Name. -/
set_option linter.unusedSimpArgs false
set_option linter.unusedVariables false
set_option maxRecDepth 100000
namespace Go.Proofs.YtbnddpicpomakaaGreatDoor
set_option linter.unusedSimpArgs false
open Go.RowKit

theorem byteN_getD (s : ByteArray) (i : Nat) (h : i < s.size) : (s[i]'h).toNat = byteN s i := (byteN_at s i h).symm

set_option maxHeartbeats 1000000 in
theorem rName_any (s : ByteArray) (w : World) (hs : s.size ≤ 140737488351232) :
    Calls Tryz.prog 101 #[.string s] w fun e w' => e = .returned (.tuple #[.string (nameV s).1, .int .i64 (nameV s).2]) ∧ Below w.heap.size w w' := by
  by_cases hl : 20 < s.size
  · have HN : Hid (nameV s = (⟨#[]⟩, 2)) := by unfold nameV; rw [if_pos hl]; rfl
    go_enter Tryz.func101, Tryz.ntmps101
    go_wp2
    go_ret2
    exact ⟨by rw [HN.out]; rfl, Below.refl _ _⟩
  · have ql : decide ((20 : Int) < (s.size : Int)) = false := by simp; omega
    have HF := Lib.hid (fun W => rFold_any s W (by omega))
    have hN : nameV s = if nameB s = false then (⟨#[]⟩, 3) else (foldS s, 0) := by unfold nameV; rw [if_neg hl]
    obtain ⟨f, hf⟩ : ∃ f, foldS s = f := ⟨_, rfl⟩
    rw [hf] at HF hN
    have HN := Lib.hid hN
    clear hN hf
    go_enter Tryz.func101, Tryz.ntmps101
    go_wp2
    go_loopw [4] (fun i wr => ∃ k : Nat, k ≤ s.size ∧ i = .int .i64 k ∧ Hid (∀ i, i < k → okN i (byteN s i) = true) ∧ w = wr) (fun i _ => s.size - (intOf i).toNat)
    case atStart => exact ⟨0, by omega, rfl, by simp [Hid], rfl⟩
    case round =>
      obtain ⟨k, hk, rfl, HI, rfl⟩ := hrel
      by_cases hlt : k < s.size
      · have HB := Lib.hid (byteN_at s k hlt)
        obtain ⟨c, hc⟩ : ∃ c, (s[k]'hlt).toNat = c := ⟨_, rfl⟩
        have HCl := Lib.hid (fun W => rClass_any ((s[k]'hlt).toNat : Int) W)
        obtain ⟨z, hz⟩ : ∃ z, classZ ((s[k]'hlt).toNat : Int) = z := ⟨_, rfl⟩
        rw [hz] at HCl
        rw [hc] at HB
        have hok : okN k c = (z == 2 || (z == 3 && k != 0)) := by unfold okN; rw [← hc, hz]
        have HOk := Lib.hid hok
        have hc256 := (s[k]'hlt).toNat_lt
        clear hc hz hok
        go_wp2_with fail
        refine (HCl.out _).mono ?_
        rintro e w1 ⟨rfl, rfl⟩
        clear HCl
        by_cases hgo : z = 2 ∨ (z = 3 ∧ k ≠ 0)
        · have HI2 : Hid (∀ i, i < k + 1 → okN i (byteN s i) = true) := by
            intro i hi
            by_cases h : i = k
            · subst h
              rw [HB.out, HOk.out]
              rcases hgo with h | ⟨h, h'⟩ <;> simp [h]
              exact h'
            · exact HI.out i (by omega)
          clear HI HOk HB
          by_cases h2 : z = 2
          · subst h2
            by_cases hk0 : k = 0
            · subst hk0
              go_wp2
              go_roundw
              case rel => exact ⟨1, by omega, by go_num, HI2, trivial⟩
              case measure => simp [intOf]; omega
            · have q0 : ((k : Int) == 0) = false := by simp; omega
              clear hgo
              go_wp2
              go_roundw
              case rel => exact ⟨k + 1, by omega, by go_num, HI2, trivial⟩
              case measure => simp [intOf]; omega
          · obtain ⟨rfl, h0⟩ : z = 3 ∧ k ≠ 0 := by
              rcases hgo with h | h
              · exact absurd h h2
              · exact h
            have q0 : ((k : Int) == 0) = false := by simp; omega
            clear hgo h2
            go_wp2
            go_roundw
            case rel => exact ⟨k + 1, by omega, by go_num, HI2, trivial⟩
            case measure => simp [intOf]; omega
        · have HNB : Hid (nameB s = false) := nameB_false hlt (by
            rw [HB.out, HOk.out]
            rw [Bool.eq_false_iff]
            intro h
            simp only [Bool.or_eq_true, Bool.and_eq_true, beq_iff_eq, bne_iff_ne, ne_eq] at h
            exact hgo h)
          have HN2 : Hid (nameV s = (⟨#[]⟩, 3)) := by rw [HN.out, HNB.out]; rfl
          have hways : (z ≠ 2 ∧ z ≠ 3) ∨ (z = 3 ∧ k = 0) := by omega
          clear HI HOk HB hgo HNB HN
          rcases hways with ⟨h2, h3⟩ | ⟨rfl, rfl⟩
          · have q2 : (z != 2) = true := by simp [h2]
            have q3 : (z != 3) = true := by simp [h3]
            have q4 : (z == 3) = false := by simp [h3]
            go_wp2
            go_ret2
            exact ⟨by rw [HN2.out]; rfl, Below.refl _ _⟩
          · go_wp2
            go_ret2
            exact ⟨by rw [HN2.out]; rfl, Below.refl _ _⟩
      · by_cases h0 : s.size = 0
        · have HN2 : Hid (nameV s = (⟨#[]⟩, 3)) := by rw [HN.out]; unfold nameB; simp [h0, Hid]
          have q0 : ((s.size : Int) == 0) = true := by rw [h0]; rfl
          clear HI HN
          go_wp2
          go_ret2
          exact ⟨by rw [HN2.out]; rfl, Below.refl _ _⟩
        · have HNB : Hid (nameB s = true) := nameB_true.2 ⟨by omega, fun i hi => HI.out i (by omega)⟩
          have HN2 : Hid (nameV s = (f, 0)) := by rw [HN.out, HNB.out]; rfl
          have q0 : ((s.size : Int) == 0) = false := by rw [Bool.eq_false_iff]; intro h; rw [beq_iff_eq] at h; omega
          clear HI HN HNB
          go_wp2_with fail
          refine (HF.out _).mono ?_
          rintro e w2 ⟨rfl, b2⟩
          go_wp2
          go_ret2
          exact ⟨by rw [HN2.out]; rfl, b2⟩
end Go.Proofs.YtbnddpicpomakaaGreatDoor

/- The walks of hindsightref05.Number and Digits. -/
set_option linter.unusedSimpArgs false
set_option linter.unusedVariables false
set_option maxRecDepth 100000
namespace Go.Proofs.YtbnddpicpomakaaGreatDoor
set_option linter.unusedSimpArgs false
open Go.RowKit

/-- What the loop holds when k digits are read: the number, or that it is over. -/
def NumSt (s : ByteArray) (k : Nat) (n e : Int) : Prop :=
  (∀ i, i < k → 48 ≤ byteN s i ∧ byteN s i ≤ 57) ∧ 0 ≤ n ∧ n ≤ 9223372036854775807 ∧
    ((e = 0 ∧ n = ((valF 0 ((bytesU s).take k) : Nat) : Int)) ∨ (e = 21 ∧ 9223372036854775808 ≤ valF 0 ((bytesU s).take k)))

theorem NumSt.next {s : ByteArray} {k : Nat} {n e : Int} (h : NumSt s k n e) (hk : k < s.size) (c : Nat) (hc : byteN s k = c) (h48 : 48 ≤ c) (h57 : c ≤ 57) :
    (∀ i, i < k + 1 → 48 ≤ byteN s i ∧ byteN s i ≤ 57) ∧ valF 0 ((bytesU s).take (k + 1)) = valF 0 ((bytesU s).take k) * 10 + (c - 48) := by
  refine ⟨fun i hi => ?_, ?_⟩
  · by_cases h1 : i = k
    · subst h1; rw [hc]; exact ⟨h48, h57⟩
    · exact h.1 i (by omega)
  · have hkl : k < (bytesU s).length := by rw [bytesU_len]; exact hk
    rw [List.take_add_one, List.getElem?_eq_getElem hkl]
    show valF 0 ((bytesU s).take k ++ [(bytesU s)[k]]) = _
    rw [valF_snoc]
    have : (bytesU s)[k] = c := by
      rw [← hc]; unfold byteN
      rw [List.getD_eq_getElem?_getD, List.getElem?_eq_getElem hkl]; rfl
    rw [this]

theorem NumSt.over {s : ByteArray} {k : Nat} {n e : Int} (h : NumSt s k n e) (hk : k < s.size) (c : Nat) (hc : byteN s k = c) (h48 : 48 ≤ c) (h57 : c ≤ 57) (ho : 922337203685477580 < n ∨ (n = 922337203685477580 ∧ 7 < (c : Int) - 48)) : NumSt s (k + 1) n 21 := by
  obtain ⟨h1, h2⟩ := h.next hk c hc h48 h57
  obtain ⟨_, h3, h4, h5⟩ := h
  refine ⟨h1, h3, h4, .inr ⟨rfl, ?_⟩⟩
  rw [h2]
  rcases h5 with ⟨_, h5⟩ | ⟨_, h5⟩ <;> omega
theorem NumSt.keep {s : ByteArray} {k : Nat} {n : Int} (h : NumSt s k n 21) (hk : k < s.size) (c : Nat) (hc : byteN s k = c) (h48 : 48 ≤ c) (h57 : c ≤ 57) : NumSt s (k + 1) n 21 := by
  obtain ⟨h1, h2⟩ := h.next hk c hc h48 h57
  obtain ⟨_, h3, h4, h5⟩ := h
  refine ⟨h1, h3, h4, .inr ⟨rfl, ?_⟩⟩
  rw [h2]
  rcases h5 with ⟨h5, _⟩ | ⟨_, h5⟩ <;> omega
theorem NumSt.add {s : ByteArray} {k : Nat} {n : Int} (h : NumSt s k n 0) (hk : k < s.size) (c : Nat) (hc : byteN s k = c) (h48 : 48 ≤ c) (h57 : c ≤ 57) (ho : ¬ (922337203685477580 < n ∨ (n = 922337203685477580 ∧ 7 < (c : Int) - 48))) : NumSt s (k + 1) (10 * n + ((c : Int) - 48)) 0 := by
  obtain ⟨h1, h2⟩ := h.next hk c hc h48 h57
  obtain ⟨_, h3, h4, h5⟩ := h
  refine ⟨h1, by omega, by omega, .inl ⟨rfl, ?_⟩⟩
  rw [h2]
  rcases h5 with ⟨_, h5⟩ | ⟨h5, _⟩ <;> omega
theorem NumSt.done {s : ByteArray} {n e : Int} (h : NumSt s s.size n e) (h0 : 0 < s.size) : (e = 0 ∧ numberV s = (n, 0)) ∨ (e = 21 ∧ numberV s = (0, 21)) := by
  obtain ⟨h1, h3, h4, h5⟩ := h
  have hd : digitsB s = true := digitsB_true.2 ⟨h0, h1⟩
  have hall : (bytesU s).take s.size = bytesU s := List.take_of_length_le (by rw [bytesU_len]; omega)
  rw [hall] at h5
  have hv : valL (bytesU s) = valF 0 (bytesU s) := rfl
  rcases h5 with ⟨rfl, h5⟩ | ⟨rfl, h5⟩
  · left
    refine ⟨rfl, ?_⟩
    unfold numberV
    rw [if_neg (by rw [hd]; simp), hv, if_neg (by omega), h5]
  · right
    refine ⟨rfl, ?_⟩
    unfold numberV
    rw [if_neg (by rw [hd]; simp), hv, if_pos h5]

set_option maxRecDepth 1000000 in
set_option maxHeartbeats 8000000 in
theorem rNumber_any (s : ByteArray) (w : World) (hs : s.size ≤ 1000000) :
    Calls Tryz.prog 100 #[.string s] w fun e w' => e = .returned (.tuple #[.int .i64 (numberV s).1, .int .i64 (numberV s).2]) ∧ Below w.heap.size w w' := by
  go_enter Tryz.func100, Tryz.ntmps100
  go_wp2
  go_loopw [4, 5, 6] (fun nv ev i wr => ∃ (k : Nat) (n e : Int), k ≤ s.size ∧ nv = .int .i64 n ∧ ev = .int .i64 e ∧ i = .int .i64 k ∧ Hid (NumSt s k n e) ∧ w = wr) (fun _ _ i _ => s.size - (intOf i).toNat)
  case atStart => exact ⟨0, 0, 0, by omega, rfl, rfl, rfl, ⟨fun i hi => by omega, by omega, by omega, .inl ⟨rfl, rfl⟩⟩, rfl⟩
  case round =>
    obtain ⟨k, n, e, hk, rfl, rfl, rfl, HI, rfl⟩ := hrel
    have hn0 := HI.out.2.1
    have hn1 := HI.out.2.2.1
    by_cases hlt : k < s.size
    · have hB := byteN_at s k hlt
      have hc256 := (s[k]'hlt).toNat_lt
      by_cases hd : 48 ≤ (s[k]'hlt).toNat ∧ (s[k]'hlt).toNat ≤ 57
      · obtain ⟨h48, h57⟩ := hd
        have HO := Lib.hid (HI.out.over hlt _ hB h48 h57)
        have HK := Lib.hid (fun (h : e = 21) => NumSt.keep (by rw [← h]; exact HI.out) hlt _ hB h48 h57)
        have HD := Lib.hid (fun (h : e = 0) => NumSt.add (by rw [← h]; exact HI.out) hlt _ hB h48 h57)
        have he : e = 0 ∨ e = 21 := by
          rcases HI.out.2.2.2 with ⟨h, _⟩ | ⟨h, _⟩
          · exact .inl h
          · exact .inr h
        clear HI hB
        have q1 : decide (((s[k]'hlt).toNat : Int) - 48 < 0) = false := by simp; omega
        have q2 : decide ((9 : Int) < ((s[k]'hlt).toNat : Int) - 48) = false := by simp; omega
        by_cases g1 : 922337203685477580 < n
        · have HO2 := Lib.hid (HO.out (.inl g1))
          clear HO HK HD
          rcases he with rfl | rfl
          all_goals
            go_wp2
            go_roundw
            case rel => exact ⟨k + 1, n, 21, by omega, rfl, rfl, by go_num, HO2, trivial⟩
            case measure => simp [intOf]; omega
        · by_cases g2 : n = 922337203685477580
          · subst g2
            by_cases g3 : 7 < ((s[k]'hlt).toNat : Int) - 48
            · have HO2 := Lib.hid (HO.out (.inr ⟨rfl, g3⟩))
              have q3 : decide ((7 : Int) < ((s[k]'hlt).toNat : Int) - 48) = true := by simp; omega
              clear HO HK HD
              rcases he with rfl | rfl
              all_goals
                go_wp2
                go_roundw
                case rel => exact ⟨k + 1, _, 21, by omega, rfl, rfl, by go_num, HO2, trivial⟩
                case measure => simp [intOf]; omega
            · have q3 : decide ((7 : Int) < ((s[k]'hlt).toNat : Int) - 48) = false := by simp; omega
              have HD2 := Lib.hid (fun h => HD.out h (by omega))
              clear HO HD
              rcases he with rfl | rfl
              · have HD3 := Lib.hid (HD2.out rfl)
                clear HD2 HK
                go_wp2
                go_roundw
                case rel => exact ⟨k + 1, _, 0, by omega, by go_num, rfl, by go_num, HD3, trivial⟩
                case measure => simp [intOf]; omega
              · have HK2 := Lib.hid (HK.out rfl)
                clear HD2 HK
                go_wp2
                go_roundw
                case rel => exact ⟨k + 1, _, 21, by omega, rfl, rfl, by go_num, HK2, trivial⟩
                case measure => simp [intOf]; omega
          · have g2' : (n == 922337203685477580) = false := by simp [g2]
            have HD2 := Lib.hid (fun h => HD.out h (by omega))
            clear HO HD
            rcases he with rfl | rfl
            · have HD3 := Lib.hid (HD2.out rfl)
              clear HD2 HK
              go_wp2
              go_roundw
              case rel => exact ⟨k + 1, _, 0, by omega, by go_num, rfl, by go_num, HD3, trivial⟩
              case measure => simp [intOf]; omega
            · have HK2 := Lib.hid (HK.out rfl)
              clear HD2 HK
              go_wp2
              go_roundw
              case rel => exact ⟨k + 1, _, 21, by omega, rfl, rfl, by go_num, HK2, trivial⟩
              case measure => simp [intOf]; omega
      · have HN : Hid (numberV s = (0, 3)) := by
          unfold numberV
          rw [if_pos (digitsB_false hlt (by rw [hB]; exact hd))]; rfl
        clear HI hB
        by_cases hlo : (s[k]'hlt).toNat < 48
        · have q1 : decide (((s[k]'hlt).toNat : Int) - 48 < 0) = true := by simp; omega
          clear hd
          go_wp2
          go_ret2
          exact ⟨by rw [HN.out]; rfl, Below.refl _ _⟩
        · have q1 : decide (((s[k]'hlt).toNat : Int) - 48 < 0) = false := by simp; omega
          have q2 : decide ((9 : Int) < ((s[k]'hlt).toNat : Int) - 48) = true := by simp; omega
          clear hd
          go_wp2
          go_ret2
          exact ⟨by rw [HN.out]; rfl, Below.refl _ _⟩
    · by_cases h0 : s.size = 0
      · have HN : Hid (numberV s = (0, 3)) := by
          unfold numberV
          rw [if_pos (by unfold digitsB; simp [h0])]; rfl
        have q0 : ((s.size : Int) == 0) = true := by rw [h0]; rfl
        clear HI
        go_wp2
        go_ret2
        exact ⟨by rw [HN.out]; rfl, Below.refl _ _⟩
      · have hks : k = s.size := by omega
        have hdn := HI.out
        rw [hks] at hdn
        have HN := Lib.hid (hdn.done (by omega))
        have q0 : ((s.size : Int) == 0) = false := by rw [Bool.eq_false_iff]; intro h; rw [beq_iff_eq] at h; omega
        clear HI hdn hks
        have hN := HN.out
        clear HN
        rcases hN with ⟨rfl, hN⟩ | ⟨rfl, hN⟩
        all_goals
          have HN := Lib.hid hN
          clear hN
          go_wp2
          go_ret2
          exact ⟨by rw [HN.out]; rfl, Below.refl _ _⟩
end Go.Proofs.YtbnddpicpomakaaGreatDoor

/- Rows of values that came in, element by element. -/
set_option linter.unusedSimpArgs false
set_option linter.unusedVariables false
set_option maxRecDepth 100000
namespace Go.Proofs.YtbnddpicpomakaaGreatDoor
open Go.RowKit Go.ChangeShapes Go.WideShapes Go.Deep Go.Joins

theorem cellsOf_at {α : Type} (f : α → List Value) (z : Nat) (hz : 0 < z) (hf : ∀ x, (f x).length = z) : ∀ (l : List α) (i : Nat) (v : Value), (cellsOf f l)[i]? = some v → ∃ y, l[i / z]? = some y ∧ (f y)[i % z]? = some v
  | [], i, v, h => by simp [cellsOf] at h
  | x :: r, i, v, h => by
    have e : cellsOf f (x :: r) = f x ++ cellsOf f r := rfl
    rw [e] at h
    by_cases hi : i < z
    · rw [List.getElem?_append_left (by rw [hf]; exact hi)] at h
      exact ⟨x, by rw [Nat.div_eq_of_lt hi]; rfl, by rw [Nat.mod_eq_of_lt hi]; exact h⟩
    · rw [List.getElem?_append_right (by rw [hf]; omega), hf] at h
      obtain ⟨y, h1, h2⟩ := cellsOf_at f z hz hf r (i - z) v h
      have e1 : i = (i - z) + z := by omega
      refine ⟨y, ?_, ?_⟩
      · rw [e1, Nat.add_div_right _ hz]; exact h1
      · rw [e1, Nat.add_mod_right]; exact h2

/-- A row of values that came in, element by element. -/
theorem row_of {α : Type} (f : α → List Value) (z : Nat) (hz : 0 < z) (hf : ∀ x, (f x).length = z) (Q : α → Prop) (w : World) (x : Addr) (len : Nat)
    (hex : ∀ i : Fin len, ∃ y, Q y ∧ ∀ (j : Nat) (v : Value), (f y)[j]? = some v → w.cell? ((x.add (i.1 * z)).add j) = some v) :
    ∃ L : List α, L.length = len ∧ Arr w.heap.size w (some x) (cellsOf f L) ∧ ∀ y ∈ L, Q y := by
  obtain ⟨g, hg⟩ := Classical.axiomOfChoice hex
  refine ⟨List.ofFn g, by simp, ?_, ?_⟩
  · by_cases h0 : len = 0
    · left; subst h0; simp [cellsOf]
    · right
      obtain ⟨b, o, spot⟩ := x
      have hlen0 : 0 < (f (g ⟨0, by omega⟩)).length := by rw [hf]; exact hz
      have hc0 := (hg ⟨0, by omega⟩).2 0 _ (List.getElem?_eq_getElem hlen0)
      have hspot : spot = none := by
        have := World.cell?_spot hc0
        simpa [Addr.add] using this
      subst hspot
      have hblk := World.block_lt_of_cell? _ _ hc0
      refine ⟨b, o, rfl, by simpa [Addr.add] using hblk, fun i v hv => ?_⟩
      obtain ⟨y, h1, h2⟩ := cellsOf_at f z hz hf _ i v hv
      rw [List.getElem?_ofFn] at h1
      split at h1
      · rename_i hlt
        simp only [Option.some.injEq] at h1
        subst h1
        have hh := (hg ⟨i / z, hlt⟩).2 _ v h2
        have e1 : ((⟨b, o, none⟩ : Addr).add (i / z * z)).add (i % z) = ⟨b, o + i, none⟩ := by
          have : i / z * z + i % z = i := Nat.div_add_mod' i z
          simp only [Addr.add]
          split <;> split <;> simp_all <;> omega
        rw [e1] at hh
        exact hh
      · cases h1
  · intro y hy
    rw [List.mem_ofFn] at hy
    obtain ⟨i, rfl⟩ := hy
    exact (hg i).1

set_option maxRecDepth 100000 in
theorem trod_nums {H : Type} {enc : TypeId × Value → H} {w : World} {fuel : Nat} {cs : List Value} {x : DataW H × List MemPlace}
    (h : DataW.trod enc Tryz.prog w 0 (fun _ => true) true fuel 65 cs = some x) :
    ∃ (a : Option Addr) (len cap : Nat) (L : List Int), cs = [.slice a len cap] ∧ L.length = len ∧ len ≤ cap ∧ cap ≤ 9223372036854775807 ∧ Arr w.heap.size w a (cellsI L) ∧ ∀ p ∈ L, -9223372036854775808 ≤ p ∧ p ≤ 9223372036854775807 := by
  rcases open_slice Tryz.underlying65 h with ⟨hcs, _⟩ | ⟨x, l, c, m, n, D, Pl, hcs, _, hl, hm, hmm, _, hi⟩
  · exact ⟨none, 0, 0, [], hcs, rfl, by omega, by omega, .inl rfl, by simp⟩
  · have hmc : m = c := by simpa using hmm
    have hC : Tryz.prog.cellsOf 3 = 1 := by kernel_rfl
    unfold maxLen at hm
    obtain ⟨L, h1, h2, h3⟩ := row_of (fun n : Int => [Value.int .i64 n]) 1 (by omega) (fun _ => rfl) (fun p => -9223372036854775808 ≤ p ∧ p ≤ 9223372036854775807) w x l (fun i => by
      obtain ⟨cs', hc', ht'⟩ := hi i.1 (by have := i.2; omega)
      rw [hC] at hc'
      obtain ⟨_, hlen, hat⟩ := World.cells?_some hc'
      obtain ⟨s, e0, -, w0⟩ := DataW.trod_int Tryz.underlying3 ht'
      subst e0
      exact ⟨s, bd_i64 w0, fun j v hj => by rw [hat j (by have := (List.getElem?_eq_some_iff.1 hj).1; simpa using this)]; exact hj⟩)
    exact ⟨some x, l, c, L, hcs, h1, hl, by omega, h2, h3⟩
end Go.Proofs.YtbnddpicpomakaaGreatDoor

/- Rose trees as data and in memory: a label, and a slice of such trees. -/
set_option linter.unusedSimpArgs false
set_option linter.unusedVariables false
set_option maxRecDepth 100000
namespace Go.Proofs.YtbnddpicpomakaaGreatDoor
open Go.RowKit

/-- A tree. -/
inductive Rose (α : Type) where
  | mk (lab : α) (args : List (Rose α))

def Rose.lab {α : Type} : Rose α → α
  | .mk l _ => l
def Rose.args {α : Type} : Rose α → List (Rose α)
  | .mk _ r => r
theorem Rose.eta {α : Type} (e : Rose α) : Rose.mk e.lab e.args = e := by cases e; rfl
theorem Rose.size_arg {α : Type} [SizeOf α] {l : α} {r : List (Rose α)} {x : Rose α} (h : x ∈ r) : SizeOf.sizeOf x < SizeOf.sizeOf (Rose.mk l r) := by
  have h1 := List.sizeOf_lt_of_mem h
  simp only [Rose.mk.sizeOf_spec]
  omega

theorem Rose.ind {α : Type} {P : Rose α → Prop} (h : ∀ l args, (∀ x ∈ args, P x) → P (.mk l args)) : ∀ e, P e
  | .mk l args => h l args (fun x _ => Rose.ind h x)
termination_by e => SizeOf.sizeOf e
decreasing_by exact Rose.size_arg ‹_›

/-- A tree with the place of its arguments. -/
structure RM (α : Type) where
  t : Rose α
  a : Option Addr
  cap : Nat

def cellsR {α : Type} (c : α → List Value) (x : RM α) : List Value := c x.t.lab ++ [.slice x.a x.t.args.length x.cap]

/-- The tree lies in blocks below N, at most n levels deep, each label fair; a and cap: the place of its arguments. -/
def RoseAt {α : Type} (F : α → Prop) (c : α → List Value) (N : Nat) (w : World) : Nat → RM α → Prop
  | 0, _ => False
  | n + 1, x => F x.t.lab ∧ x.t.args.length ≤ x.cap ∧ x.cap ≤ 9223372036854775807 ∧
      ∃ L : List (RM α), L.map (·.t) = x.t.args ∧ Arr N w x.a (cellsOf (cellsR c) L) ∧ ∀ y ∈ L, RoseAt F c N w n y

theorem RoseAt.below {α : Type} {F : α → Prop} {c : α → List Value} {N : Nat} {w w' : World} (hb : Below N w w') : ∀ {n : Nat} {x : RM α}, RoseAt F c N w n x → RoseAt F c N w' n x
  | 0, _, h => h.elim
  | n + 1, _, ⟨h1, h2, h3, L, h4, h5, h6⟩ => ⟨h1, h2, h3, L, h4, h5.below hb, fun y hy => RoseAt.below hb (h6 y hy)⟩

theorem RoseAt.mono {α : Type} {F : α → Prop} {c : α → List Value} {N M : Nat} {w : World} (hM : N ≤ M) : ∀ {n : Nat} {x : RM α}, RoseAt F c N w n x → RoseAt F c M w n x
  | 0, _, h => h.elim
  | n + 1, _, ⟨h1, h2, h3, L, h4, h5, h6⟩ => ⟨h1, h2, h3, L, h4, h5.mono hM, fun y hy => RoseAt.mono hM (h6 y hy)⟩

theorem RoseAt.later {α : Type} {F : α → Prop} {c : α → List Value} {w w' : World} {n : Nat} {x : RM α} (h : RoseAt F c w.heap.size w n x) (hb : Below w.heap.size w w') : RoseAt F c w'.heap.size w' n x := (h.below hb).mono hb.size

theorem RoseAt.up {α : Type} {F : α → Prop} {c : α → List Value} {N : Nat} {w : World} : ∀ {n : Nat} {x : RM α}, RoseAt F c N w n x → RoseAt F c N w (n + 1) x
  | 0, _, h => h.elim
  | n + 1, _, ⟨h1, h2, h3, L, h4, h5, h6⟩ => ⟨h1, h2, h3, L, h4, h5, fun y hy => RoseAt.up (h6 y hy)⟩

theorem RoseAt.ups {α : Type} {F : α → Prop} {c : α → List Value} {N : Nat} {w : World} {n m : Nat} {x : RM α} (h : RoseAt F c N w n x) (hm : n ≤ m) : RoseAt F c N w m x := by
  induction hm with
  | refl => exact h
  | step _ ih => exact ih.up

theorem RoseAt.pos {α : Type} {F : α → Prop} {c : α → List Value} {N : Nat} {w : World} {n : Nat} {x : RM α} (h : RoseAt F c N w n x) : 0 < n := by
  cases n with
  | zero => exact h.elim
  | succ n => omega

theorem RoseAt.fair {α : Type} {F : α → Prop} {c : α → List Value} {N : Nat} {w : World} {n : Nat} {x : RM α} (h : RoseAt F c N w n x) : F x.t.lab ∧ x.t.args.length ≤ x.cap ∧ x.cap ≤ 9223372036854775807 := by
  cases n with
  | zero => exact h.elim
  | succ n => exact ⟨h.1, h.2.1, h.2.2.1⟩

/-- The k-th argument: its cells. -/
theorem RoseAt.kid {α : Type} {F : α → Prop} {c : α → List Value} {z : Nat} (hz : ∀ l, (c l).length = z) {N : Nat} {w : World} {n : Nat} {x : RM α} (h : RoseAt F c N w (n + 1) x) {k : Nat} (hk : k < x.t.args.length) :
    ∃ y : RM α, y.t = x.t.args[k] ∧ RoseAt F c N w n y ∧ ∃ b o, x.a = some ⟨b, o, none⟩ ∧ b < N ∧ ∀ (j : Nat) (v : Value), (cellsR c y)[j]? = some v → w.cell? ⟨b, o + k * (z + 1) + j, none⟩ = some v := by
  obtain ⟨_, _, _, L, hL, hA, hR⟩ := h
  have hlen : L.length = x.t.args.length := by rw [← hL]; simp
  have hlz : ∀ y : RM α, (cellsR c y).length = z + 1 := fun y => by simp [cellsR, hz]
  have hkL : k < L.length := by omega
  obtain ⟨b, o, ha, hb, hc⟩ := hA.at_ (by intro h0; have := cellsOf_len (cellsR c) (z + 1) hlz L; rw [h0] at this; have h2 := Nat.mul_pos (show 0 < L.length by omega) (show 0 < z + 1 by omega); rw [List.length_nil] at this; omega)
  refine ⟨L[k], ?_, hR _ (List.getElem_mem _), b, o, ha, hb, fun j v hv => ?_⟩
  · have : (L.map (·.t))[k]? = some (L[k].t) := by simp [List.getElem?_eq_getElem hkL]
    rw [hL, List.getElem?_eq_getElem hk] at this
    exact (Option.some.inj this).symm
  · have := hc _ _ (cellsOf_get (cellsR c) (z + 1) hlz L k j L[k] v (List.getElem?_eq_getElem hkL) hv)
    rw [Nat.add_assoc]; exact this

end Go.Proofs.YtbnddpicpomakaaGreatDoor

/- Expressions (layer 20) as data and in memory: what is known of one that comes in. -/
set_option linter.unusedSimpArgs false
set_option linter.unusedVariables false
set_option maxRecDepth 100000
namespace Go.Proofs.YtbnddpicpomakaaGreatDoor
open Go.RowKit Go.ChangeShapes Go.WideShapes Go.Deep Go.Joins

/-- All fields of an expression but its arguments. -/
structure Lb where
  kd : Int
  v : Vl
  tb : ByteArray
  nm : ByteArray
  op : ByteArray
  deriving DecidableEq

abbrev Ex := Rose Lb
abbrev XM := RM Lb

def Lb.cells (l : Lb) : List Value := [.int .i64 l.kd, .int .u8 l.v.k, .int .i64 l.v.n, .string l.v.s, .string l.tb, .string l.nm, .string l.op]
theorem Lb.cells_len (l : Lb) : l.cells.length = 7 := rfl

structure Lb.fair (l : Lb) : Prop where
  kd : -9223372036854775808 ≤ l.kd ∧ l.kd ≤ 9223372036854775807
  k : l.v.k < 256
  n : -9223372036854775808 ≤ l.v.n ∧ l.v.n ≤ 9223372036854775807
  s : l.v.s.size ≤ 140737488351232
  tb : l.tb.size ≤ 140737488351232
  nm : l.nm.size ≤ 140737488351232
  op : l.op.size ≤ 140737488351232

/-- The cells of an expression. -/
def cellsX (x : XM) : List Value := cellsR Lb.cells x
theorem cellsX_len (x : XM) : (cellsX x).length = 8 := rfl
/-- An expression by value. -/
def XM.v (x : XM) : Value := .agg (cellsX x).toArray

/-- The expression's arguments lie in blocks below N. -/
def XAt (N : Nat) (w : World) (n : Nat) (x : XM) : Prop := RoseAt Lb.fair Lb.cells N w n x

theorem XAt.below {N : Nat} {w w' : World} {n : Nat} {x : XM} (h : XAt N w n x) (hb : Below N w w') : XAt N w' n x := RoseAt.below hb h
theorem XAt.mono {N M : Nat} {w : World} {n : Nat} {x : XM} (h : XAt N w n x) (hM : N ≤ M) : XAt M w n x := RoseAt.mono hM h
theorem XAt.later {w w' : World} {n : Nat} {x : XM} (h : XAt w.heap.size w n x) (hb : Below w.heap.size w w') : XAt w'.heap.size w' n x := RoseAt.later h hb
theorem XAt.pos {N : Nat} {w : World} {n : Nat} {x : XM} (h : XAt N w n x) : 0 < n := RoseAt.pos h
theorem XAt.fair {N : Nat} {w : World} {n : Nat} {x : XM} (h : XAt N w n x) : x.t.lab.fair ∧ x.t.args.length ≤ x.cap ∧ x.cap ≤ 9223372036854775807 := RoseAt.fair h

/-- The k-th argument: its cells. -/
theorem XAt.kid {N : Nat} {w : World} {n : Nat} {x : XM} (h : XAt N w (n + 1) x) {k : Nat} (hk : k < x.t.args.length) :
    ∃ y : XM, y.t = x.t.args[k] ∧ XAt N w n y ∧ ∃ b o, x.a = some ⟨b, o, none⟩ ∧ b < N ∧ ∀ (j : Nat) (v : Value), (cellsX y)[j]? = some v → w.cell? ⟨b, o + k * 8 + j, none⟩ = some v :=
  RoseAt.kid Lb.cells_len h hk
end Go.Proofs.YtbnddpicpomakaaGreatDoor

/- The mathematics of expressions: how deep and how many, which may be. -/
set_option linter.unusedSimpArgs false
set_option linter.unusedVariables false
set_option maxRecDepth 100000
namespace Go.Proofs.YtbnddpicpomakaaGreatDoor
open Go.RowKit

/-- The greatest of some numbers. -/
def maxL : List Nat → Nat
  | [] => 0
  | x :: r => max x (maxL r)
theorem maxL_le {l : List Nat} {m : Nat} : maxL l ≤ m ↔ ∀ x ∈ l, x ≤ m := by
  induction l with
  | nil => simp [maxL]
  | cons x r ih => simp only [maxL, List.mem_cons, forall_eq_or_imp, ← ih]; omega
theorem maxL_snoc (l : List Nat) (x : Nat) : maxL (l ++ [x]) = max (maxL l) x := by
  induction l with
  | nil => simp [maxL]
  | cons y r ih => simp only [List.cons_append, maxL, ih]; omega
theorem maxL_mem {l : List Nat} {x : Nat} (h : x ∈ l) : x ≤ maxL l := maxL_le.1 (Nat.le_refl _) x h

section
variable {α : Type}
def Rose.depth : Rose α → Nat
  | .mk _ args => 1 + maxL (args.attach.map fun x => Rose.depth x.1)
termination_by e => SizeOf.sizeOf e
decreasing_by exact Rose.size_arg x.2
theorem Rose.depth_eq (e : Rose α) : e.depth = 1 + maxL (e.args.map Rose.depth) := by
  obtain ⟨l, args⟩ := e
  rw [Rose.depth, Rose.args]
  congr 2
  rw [List.attach_map_val (f := Rose.depth)]
theorem Rose.depth_pos (e : Rose α) : 1 ≤ e.depth := by rw [Rose.depth_eq]; omega
theorem Rose.depth_arg {e x : Rose α} (h : x ∈ e.args) : x.depth < e.depth := by
  rw [Rose.depth_eq e]
  have := maxL_mem (List.mem_map.2 ⟨x, h, rfl⟩ : x.depth ∈ e.args.map Rose.depth)
  omega
theorem Rose.depth_le {e : Rose α} {n : Nat} : e.depth ≤ n + 1 ↔ ∀ x ∈ e.args, x.depth ≤ n := by
  rw [Rose.depth_eq]
  have := @maxL_le (e.args.map Rose.depth) n
  simp only [List.mem_map, forall_exists_index, and_imp, forall_apply_eq_imp_iff₂] at this
  rw [← this]; omega

def Rose.count : Rose α → Nat
  | .mk _ args => 1 + (args.attach.map fun x => Rose.count x.1).sum
termination_by e => SizeOf.sizeOf e
decreasing_by exact Rose.size_arg x.2
theorem Rose.count_eq (e : Rose α) : e.count = 1 + (e.args.map Rose.count).sum := by
  obtain ⟨l, args⟩ := e
  rw [Rose.count, Rose.args]
  congr 2
  rw [List.attach_map_val (f := Rose.count)]
theorem Rose.count_pos (e : Rose α) : 1 ≤ e.count := by rw [Rose.count_eq]; omega

/-- Do all labels do, each with the number of its arguments? -/
def Rose.allB (p : α → Nat → Bool) : Rose α → Bool
  | .mk l args => p l args.length && args.attach.all fun x => Rose.allB p x.1
termination_by e => SizeOf.sizeOf e
decreasing_by exact Rose.size_arg x.2
theorem Rose.allB_eq (p : α → Nat → Bool) (e : Rose α) : e.allB p = (p e.lab e.args.length && e.args.all (Rose.allB p)) := by
  obtain ⟨l, args⟩ := e
  rw [Rose.allB, Rose.args, Rose.lab]
  congr 1
  rw [Bool.eq_iff_iff, List.all_eq_true, List.all_eq_true]
  simp

theorem sum_le_max {l : List Nat} : maxL l ≤ l.sum := by
  induction l with
  | nil => simp [maxL]
  | cons x r ih => simp only [maxL, List.sum_cons]; omega

theorem Rose.depth_le_count (e : Rose α) : e.depth ≤ e.count := by
  induction e using Rose.ind with
  | h l args ih =>
    rw [Rose.depth_eq, Rose.count_eq]
    have h1 : maxL ((Rose.mk l args).args.map Rose.depth) ≤ ((Rose.mk l args).args.map Rose.count).sum := by
      refine Nat.le_trans ?_ sum_le_max
      rw [maxL_le]
      intro x hx
      obtain ⟨y, hy, rfl⟩ := List.mem_map.1 hx
      exact Nat.le_trans (ih y hy) (maxL_mem (List.mem_map.2 ⟨y, hy, rfl⟩))
    omega

/-- All labels do, and no more than so many levels. -/
def Rose.fits (p : α → Nat → Bool) : Nat → Rose α → Bool
  | 0, _ => false
  | n + 1, e => p e.lab e.args.length && e.args.all (Rose.fits p n)
theorem Rose.fits_eq (p : α → Nat → Bool) : ∀ (n : Nat) (e : Rose α), e.fits p n = (e.allB p && decide (e.depth ≤ n))
  | 0, e => by have := e.depth_pos; simp [Rose.fits]; omega
  | n + 1, e => by
    rw [Rose.fits, Rose.allB_eq, Bool.eq_iff_iff]
    simp only [Bool.and_eq_true, List.all_eq_true, decide_eq_true_iff, Rose.depth_le, Rose.fits_eq p n]
    constructor
    · rintro ⟨h1, h2⟩; exact ⟨⟨h1, fun x hx => (h2 x hx).1⟩, fun x hx => (h2 x hx).2⟩
    · rintro ⟨⟨h1, h2⟩, h3⟩; exact ⟨h1, fun x hx => ⟨h2 x hx, h3 x hx⟩⟩
end

/-- Is an expression too much for a statement? -/
def Lb.big (l : Lb) (n : Nat) : Bool := decide (6 < n) || decide (100 < l.nm.size + l.tb.size + l.op.size) || decide (200 < l.v.s.size)
def greatX : Nat → Ex → Bool
  | 0, _ => true
  | n + 1, e => e.lab.big e.args.length || e.args.any (greatX n)
theorem greatX_fits : ∀ (n : Nat) (e : Ex), greatX n e = !e.fits (fun l k => !l.big k) n
  | 0, e => rfl
  | n + 1, e => by
    rw [greatX, Rose.fits, Bool.eq_iff_iff]
    have : e.args.any (greatX n) = !e.args.all (Rose.fits (fun l k => !l.big k) n) := by
      rw [List.any_eq_not_all_not]
      congr 2
      funext x
      rw [greatX_fits n x]; simp
    rw [this]
    simp

/-- A string's bytes. -/
def sB (l : List Nat) : ByteArray := strN l

def resL : List (List Nat) := [
  [97, 110, 100],
  [97, 115],
  [97, 115, 99],
  [98, 101, 103, 105, 110],
  [98, 101, 116, 119, 101, 101, 110],
  [98, 108, 111, 98],
  [98, 121],
  [99, 111, 109, 109, 105, 116],
  [99, 114, 101, 97, 116, 101],
  [100, 101, 108, 101, 116, 101],
  [100, 101, 115, 99],
  [100, 105, 115, 116, 105, 110, 99, 116],
  [100, 114, 111, 112],
  [102, 111, 114],
  [102, 114, 111, 109],
  [103, 114, 111, 117, 112],
  [105, 110, 100, 101, 120],
  [105, 110, 115, 101, 114, 116],
  [105, 110, 116],
  [105, 110, 116, 111],
  [105, 115],
  [106, 111, 105, 110],
  [107, 101, 121],
  [108, 105, 107, 101],
  [108, 105, 109, 105, 116],
  [110, 111, 116],
  [110, 117, 108, 108],
  [111, 102],
  [111, 110],
  [111, 114],
  [111, 114, 100, 101, 114],
  [112, 101, 114, 105, 111, 100],
  [112, 111, 114, 116, 105, 111, 110],
  [112, 114, 105, 109, 97, 114, 121],
  [112, 114, 117, 110, 101],
  [114, 101, 108, 101, 97, 115, 101],
  [114, 111, 108, 108, 98, 97, 99, 107],
  [115, 97, 118, 101, 112, 111, 105, 110, 116],
  [115, 101, 108, 101, 99, 116],
  [115, 101, 116],
  [115, 121, 115, 116, 101, 109, 95, 116, 105, 109, 101],
  [116, 97, 98, 108, 101],
  [116, 101, 120, 116],
  [116, 111],
  [117, 112, 100, 97, 116, 101],
  [118, 97, 108, 117, 101, 115],
  [118, 101, 114, 115, 105, 111, 110, 101, 100],
  [119, 104, 101, 114, 101],
  [119, 105, 116, 104, 111, 117, 116]]
/-- A reserved word? -/
def resB (s : ByteArray) : Bool := resL.any fun l => s.toList == l.map UInt8.ofNat
/-- The name of a column or a table? -/
def isX (s : ByteArray) : Bool := decide ((nameV s).2 = 0) && decide ((nameV s).1 = s) && !resB s
def binL : List (List Nat) := [[111, 114], [97, 110, 100], [61], [60, 62], [60], [60, 61], [62], [62, 61], [108, 105, 107, 101], [124, 124], [43], [45], [42], [47], [37]]
def inL (L : List (List Nat)) (s : ByteArray) : Bool := L.any fun l => s.toList == l.map UInt8.ofNat
def unL : List (List Nat) := [[45], [110, 111, 116]]
def nullL : List (List Nat) := [[105, 115, 32, 110, 117, 108, 108], [105, 115, 32, 110, 111, 116, 32, 110, 117, 108, 108]]
def aggL : List (List Nat) := [[99, 111, 117, 110, 116], [115, 117, 109], [109, 105, 110], [109, 97, 120]]
def countL : List (List Nat) := [[99, 111, 117, 110, 116]]
def callL : List (List Nat) := [[111, 118, 101, 114, 108, 97, 112, 115], [99, 111, 110, 116, 97, 105, 110, 115]]
def lenL : List (List Nat) := [[108, 101, 110, 103, 116, 104]]
/-- Is there such an operation? -/
def takesB (k : Int) (op : ByteArray) (n : Nat) : Bool :=
  if k = 3 then decide (n = 1) && inL unL op
  else if k = 4 then decide (n = 2) && inL binL op
  else if k = 5 then decide (n = 1) && inL nullL op
  else if k = 6 then (inL aggL op && decide (n = 1)) || (inL countL op && decide (n = 0))
  else if k = 7 then (inL callL op && decide (n = 4)) || (inL lenL op && decide (n = 1))
  else false
/-- Is a value without anything? -/
def Vl.zeroB (v : Vl) : Bool := ((v.k : Int) == 0) && ((v.n == 0) && v.s.toList.isEmpty)
/-- May a label be, with so many arguments? -/
def Lb.ok (l : Lb) (n : Nat) : Bool :=
  if l.kd = 1 then l.v.right && decide (0 ≤ l.v.n) && l.tb.toList.isEmpty && l.nm.toList.isEmpty && l.op.toList.isEmpty && ((n : Int) == 0)
  else if l.kd = 2 then isX l.nm && (l.tb.toList.isEmpty || isX l.tb) && l.v.zeroB && l.op.toList.isEmpty && ((n : Int) == 0)
  else takesB l.kd l.op n && l.v.zeroB && l.tb.toList.isEmpty && l.nm.toList.isEmpty
/-- Right, with so many levels. -/
def rightX (n : Nat) (e : Ex) : Bool := e.fits Lb.ok n
theorem rightX_eq (n : Nat) (e : Ex) : rightX n e = (e.allB Lb.ok && decide (e.depth ≤ n)) := Rose.fits_eq _ n e
end Go.Proofs.YtbnddpicpomakaaGreatDoor

/- The walks of Reserved, isBinary, isAggregate. -/
set_option linter.unusedSimpArgs false
set_option linter.unusedVariables false
set_option maxRecDepth 100000
namespace Go.Proofs.YtbnddpicpomakaaGreatDoor
open Go.RowKit

set_option maxHeartbeats 4000000 in
theorem isAgg_any (s : ByteArray) (w : World) : Calls Tryz.prog 126 #[.string s] w fun e w' => e = .returned (.bool (inL aggL s)) ∧ w = w' := by
  obtain ⟨b, hb⟩ : ∃ b, inL aggL s = b := ⟨_, rfl⟩
  rw [hb]
  have HB := Lib.hid hb
  clear hb
  go_enter Tryz.func126, Tryz.ntmps126
  go_wp2
  all_goals
    go_ret
    exact ⟨ret_b (by rw [← HB.out]; clear HB; simp_all [inL, aggL]), rfl⟩

set_option maxHeartbeats 4000000 in
theorem isBin_any (s : ByteArray) (w : World) : Calls Tryz.prog 125 #[.string s] w fun e w' => e = .returned (.bool (inL binL s)) ∧ w = w' := by
  obtain ⟨b, hb⟩ : ∃ b, inL binL s = b := ⟨_, rfl⟩
  rw [hb]
  have HB := Lib.hid hb
  clear hb
  go_enter Tryz.func125, Tryz.ntmps125
  go_wp2
  all_goals
    go_ret
    exact ⟨ret_b (by rw [← HB.out]; clear HB; simp_all [inL, binL]), rfl⟩

set_option maxHeartbeats 16000000 in
theorem Reserved_any (s : ByteArray) (w : World) : Calls Tryz.prog 27 #[.string s] w fun e w' => e = .returned (.bool (resB s)) ∧ w = w' := by
  obtain ⟨b, hb⟩ : ∃ b, resB s = b := ⟨_, rfl⟩
  rw [hb]
  have HB := Lib.hid hb
  clear hb
  go_enter Tryz.func27, Tryz.ntmps27
  go_wp2
  all_goals
    go_ret
    exact ⟨ret_b (by rw [← HB.out]; clear HB; simp_all [resB, resL]), rfl⟩
end Go.Proofs.YtbnddpicpomakaaGreatDoor
