/- The walk of record.Read. -/
import Derived.Test.YtipeinkogoghnaaRDec
namespace Go.Proofs.Ytipeinkogoghnaa
open Go.RowKit

theorem Try.info23 : (Try.prog.info? 23).map (fun i => (i.zero, i.size, i.bytes)) = some (some (.agg #[.int .u8 0, .int .i64 0, .string ⟨#[]⟩]), 3, 32) := by kernel_rfl

theorem readN_step {l : List Nat} {p i : Nat} {acc : List Vl} {q : Nat} (h : readN l p i = some (acc, q)) {x : Vl} {n : Nat} (hd : decV l q = some (x, n)) : readN l p (i + 1) = some (acc ++ [x], n) := by
  rw [readN, h]; simp only []; rw [hd]
theorem readN_fail {l : List Nat} {p i : Nat} {acc : List Vl} {q : Nat} (h : readN l p i = some (acc, q)) (hd : decV l q = none) : readN l p (i + 1) = none := by
  rw [readN, h]; simp only []; rw [hd]

theorem readV_long {l : List Nat} (h : 8192 < l.length) : readV l = ([], 2) := by unfold readV; rw [if_pos h]
theorem readV_head {l : List Nat} (h : ¬ 8192 < l.length) (h2 : (getR l 0).2.2 ≠ 0 ∨ 16 < (getR l 0).1) : readV l = ([], 3) := by unfold readV; rw [if_neg h, if_pos h2]
theorem readV_go {l : List Nat} (h : ¬ 8192 < l.length) {c : Nat} {p : Nat} (hg : getR l 0 = (c, (p : Int), 0)) (hc : ¬ 16 < c) : readV l = match readN l p c with
    | none => ([], 3)
    | some (acc, q) => if q ≠ l.length then ([], 3) else (acc, 0) := by
  unfold readV; rw [if_neg h, hg]
  simp only [ne_eq, not_true_eq_false, false_or, if_neg hc, Int.toNat_natCast]
  rfl

theorem OwnV.fresh {w : World} {base : Nat} {T : TypeId} {a : Option Addr} {n cap : Nat} {l : List Vl} (h : OwnV w base T (.slice a n cap) l) : l ≠ [] → ∃ g, a = some ⟨g, 0, none⟩ ∧ base ≤ g := by
  intro hne
  obtain ⟨h1, h2⟩ := h
  rcases h2 with ⟨_, hn⟩ | ⟨g, cap', cur, hv, hg, _⟩
  · exact absurd (List.length_eq_zero_iff.1 hn) hne
  · injection hv with e1 e2 e3
    exact ⟨g, e1, hg⟩

/-- A call hands back values, in memory of its own, and an error. -/
def RetVF (w : World) (r : List Vl × Int) (e : Ending) (w' : World) : Prop :=
  ∃ a cap, e = .returned (.tuple #[.slice a r.1.length cap, .int .i64 r.2]) ∧ r.1.length ≤ cap ∧ Vs w'.heap.size w' a r.1 ∧ Below w.heap.size w w' ∧ (r.1 ≠ [] → ∃ g, a = some ⟨g, 0, none⟩ ∧ w.heap.size ≤ g)

set_option maxHeartbeats 4000000 in
theorem ReadF_any (l : List Nat) (a : Option Addr) (len cap : Nat) (w : World) (hB : Bs w.heap.size w a l) (hlen : len = l.length) (hcap : len ≤ cap) (hmax : len ≤ 1000000) :
    Calls Try.prog 25 #[.slice a len cap] w (RetVF w (readV l)) := by
  have HB := Lib.hid hB
  have HL := Lib.hid hlen
  by_cases hlong : 8192 < len
  · have HR : Hid (readV l = ([], 2)) := readV_long (by omega)
    clear hB hlen
    go_enter Try.func25, Try.ntmps25
    go_wp2
    go_ret2
    rw [HR.out]
    exact ⟨none, 0, rfl, by simp, .inl rfl, Below.refl _ _, by simp⟩
  · have ql : decide ((8192 : Int) < (len : Int)) = false := by simp; omega
    have hg := get_any w.heap.size l a len cap 0 w hB hlen (by omega) hcap (by omega) (by omega)
    have hl := getR_lt l hB.1 0 (by omega)
    obtain ⟨R, hR⟩ : ∃ R, getR l 0 = R := ⟨_, rfl⟩
    obtain ⟨c, n, q⟩ := R
    have HGR := Lib.hid hR
    rw [hR] at hg hl
    simp only at hg hl
    obtain ⟨p, rfl⟩ := Int.eq_ofNat_of_zero_le hl.2.1
    have hp : p ≤ len := by omega
    have HG := Lib.hid hg
    have hc64 := hl.1
    clear hg hR hl
    by_cases hq : q = 0
    · by_cases h16 : 16 < c
      · have HRd : Hid (readV l = ([], 3)) := readV_head (by omega) (.inr (by rw [HGR.out]; exact h16))
        subst hq
        clear hB hlen
        go_enter Try.func25, Try.ntmps25
        go_wp2_with fail
        refine HG.out.mono ?_
        rintro e w1 ⟨rfl, rfl⟩
        go_wp2
        go_ret2
        rw [HRd.out]
        exact ⟨none, 0, rfl, by simp, .inl rfl, Below.refl _ _, by simp⟩
      · subst hq
        have q16 : decide ((16 : Int) < (c : Int)) = false := by simp; omega
        have HGo := Lib.hid (readV_go (show ¬ 8192 < l.length by omega) HGR.out h16)
        obtain ⟨i0, hi, hz0, hz1, hz2⟩ := info_parts Try.info23
        clear hB hlen
        go_enter Try.func25, Try.ntmps25
        go_wp2_with fail
        refine HG.out.mono ?_
        rintro e w1 ⟨rfl, rfl⟩
        clear HG
        go_wp2_with fail
        go_loopw [5, 7, 27] (fun t v j wr => ∃ (i qq : Nat) (acc : List Vl), i ≤ c ∧ j = .int .u64 i ∧ qq ≤ len ∧ t = .int .i64 qq ∧ OwnV wr w.heap.size 23 v acc ∧ Hid (readN l p i = some (acc, qq) ∧ acc.length = i) ∧ Below w.heap.size w wr) (fun _ _ j _ => c - (intOf j).toNat)
        case atStart => exact ⟨0, p, [], by omega, rfl, hp, rfl, OwnV.nil _ _ _, ⟨rfl, rfl⟩, Below.refl _ _⟩
        case round =>
          obtain ⟨i, qq, acc, hi2, rfl, hqq, rfl, hown, HN, hb⟩ := hrel
          have hsz := hb.size
          by_cases hlt : i < c
          · have HD := Lib.hid (fun W (hW : Below w.heap.size w W) => decode_any l a len cap qq W ((HB.out.below hW).mono hW.size) HL.out hcap hmax (by omega))
            have hal : acc.length = i := HN.out.2
            go_wp2_with fail
            refine (HD.out _ hb).mono ?_
            rintro e w1 ⟨hb1, ⟨hnone, k, n, s, m, rfl⟩ | ⟨x, n, hsome, rfl⟩⟩
            · have HRd : Hid (readV l = ([], 3)) := by
                rw [HGo.out, readN_none (readN_fail HN.out.1 hnone) c (by omega)]; rfl
              clear HD hnone
              go_wp2
              go_ret2
              rw [HRd.out]
              exact ⟨none, 0, rfl, by simp, .inl rfl, (hb.trans (hb1.mono hsz)).alloc (by have := hb1.size; omega) _, by simp⟩
            · have HN2 : Hid (readN l p (i + 1) = some (acc ++ [x], n) ∧ (acc ++ [x]).length = i + 1) := ⟨readN_step HN.out.1 hsome, by rw [List.length_append, hal]; rfl⟩
              have hnl : n ≤ len := by
                have := enc_decV l HB.out.1 (by have := HL.out; omega) qq x n hsome
                have := HL.out; omega
              have hbw := hb.trans (hb1.mono hsz)
              have hszw := hbw.size
              have hown1 := (hown.below (Nat.le_refl _) hb1).below (Nat.le_refl _) (Below.box w1 (.cells #[.int .u8 x.k, .int .i64 x.n, .string x.s] 23))
              have hbw2 := hbw.alloc hszw (.cells #[.int .u8 x.k, .int .i64 x.n, .string x.s] 23)
              have hal2 : acc.length < 1000000000000 := by omega
              clear HD hsome hown
              go_wp2_with (at_builtin; refine wpList_appV1 rfl _ _ 32 rfl w.heap.size 23 i0 _ 32 Try.underlying32 hi hz0 rfl hz1 hz2 (by omega) _ acc _ hown1 rfl _ _ _ x rfl rfl rfl (by simp; rfl) hal2 (by simp; omega) ?_; intro v3 w3 hown3 hb3 hsz3)
              go_roundw
              case rel => exact ⟨i + 1, n, acc ++ [x], by omega, by go_num, hnl, rfl, hown3, HN2, hbw2.trans hb3⟩
              case measure => simp [intOf]; omega
          · have hic : i = c := by omega
            subst hic
            have HRd : Hid (readV l = if qq ≠ l.length then ([], 3) else (acc, 0)) := by
              rw [HGo.out, HN.out.1]; rfl
            obtain ⟨a5, c5, rfl, hcap5, hV5⟩ := hown.slice
            have HF5 := Lib.hid hown.fresh
            have HV5 := Lib.hid hV5
            obtain ⟨m5, hm5⟩ : ∃ m5, m5 = acc.length := ⟨_, rfl⟩
            rw [← hm5] at hcap5
            have HM5 := Lib.hid hm5
            clear hown hV5 hm5
            by_cases hqe : qq = len
            · have HRd2 : Hid (readV l = (acc, 0)) := by
                rw [HRd.out, if_neg (by have := HL.out; omega)]; rfl
              clear HRd
              have qn : ((qq : Int) != (len : Int)) = false := by simp [hqe]
              clear hqe
              rw [← HM5.out]
              go_wp2
              go_ret2
              rw [HRd2.out]
              refine ⟨a5, c5, ?_, by rw [← HM5.out]; exact hcap5, HV5.out, hb, HF5.out⟩
              rw [← HM5.out]; rfl
            · have HRd2 : Hid (readV l = ([], 3)) := by
                rw [HRd.out, if_pos (by have := HL.out; omega)]; rfl
              clear HRd
              have qn : ((qq : Int) != (len : Int)) = true := by simp; omega
              go_wp2
              go_ret2
              rw [HRd2.out]
              exact ⟨none, 0, rfl, by simp, .inl rfl, hb, by simp⟩
    · have hq3 : ((q : Int) != 0) = true := by simp; omega
      have HRd : Hid (readV l = ([], 3)) := readV_head (by omega) (.inl (by rw [HGR.out]; exact hq))
      clear hB hlen
      go_enter Try.func25, Try.ntmps25
      go_wp2_with fail
      refine HG.out.mono ?_
      rintro e w1 ⟨rfl, rfl⟩
      go_wp2
      go_ret2
      rw [HRd.out]
      exact ⟨none, 0, rfl, by simp, .inl rfl, Below.refl _ _, by simp⟩

theorem Read_any (l : List Nat) (a : Option Addr) (len cap : Nat) (w : World) (hB : Bs w.heap.size w a l) (hlen : len = l.length) (hcap : len ≤ cap) (hmax : len ≤ 1000000) :
    Calls Try.prog 25 #[.slice a len cap] w (RetVE w (readV l)) :=
  (ReadF_any l a len cap w hB hlen hcap hmax).mono fun _ _ ⟨a, c, h1, h2, h3, h4, _⟩ => ⟨a, c, h1, h2, h3, h4⟩
end Go.Proofs.Ytipeinkogoghnaa
