/- The walk of the law RecordBytes. -/
import Derived.Test.YtipeinkogoghnaaRLawB
import Derived.Test.YtipeinkogoghnaaRRefR
import Derived.Laws.AppendOwnNone
namespace Go.Proofs.Ytipeinkogoghnaa
open Go.RowKit

/-- A row of no byte that has just been made. -/
theorem OwnB.none_ (w : World) (base : Nat) (T : TypeId) (g : Nat) (hb : base ≤ w.heap.size) (hg : g = w.heap.size) : OwnB (w.alloc (.cells #[] T)) base T (.slice (some ⟨g, 0, none⟩) 0 0) [] := by
  subst hg
  exact ⟨by simp, by simp, .inr ⟨w.heap.size, 0, #[], by simp, hb, heap_alloc_new _ _, by simp, by unfold maxLen; omega, by simp, by simp⟩⟩

/-- 'append(b, c...)' of bytes that came in: nil, none, some. -/
theorem wpList_appIn {P : Program} {ops : Array Oper} {rest : List Oper} {o : Oper} {a : Act} {Q : Exit → Act → World → Prop} (hgd : o.guard = none) (sl x : Operand) (t : TypeId)
    (ho : o.op = .call { callee := .builtin .append, args := #[sl, x], argTypes := #[t, t] })
    (base : Nat) (e : TypeId) (i : TypeInfo) (ht : P.underlying t = some (.slice e)) (hi : P.info? e = some i) (hz : i.zero = some (.int .u8 0))
    (hsize : i.size = 1) (hby : i.bytes = 1)
    (v : Value) (l : List Nat) (w : World) (hown : OwnB w base e v l) (hs : a.eval sl = v) (N : Nat) (ad : Option Addr) (m : List Nat) (n c : Nat) (hB : Bs N w ad m) (hnil : ad = none → n = 0 ∧ c = 0) (hn : n = m.length) (hx : a.eval x = .slice ad n c)
    (hlen : l.length + m.length < 100000000000000) (hbase : base ≤ w.heap.size)
    (h : ∀ v' w', OwnB w' base e v' (l ++ m) → Below base w w' → w.heap.size ≤ w'.heap.size → wpList P ops Q rest (a.put o.dst v') w') : wpList P ops Q (o :: rest) a w := by
  by_cases hm : m = []
  · subst hm
    subst hn
    cases ad with
    | none =>
      obtain ⟨_, rfl⟩ := hnil rfl
      refine wpList_append_own_none hgd sl x t ho base e i 1 ht hi v l.length _ hs hown.2 hx ?_
      exact h v w (by simpa using hown) (Below.refl _ _) (Nat.le_refl _)
    | some p =>
      refine wpList_append_own w hgd sl x t ho base e i (.int .u8 0) 1 1 ht hi hz hsize hby rfl (by decide) v l.length _ hs hown.2 p 0 c [] hx rfl (by simp) (by simp) ?_ ?_ hbase ?_
      · unfold maxLen; simp at hlen; omega
      · simp at hlen; omega
      · intro v' w' hown' hgrow _
        exact h v' w' ⟨by simpa using hown.1, by simpa using hown'⟩ ((Below.refl base w).grown hgrow hbase (fun j hj => (hown.2.lt j hj).1)) hgrow.size
  · exact wpList_appB hgd sl x t ho base e i ht hi hz hsize hby v l w hown hs N ad m n c hB hm hn hx hlen hbase h

/-- Bytes of the call's own that may be written, in one block. -/
def Wr (w : World) (g n : Nat) : Prop := ∀ i, i < n → (∃ c : Nat, c < 256 ∧ w.cell? ⟨g, i, none⟩ = some (.int .u8 (c : Int))) ∧ w.frozen? ⟨g, i, none⟩ = false

theorem Wr.of {w : World} {base g n cap : Nat} {T : TypeId} {l : List Nat} (h : OwnB w base T (.slice (some ⟨g, 0, none⟩) n cap) l) (hn : n = l.length) : Wr w g n := by
  subst hn
  obtain ⟨h0, h1, h2⟩ := h
  intro i hi
  rcases h2 with ⟨hv, hn⟩ | ⟨g', cap', cur, hv, hg, hh, hnc, hcm, hcs, hcur⟩
  · omega
  · injection hv with e1 e2 e3
    simp only [Option.some.injEq, Addr.mk.injEq, and_true] at e1
    subst e1
    refine ⟨⟨l[i], h0 _ (List.getElem_mem hi), ?_⟩, ?_⟩
    · have e1 : (cur.toList.take (l.length * 1))[i]? = some (Value.int .u8 (l[i] : Int)) := by rw [hcur]; simp [hi]
      rw [List.getElem?_take_of_lt (by omega)] at e1
      simp only [World.cell?, hh]
      simpa using e1
    · simp [World.frozen?, hh]

theorem Wr.set {w : World} {g n : Nat} (h : Wr w g n) (k d : Nat) (hd : d < 256) : Wr (w.setCell ⟨g, k, none⟩ (.int .u8 (d : Int))) g n := by
  intro i hi
  obtain ⟨⟨c, hc, hcell⟩, hf⟩ := h i hi
  refine ⟨?_, by rw [World.frozen?_setCell]; exact hf⟩
  by_cases hik : i = k
  · subst hik
    exact ⟨d, hd, World.cell?_setCell_same _ _ _ hcell⟩
  · exact ⟨c, hc, (World.cell?_setCell_other _ _ _ _ (by simp [Ne.symm hik])).trans hcell⟩

theorem LaterB.below {B N : Nat} {w w' : World} (h : LaterB B w w') (hB : N ≤ B) (hN : N ≤ w.heap.size) : Below N w w' :=
  ⟨h.os, h.tape, h.output, h.size, fun k hk => h.block k (by omega) (by omega)⟩

theorem Vs.laterB {B : Nat} {w w' : World} {a : Option Addr} {l : List Vl} (h : Vs w.heap.size w a l) (hl : LaterB B w w') (hf : l ≠ [] → ∃ g, a = some ⟨g, 0, none⟩ ∧ B < g) : Vs w'.heap.size w' a l := by
  by_cases h0 : l = []
  · exact .inl h0
  · obtain ⟨g, rfl, hg⟩ := hf h0
    rcases h with h | ⟨b, o, ha, hN, hc⟩
    · exact .inl h
    · simp only [Option.some.injEq, Addr.mk.injEq, and_true] at ha
      obtain ⟨rfl, rfl⟩ := ha
      have hne : g ≠ B := by omega
      refine .inr ⟨g, 0, rfl, Nat.lt_of_lt_of_le hN hl.size, fun i x hi => ?_⟩
      obtain ⟨c0, c1, c2⟩ := hc i x hi
      exact ⟨(hl.cell hN hne).trans c0, (hl.cell hN hne).trans c1, (hl.cell hN hne).trans c2⟩

theorem xor255 (c : Nat) (h : c < 256) : ∃ d : Nat, d < 256 ∧ bits .xor .u8 (c : Int) 255 = (d : Int) := by
  refine ⟨c ^^^ 255, Nat.xor_lt_two_pow (n := 8) h (by omega), ?_⟩
  exact u8_xor_nat c 255 h (by omega)

set_option maxHeartbeats 8000000 in
theorem bytes3_any (l m : List Vl) (a : Option Addr) (len cap : Nat) (am : Option Addr) (lenm capm : Nat) (bl : List Nat) (a' : Option Addr) (len' cap' : Nat) (w : World) (h1 : RowIn w a len cap l) (h2 : RowIn w am lenm capm m)
    (hB : Bs w.heap.size w a' bl) (hnil : a' = none → len' = 0 ∧ cap' = 0) (hlen' : len' = bl.length) (hcap' : len' ≤ cap') (hmax' : cap' ≤ 9223372036854775807) :
    Calls Try.prog 4 #[.slice a len cap, .slice am lenm capm, .slice a' len' cap'] w fun e w' => e = .returned (.bool true) ∧ Below w.heap.size w w' := by
  have H1 := Lib.hid h1
  have H2 := Lib.hid h2
  have HB := Lib.hid hB
  have HL := Lib.hid hlen'
  have HNil := Lib.hid hnil
  clear h1 h2 hB hlen' hnil
  have HA := Lib.hid (fun W => alive3_any W)
  obtain ⟨i0, hi, hz0, hz1, hz2⟩ := info_parts Try.info5
  go_enter Try.func4, Try.ntmps4
  go_wp2_with fail
  refine H1.out.great.mono ?_
  rintro e w1 ⟨g, rfl, hg, rfl⟩
  cases g with
  | true =>
    clear hg
    go_wp2_with fail
    refine (HA.out _).mono ?_
    rintro e w1 ⟨rfl, hb⟩
    go_wp2
    go_ret
    exact ⟨rfl, hb⟩
  | false =>
    have S1 := Lib.hid (hg rfl)
    clear hg
    go_wp2_with fail
    refine H2.out.great.mono ?_
    rintro e w1 ⟨g, rfl, hg, rfl⟩
    cases g with
    | true =>
      clear hg
      go_wp2_with fail
      refine (HA.out _).mono ?_
      rintro e w1 ⟨rfl, hb⟩
      go_wp2
      go_ret
      exact ⟨rfl, hb⟩
    | false =>
      have S2 := Lib.hid (hg rfl)
      clear hg
      by_cases hbig : 9000 < len'
      · go_wp2_with fail
        refine (HA.out _).mono ?_
        rintro e w1 ⟨rfl, hb⟩
        go_wp2
        go_ret
        exact ⟨rfl, hb⟩
      · have qb : decide ((9000 : Int) < (len' : Int)) = false := by simp; omega
        have L1 : len ≤ 40 := by have := H1.out.1; have := S1.out.1; omega
        have L2 : lenm ≤ 40 := by have := H2.out.1; have := S2.out.1; omega
        have hf : ∀ x ∈ l, x.fair := fun x hx => (H1.out.2.2.2.2 x hx).fair
        have hs : ∀ x ∈ l, x.s.size ≤ 1000000 := fun x hx => by have := S1.out.2.1 x hx; omega
        have HWr := Lib.hid (fun W (hb : Below w.heap.size w W) => Write_any l a len cap W (H1.out.later hb).2.2.2.1 H1.out.1 (by omega) hf)
        have HWf := Lib.hid (fun W (hb : Below w.heap.size w W) => rWrite_any l a len cap W (H1.out.later hb).2.2.2.1 H1.out.1 (by omega) hf hs)
        have HRt := Lib.hid (fun W (hb : Below w.heap.size w W) => Right_any l a len cap W (H1.out.later hb).2.2.2.1 H1.out.1 (by omega) hf)
        have HRd := Lib.hid (fun W (hb : Below w.heap.size w W) => rRead_any bl a' len' cap' W ((HB.out.below hb).mono hb.size) HL.out hcap' (by omega))
        have HSa := Lib.hid (fun W (hb : Below w.heap.size w W) => Same_any l m a len cap am lenm capm W (H1.out.later hb).2.2.2.1 H1.out.1 (H2.out.later hb).2.2.2.1 H2.out.1 (by omega) (by omega))
        have HSb := Lib.hid (fun W (hb : Below w.heap.size w W) => rSame_any l m a len cap am lenm capm W (H1.out.later hb).2.2.2.1 H1.out.1 (H2.out.later hb).2.2.2.1 H2.out.1 (by omega) (by omega))
        obtain ⟨X, hX⟩ : ∃ X, writeV l = X := ⟨_, rfl⟩
        obtain ⟨R, hR⟩ : ∃ R, readV bl = R := ⟨_, rfl⟩
        have hML : (readV bl).1.length ≤ 16 := by
          rcases write_read bl HB.out.1 with ⟨_, h⟩ | ⟨_, _, _, h⟩
          · rw [h]; simp
          · exact h
        obtain ⟨S, hS⟩ : ∃ S, decide (l = m) = S := ⟨_, rfl⟩
        unfold RetS at HSa HSb
        rw [hS] at HSa HSb
        have HR := Lib.hid hR
        rw [hR] at HRd hML
        rw [hX] at HWr HWf HRt
        obtain ⟨xl, e0⟩ := X
        obtain ⟨M, f⟩ := R
        dsimp only at HRt hML
        clear hf hs hX hR hS
        -- Write, both
        go_wp2_with fail
        refine (HWr.out _ (Below.refl _ _)).mono ?_
        rintro e w1 ⟨a1, c1, rfl, hcap1, hB1, hb1⟩
        dsimp only at hB1 ⊢
        have hw : Below w.heap.size w w1 := hb1
        clear hb1 hcap1 HWr
        go_wp2_with fail
        refine (HWf.out _ hw).mono ?_
        rintro e w2 ⟨a2, c2, rfl, hcap2, hB2, hb2⟩
        dsimp only at hB2 ⊢
        replace hB1 := (hB1.below hb2).mono hb2.size
        replace hw := hw.trans (hb2.mono hw.size)
        have hzw2 := hw.size
        clear hb2 hcap2 HWf
        -- append([]byte{}, b...)
        have hownE := OwnB.none_ w2 w2.heap.size 5 w2.heap.size (Nat.le_refl _) rfl
        have hbE := Below.box w2 (.cells #[] 5)
        have hB' := HB.out.below (hw.trans (hbE.mono hzw2))
        have hszE : w2.heap.size ≤ (w2.alloc (.cells #[] 5)).heap.size := hbE.size
        have hszE2 : (w2.alloc (.cells #[] 5)).heap.size = w2.heap.size + 1 := by simp
        have HE2 := Lib.hid hszE2
        have hbl : bl.length ≤ 9000 := by have := HL.out; omega
        clear hszE2
        go_wp2_with (at_builtin; refine wpList_appIn rfl _ _ 33 rfl w2.heap.size 5 i0 Try.underlying33 hi hz0 hz1 hz2 _ [] _ hownE rfl w.heap.size a' bl len' cap' hB' HNil.out HL.out rfl (by simp; omega) hszE ?_; intro v3 w3 hown3 hb3 hsz3)
        rw [List.nil_append] at hown3
        have hbw3 := hbE.trans hb3
        have hsz3' : w2.heap.size + 1 ≤ w3.heap.size := by have := HE2.out; omega
        obtain ⟨a3, c3, rfl, hcap3, hB3, hfr3⟩ := hown3.slice
        rw [← HL.out] at hcap3 hown3 ⊢
        obtain ⟨G, hG1, hG2, hGa⟩ : ∃ G, w2.heap.size ≤ G ∧ G < w3.heap.size ∧ (0 < len' → a3 = some ⟨G, 0, none⟩) := by
          by_cases h0 : bl = []
          · exact ⟨w2.heap.size, Nat.le_refl _, by omega, fun h => by have := HL.out; rw [h0] at this; simp at this; omega⟩
          · obtain ⟨g, rfl, hg⟩ := hfr3 h0
            have hlt : g < w3.heap.size := by
              rcases hB3.2 with h | ⟨b, o, hbo, hN, _⟩
              · exact absurd h h0
              · simp only [Option.some.injEq, Addr.mk.injEq, and_true] at hbo
                obtain ⟨rfl, _⟩ := hbo
                exact hN
            exact ⟨g, hg, hlt, fun _ => rfl⟩
        have HGa := Lib.hid hGa
        have hwr : 0 < len' → Wr w3 G len' := by
          intro h
          have := hGa h
          subst this
          exact Wr.of hown3 HL.out
        have HWR := Lib.hid hwr
        have hRd3 := ReadF_any bl a3 len' c3 w3 hB3 HL.out hcap3 (by omega)
        rw [HR.out] at hRd3
        have HRd3 := Lib.hid hRd3
        have hB13 := (hB1.below hbw3)
        have hB23 := (hB2.below hbw3)
        have hw3 := hw.trans (hbw3.mono hzw2)
        clear hown3 hB3 hfr3 hGa hwr hRd3 hB1 hB2 hownE hbE hB' hszE hb3 hsz3 hbw3 hbl
        go_wp2_with fail
        refine HRd3.out.mono ?_
        rintro e w4 ⟨a4, c4, rfl, hcap4, hV4, hb4, hfr4⟩
        dsimp only at hcap4 hV4 hfr4 ⊢
        have hw4 := hw3.trans (hb4.mono (by omega))
        have hsz4 := hb4.size
        have HB14 := Lib.hid (hB13.below (hb4.mono (by omega)))
        have HB24 := Lib.hid (hB23.below (hb4.mono (by omega)))
        have HV4 := Lib.hid hV4
        have HF4 : Hid (M ≠ [] → ∃ g, a4 = some ⟨g, 0, none⟩ ∧ G < g) := fun h => by
          obtain ⟨g, e1, e2⟩ := hfr4 h
          exact ⟨g, e1, by omega⟩
        have HWR4 : Hid (0 < len' → Wr w4 G len') := fun h i hi => by
          obtain ⟨⟨c, hc, hcell⟩, hfz⟩ := HWR.out h i hi
          exact ⟨⟨c, hc, (hb4.cell (p := ⟨G, i, none⟩) hG2).trans hcell⟩, (hb4.frozen (p := ⟨G, i, none⟩) hG2).trans hfz⟩
        obtain ⟨nM, hnM⟩ : ∃ nM, nM = M.length := ⟨_, rfl⟩
        rw [← hnM] at hcap4 hML ⊢
        have HNM := Lib.hid hnM
        clear hB13 hB23 hV4 hfr4 hb4 HRd3 hw3 HWR hnM
        go_wp2_with fail
        go_loopw [14] (fun i wr => ∃ k : Nat, k ≤ len' ∧ i = .int .i64 k ∧ Hid (0 < len' → Wr wr G len') ∧ LaterB G w4 wr) (fun i _ => len' - (intOf i).toNat)
        case atStart => exact ⟨0, by omega, rfl, HWR4, LaterB.refl _ _⟩
        case round =>
          obtain ⟨k, hk, rfl, HW, hlb⟩ := hrel
          by_cases hlt : k < len'
          · obtain rfl := HGa.out (by omega)
            obtain ⟨⟨c, hc, hcell⟩, hfz⟩ := HW.out (by omega) k hlt
            obtain ⟨d, hd, hx⟩ := xor255 c hc
            have HW2 : Hid (0 < len' → Wr (wr.setCell ⟨G, k, none⟩ (.int .u8 (d : Int))) G len') := fun h => (HW.out h).set k d hd
            have hlb2 := hlb.trans (LaterB.setCell (w := wr) (b := G) (o := k) (.int .u8 (d : Int)))
            clear HW
            go_wp2
            go_roundw
            case rel => exact ⟨k + 1, by omega, by go_num, HW2, hlb2⟩
            case measure => simp [intOf]; omega
          · have hz4 : w2.heap.size ≤ w4.heap.size := by omega
            have hw5 : Below w.heap.size w wr := hw4.trans (hlb.below (by omega) (by omega))
            have hb45 := hlb.below hG1 hz4
            have HB15 := Lib.hid (HB14.out.below hb45)
            have HB25 := Lib.hid (HB24.out.below hb45)
            have HV5 := Lib.hid (HV4.out.laterB hlb HF4.out)
            have hz5 : w2.heap.size ≤ wr.heap.size := by have := hlb.size; omega
            clear HW HWR4 HB14 HB24 HV4 HF4 hb45
            go_wp2_with fail
            refine (HRd.out _ hw5).mono ?_
            rintro e w6 ⟨a6, c6, rfl, hcap6, hV6, hb6⟩
            dsimp only at hcap6 hV6 ⊢
            have hw6 := hw5.trans (hb6.mono hw5.size)
            have hz6 := hb6.size
            rw [← HNM.out] at hcap6 ⊢
            have HB16 := Lib.hid (HB15.out.below (hb6.mono hz5))
            have HB26 := Lib.hid (HB25.out.below (hb6.mono hz5))
            have HV56 := Lib.hid ((HV5.out.below hb6).mono hz6)
            have HV6 := Lib.hid hV6
            clear HB15 HB25 HV5 hV6 hb6 HRd hw5 hlb
            go_wp2_with fail
            refine (HA.out _).mono ?_
            rintro e w7 ⟨rfl, hb7⟩
            have hw7 := hw6.trans (hb7.mono hw6.size)
            have hz7 := hb7.size
            have hcv1 := (HB16.out.below (hb7.mono (by omega))).str xl.length c1 rfl
            have hcv2 := (HB26.out.below (hb7.mono (by omega))).str xl.length c2 rfl
            have HSm := Lib.hid (rSame_any M M a4 nM c4 a6 nM c6 w7 ((HV56.out.below hb7).mono hz7) HNM.out ((HV6.out.below hb7).mono hz7) HNM.out (by omega) (by omega))
            unfold RetS at HSm
            rw [decide_eq_true (rfl : M = M)] at HSm
            obtain ⟨x0, hx0⟩ : ∃ x0, x0 = xl.length := ⟨_, rfl⟩
            rw [← hx0] at hcv1 hcv2 ⊢
            clear HB16 HB26 HV56 HV6 hb7 hx0 hw6
            go_wp2_with fail
            refine HSm.out.mono ?_
            rintro e w8 ⟨rfl, hb8⟩
            have hw8 := hw7.trans (hb8.mono hw7.size)
            clear HSm hb8 hcv1 hcv2 hw7
            go_wp2_with fail
            refine (HRt.out _ hw8).mono ?_
            rintro e w9 ⟨rfl, hb9⟩
            have hw9 := hw8.trans (hb9.mono hw8.size)
            clear hb9 hw8
            go_wp2_with fail
            refine (HSa.out _ hw9).mono ?_
            rintro e w10 ⟨rfl, hb10⟩
            have hw10 := hw9.trans (hb10.mono hw9.size)
            clear hb10 hw9
            go_wp2_with fail
            refine (HSb.out _ hw10).mono ?_
            rintro e w11 ⟨rfl, hb11⟩
            have hw11 := hw10.trans (hb11.mono hw10.size)
            go_wp2
            go_ret
            exact ⟨rfl, hw11⟩
end Go.Proofs.Ytipeinkogoghnaa
