/- Several texts of one proof, one behind the other. -/
import Derived.Test.YtialpfdhdcjpaaaSPk6
import Derived.Maps.OwnSet
import Derived.StringKeys
set_option linter.unusedSimpArgs false
set_option linter.unusedVariables false

/- The walk of areColumns: names in a map. -/
set_option linter.unusedSimpArgs false
set_option linter.unusedVariables false
set_option maxRecDepth 100000
namespace Go.Proofs.Ytialpfdhdcjpaaa
open Go.RowKit

/-- The map's keys are these columns' names. -/
structure NameSet (l : List Col) (D : DataW Unit) : Prop where
  tidy : Maps.Tidy D
  le : Maps.size D ≤ l.length
  nd : Maps.size D = l.length ↔ (l.map Col.nm).Nodup
  has : ∀ s : ByteArray, Maps.has D (.string s.data.toList) = true ↔ s ∈ l.map Col.nm

theorem NameSet.nil : NameSet [] (.map []) := ⟨Maps.tidy_empty, by simp [Maps.size_eq], by simp [Maps.size_eq], fun s => by simp [Maps.has_eq]⟩
theorem data_inj {s t : ByteArray} (h : s.data.toList = t.data.toList) : s = t := ByteArray.ext (Array.toList_inj.1 h)
theorem NameSet.snoc {l : List Col} {D : DataW Unit} (h : NameSet l D) (c : Col) (d : DataW Unit) : NameSet (l ++ [c]) (D.put (.string c.nm.data.toList) d) := by
  have hk : WideAt.IsKeyLit (.string c.nm.data.toList) := trivial
  have hsz := Maps.size_put (k := .string c.nm.data.toList) h.tidy d
  have hh := h.has c.nm
  refine ⟨h.tidy.put hk d, ?_, ?_, fun s => ?_⟩
  · rw [hsz, List.length_append, List.length_singleton]
    have := h.le
    split <;> omega
  · rw [hsz, List.length_append, List.length_singleton, List.map_append, List.nodup_append]
    have h1 := h.le
    have h2 := h.nd
    by_cases hm : c.nm ∈ l.map Col.nm
    · rw [if_pos (hh.2 hm)]
      constructor
      · intro h0; omega
      · rintro ⟨-, -, h3⟩
        exact absurd rfl (h3 _ hm c.nm (by simp))
    · rw [if_neg (fun h0 => hm (hh.1 h0))]
      constructor
      · intro h0
        refine ⟨h2.1 (by omega), by simp, ?_⟩
        intro a ha b hb
        simp at hb
        subst hb
        rintro rfl
        exact hm ha
      · rintro ⟨h3, -, -⟩
        have := h2.2 h3
        omega
  · by_cases hs : s = c.nm
    · subst hs
      rw [Maps.has_put_same h.tidy.isMap hk d]
      simp
    · rw [Maps.has_put_other (by intro h0; injection h0 with h0; exact hs (data_inj h0)) d, h.has s]
      simp [hs]

open Classical in
noncomputable def colsOk (l : List Col) : Bool := decide (ColsOk l)
theorem colsOk_iff {l : List Col} : colsOk l = true ↔ ColsOk l := by unfold colsOk; simp
theorem colsOk_false {l : List Col} (h : ¬ ColsOk l) : colsOk l = false := by unfold colsOk; simpa using h
theorem colsOk_bad {l : List Col} {k : Nat} (hk : k < l.length) (h : l[k].ok = false) : colsOk l = false := colsOk_false (fun H => by have := H.2.2.1 _ (List.getElem_mem hk); rw [h] at this; cases this)

theorem stringKeyed : Maps.Keyed Try.prog 9 := Maps.string_keyed Try.underlying9

set_option maxHeartbeats 4000000 in
theorem areColumns_any (l : List Col) (a : Option Addr) (len cap : Nat) (w : World) (hV : Arr w.heap.size w a (cellsO l)) (hlen : len = l.length) (hmax : len ≤ 1000000) (hf : ∀ c ∈ l, c.nm.size ≤ 1000000 ∧ c.kd < 256) :
    Calls Try.prog 34 #[.slice a len cap] w fun e w' => e = .returned (.bool (colsOk l)) ∧ Below w.heap.size w w' := by
  have HV := Lib.hid hV
  have HL := Lib.hid hlen
  have HF := Lib.hid hf
  by_cases h0 : len = 0
  · have HA : Hid (colsOk l = false) := colsOk_false (fun H => by have := H.1; omega)
    subst h0
    clear hV hlen hf
    go_enter Try.func34, Try.ntmps34
    go_wp2
    go_step3
    go_wp2
    (try rw [Exit.noGoto_ret])
    go_ret
    exact ⟨ret_b HA.out.symm, Below.refl _ _⟩
  · have q0 : ((len : Int) == 0) = false := by simp; omega
    by_cases h16 : 16 < len
    · have HA : Hid (colsOk l = false) := colsOk_false (fun H => by have := H.2.1; omega)
      clear hV hlen hf
      go_enter Try.func34, Try.ntmps34
      go_wp2
      go_step3
      go_wp2
      (try rw [Exit.noGoto_ret])
      go_ret
      exact ⟨ret_b HA.out.symm, Below.refl _ _⟩
    · have q1 : decide ((16 : Int) < (len : Int)) = false := by simp; omega
      have HS : Hid ((∀ c ∈ l, c.ok = true) → (l.map Col.nm).Nodup → colsOk l = true) := fun h1 h2 => colsOk_iff.2 ⟨by omega, by omega, h1, h2⟩
      have HS2 : Hid (¬ (l.map Col.nm).Nodup → colsOk l = false) := fun h1 => colsOk_false (fun H => h1 H.2.2.2)
      clear hV hlen hf
      have hmm := @run_makeMap Try.prog
      go_enter Try.func34, Try.ntmps34
      go_wp2
      go_step3
      go_wp2
      go_step3
      go_wp2
      go_loopw [17] (fun i wr => ∃ k : Nat, ∃ D : DataW Unit, k ≤ len ∧ i = .int .i64 k ∧ Hid ((∀ c ∈ l.take k, c.ok = true) ∧ NameSet (l.take k) D) ∧ wr.ownsMap Try.prog 9 (plainElem Try.prog 3) w.heap.size k D ∧ Below w.heap.size w wr) (fun i _ => len - (intOf i).toNat)
      case atStart => exact ⟨0, .map [], by omega, rfl, ⟨by simp, by simpa using NameSet.nil⟩, World.ownsMap_made _ _ _ _, (Below.refl _ _).alloc (Nat.le_refl _) _⟩
      case round =>
        obtain ⟨k, D, hk, rfl, HI, hown, hb⟩ := hrel
        have hsz := hb.size
        have hlt0 := hown.lt
        by_cases hlt : k < len
        · have hkl : k < l.length := by have := HL.out; omega
          obtain ⟨b, o, rfl, hbN, c0, c1, c2⟩ := colAt HV.out hkl
          replace c0 := (hb.cell (p := ⟨b, o + k * 3, none⟩) hbN).trans c0
          replace c1 := (hb.cell (p := ⟨b, o + k * 3 + 1, none⟩) hbN).trans c1
          replace c2 := (hb.cell (p := ⟨b, o + k * 3 + 2, none⟩) hbN).trans c2
          have hfx := HF.out _ (List.getElem_mem hkl)
          have HBad : Hid (l[k].ok = false → colsOk l = false) := colsOk_bad hkl
          have HNext : Hid (l[k].ok = true → ∀ d, (∀ c ∈ l.take (k + 1), c.ok = true) ∧ NameSet (l.take (k + 1)) (D.put (.string l[k].nm.data.toList) d)) := fun h d => by
            rw [List.take_succ_eq_append_getElem hkl]
            refine ⟨fun c hc => ?_, HI.out.2.snoc _ d⟩
            rcases List.mem_append.1 hc with h1 | h1
            · exact HI.out.1 c h1
            · simp at h1; subst h1; exact h
          have hle := HI.out.2.le
          have hszD : Maps.size D < len := by rw [List.length_take] at hle; omega
          clear hle
          obtain ⟨x, hx⟩ : ∃ x, x = l[k] := ⟨_, rfl⟩
          rw [← hx] at c0 c1 c2 hfx HBad HNext
          clear hx hkl hbN
          obtain ⟨nm, kd, nn⟩ := x
          obtain ⟨hnm, hkd⟩ := hfx
          simp only at c0 c1 c2 HBad HNext hnm hkd
          have hfk : ∀ (W : World), wr.alloc (.cells #[.string nm, .int .u8 (kd : Int), .bool nn] 68) = W → Hid (∀ W', Below W.heap.size W W' → W'.cell? ⟨wr.heap.size, 0, none⟩ = some (.string nm) ∧ W'.cell? ⟨wr.heap.size, 1, none⟩ = some (.int .u8 (kd : Int)) ∧ W'.cell? ⟨wr.heap.size, 2, none⟩ = some (.bool nn) ∧ W'.ownsMap Try.prog 9 (plainElem Try.prog 3) w.heap.size k D ∧ Below w.heap.size w W') := by
            rintro W rfl W' hB
            have hlt1 : wr.heap.size < (wr.alloc (.cells #[.string nm, .int .u8 (kd : Int), .bool nn] 68)).heap.size := by simp
            have hm := (hown.alloc (.cells #[.string nm, .int .u8 (kd : Int), .bool nn] 68))
            refine ⟨(hB.cell (p := ⟨wr.heap.size, 0, none⟩) hlt1).trans (by simp), (hB.cell (p := ⟨wr.heap.size, 1, none⟩) hlt1).trans (by simp), (hB.cell (p := ⟨wr.heap.size, 2, none⟩) hlt1).trans (by simp), ?_, (hb.alloc hsz _).trans (hB.mono (by simp; omega))⟩
            refine hm.kept (row := none) ⟨hB.os, hB.tape, hB.output, hB.size, fun i hi _ => hB.block i hi⟩ (by simp)
          have HFK := Lib.hid (hfk _ rfl)
          have HN := Lib.hid (fun W => sName_any nm W hnm)
          have hkm : k < maxLen := by unfold maxLen; omega
          have hkw : (Lit.int .i64 (k : Int)).wf = true := by unfold maxLen at hkm; simp [Lit.wf, IntKind.min, IntKind.max, IntKind.signed, IntKind.bits]; omega
          have hnk := WideMaps.keyOf_string_mk (P := Try.prog) Try.underlying9 (s := nm) (by unfold maxLen; omega)
          have hpe := plainElem_int (H := Unit) (P := Try.prog) Try.underlying3 hkw
          clear hfk hlt0
          have qD : ((Maps.size D : Int) == (len : Int)) = false := by simp; omega
          obtain ⟨bN, hbN⟩ : ∃ bN, isNm nm = bN := ⟨_, rfl⟩
          have hokE : (⟨nm, kd, nn⟩ : Col).ok = (bN && !decide (nm = sysF) && !decide (nm = sysT) && decide (1 ≤ kd) && decide (kd ≤ 3)) := by unfold Col.ok; rw [hbN]
          have HOK := Lib.hid hokE
          clear hokE
          rw [hbN] at HN
          clear hbN
          cases bN with
          | false =>
            have HB2 := Lib.hid (HBad.out (by rw [HOK.out]; rfl))
            clear HBad HNext HOK 
            go_wp2_with fail
            refine (HN.out _).mono ?_
            rintro e w1 ⟨rfl, hb1⟩
            obtain ⟨d0, d1, -, hown1, hb1⟩ := HFK.out _ hb1
            clear HFK HN c0 c1 c2 hown hb
            go_wp2_with (at_len; refine wpList_len_own _ rfl _ _ rfl 9 3 Try.underlying102 _ w.heap.size k D rfl hown1 ?_)
            (try rw [Exit.noGoto_ret])
            go_ret
            exact ⟨ret_b HB2.out.symm, hb1⟩
          | true =>
            by_cases hF : nm = sysF
            · have HB2 := Lib.hid (HBad.out (by rw [HOK.out, decide_eq_true hF]; rfl))
              have qF : (nm.toList == [115, 121, 115, 95, 102, 114, 111, 109]) = true := by rw [hF]; decide +kernel
              have qF2 : nm.toList = [115, 121, 115, 95, 102, 114, 111, 109] := by rw [hF]; decide +kernel
              clear HBad HNext HOK hF
              go_wp2_with fail
              refine (HN.out _).mono ?_
              rintro e w1 ⟨rfl, hb1⟩
              obtain ⟨d0, d1, -, hown1, hb1⟩ := HFK.out _ hb1
              clear HFK HN c0 c1 c2 hown hb
              go_wp2_with (at_len; refine wpList_len_own _ rfl _ _ rfl 9 3 Try.underlying102 _ w.heap.size k D rfl hown1 ?_)
              (try rw [Exit.noGoto_ret])
              go_ret
              exact ⟨ret_b HB2.out.symm, hb1⟩
            · have qF : (nm.toList == [115, 121, 115, 95, 102, 114, 111, 109]) = false := by rw [beq_eq_false_iff_ne]; exact fun h => hF (toList_inj (h.trans (by decide +kernel)))
              have qF2 : ¬ nm.toList = [115, 121, 115, 95, 102, 114, 111, 109] := fun h => hF (toList_inj (h.trans (by decide +kernel)))
              by_cases hT : nm = sysT
              · have HB2 := Lib.hid (HBad.out (by rw [HOK.out, decide_eq_true hT]; simp))
                have qT : (nm.toList == [115, 121, 115, 95, 116, 111]) = true := by rw [hT]; decide +kernel
                have qT2 : nm.toList = [115, 121, 115, 95, 116, 111] := by rw [hT]; decide +kernel
                clear HBad HNext HOK hF hT
                go_wp2_with fail
                refine (HN.out _).mono ?_
                rintro e w1 ⟨rfl, hb1⟩
                obtain ⟨d0, d1, -, hown1, hb1⟩ := HFK.out _ hb1
                clear HFK HN c0 c1 c2 hown hb
                go_wp2_with (at_len; refine wpList_len_own _ rfl _ _ rfl 9 3 Try.underlying102 _ w.heap.size k D rfl hown1 ?_)
                (try rw [Exit.noGoto_ret])
                go_ret
                exact ⟨ret_b HB2.out.symm, hb1⟩
              · have qT : (nm.toList == [115, 121, 115, 95, 116, 111]) = false := by rw [beq_eq_false_iff_ne]; exact fun h => hT (toList_inj (h.trans (by decide +kernel)))
                have qT2 : ¬ nm.toList = [115, 121, 115, 95, 116, 111] := fun h => hT (toList_inj (h.trans (by decide +kernel)))
                by_cases hA : kd < 1
                · have HB2 := Lib.hid (HBad.out (by rw [HOK.out, show decide (1 ≤ kd) = false by simp; omega]; simp))
                  have qA : decide ((kd : Int) < 1) = true := by simp; omega
                  clear HBad HNext HOK hF hT hA
                  go_wp2_with fail
                  refine (HN.out _).mono ?_
                  rintro e w1 ⟨rfl, hb1⟩
                  obtain ⟨d0, d1, -, hown1, hb1⟩ := HFK.out _ hb1
                  clear HFK HN c0 c1 c2 hown hb
                  go_wp2_with (at_len; refine wpList_len_own _ rfl _ _ rfl 9 3 Try.underlying102 _ w.heap.size k D rfl hown1 ?_)
                  (try rw [Exit.noGoto_ret])
                  go_ret
                  exact ⟨ret_b HB2.out.symm, hb1⟩
                · have qA : decide ((kd : Int) < 1) = false := by simp; omega
                  by_cases hG : 3 < kd
                  · have HB2 := Lib.hid (HBad.out (by rw [HOK.out, show decide (kd ≤ 3) = false by simp; omega]; simp))
                    have qG : decide ((3 : Int) < (kd : Int)) = true := by simp; omega
                    clear HBad HNext HOK hF hT hA hG
                    go_wp2_with fail
                    refine (HN.out _).mono ?_
                    rintro e w1 ⟨rfl, hb1⟩
                    obtain ⟨d0, d1, -, hown1, hb1⟩ := HFK.out _ hb1
                    clear HFK HN c0 c1 c2 hown hb
                    go_wp2_with (at_len; refine wpList_len_own _ rfl _ _ rfl 9 3 Try.underlying102 _ w.heap.size k D rfl hown1 ?_)
                    (try rw [Exit.noGoto_ret])
                    go_ret
                    exact ⟨ret_b HB2.out.symm, hb1⟩
                  · have qG : decide ((3 : Int) < (kd : Int)) = false := by simp; omega
                    have HN2 := Lib.hid (HNext.out (by rw [HOK.out, decide_eq_false hF, decide_eq_false hT, show decide (1 ≤ kd) = true by simp; omega, show decide (kd ≤ 3) = true by simp; omega]; rfl))
                    clear HNext HBad qD hF hT HOK
                    go_wp2_with fail
                    refine (HN.out _).mono ?_
                    rintro e w1 ⟨rfl, hb1⟩
                    obtain ⟨d0, d1, -, hown1, hb1⟩ := HFK.out _ hb1
                    clear HFK HN c0 c1 c2 hown hb
                    have hsz1 := hb1.size
                    go_wp2_with (at_mapUpdate; refine wpList_mapUpdate_own _ rfl _ _ _ 102 rfl 9 3 stringKeyed Try.underlying102 _ w.heap.size k D rfl hown1 hkm _ _ (.string nm.data.toList) rfl rfl hnk (.lit (.int .i64 (k : Int))) [] hpe ?_; intro w2 hown2 hgrow2)
                    go_roundw
                    case rel => exact ⟨k + 1, _, by omega, by go_num, HN2.out _, hown2, hb1.grown hgrow2 hsz1 (by rintro j h; injection h with h; omega)⟩
                    case measure => simp [intOf]; omega
        · have hall : k = len := by omega
          subst hall
          have htk : l.take k = l := List.take_of_length_le (by have := HL.out; omega)
          have hNS := HI.out
          rw [htk] at hNS
          have hkl := HL.out
          by_cases hnd : (l.map Col.nm).Nodup
          · have qD : ((Maps.size D : Int) == (k : Int)) = true := by
              have := hNS.2.nd.2 hnd
              simp; omega
            have HA := Lib.hid (HS.out hNS.1 hnd)
            clear HI hnd hNS htk HS HS2 hkl
            go_wp2_with (at_len; refine wpList_len_own _ rfl _ _ rfl 9 3 Try.underlying102 _ w.heap.size k D rfl hown ?_)
            (try rw [Exit.noGoto_ret])
            go_ret
            exact ⟨ret_b HA.out.symm, hb⟩
          · have qD : ((Maps.size D : Int) == (k : Int)) = false := by
              have h1 : ¬ Maps.size D = l.length := fun h => hnd (hNS.2.nd.1 h)
              simp; omega
            have HA := Lib.hid (HS2.out hnd)
            clear HI hnd hNS htk HS HS2 hkl
            go_wp2_with (at_len; refine wpList_len_own _ rfl _ _ rfl 9 3 Try.underlying102 _ w.heap.size k D rfl hown ?_)
            (try rw [Exit.noGoto_ret])
            go_ret
            exact ⟨ret_b HA.out.symm, hb⟩
end Go.Proofs.Ytialpfdhdcjpaaa

/- The walks of isEdge and Find. -/
set_option linter.unusedSimpArgs false
set_option linter.unusedVariables false
set_option maxRecDepth 100000
namespace Go.Proofs.Ytialpfdhdcjpaaa
open Go.RowKit

@[go_sem high] theorem eqCol (n n' : Int) (s s' : ByteArray) (p p' : Bool) (w : World) : (Op.equalIn 10000 68 (.agg #[.string s, .int .u8 n, .bool p]) (.agg #[.string s', .int .u8 n', .bool p'])).run Try.prog w = .ok (s.toList == s'.toList && (n == n' && p == p')) w := by
  have hS : Try.prog.underlying 68 = some (.struct (Try.prog.fieldsOf 68)) := by kernel_rfl
  have hp : Try.prog.stoodInHeld 68 = false := by kernel_rfl
  rw [show (10000 : Nat) = 9999 + 1 from rfl, run_equalIn_agg w 9999 68 _ _ hS hp]
  simp only [Program.fieldsOf, Try.underlying68]
  go_simp
  by_cases h1 : n = n' <;> by_cases h2 : s.toList = s'.toList <;> by_cases h3 : p = p' <;> simp [h1, h2, h3]
@[go_sem] theorem eqGuardCol : Try.prog.eqGuardType Try.prog.depth 68 = false := by kernel_rfl

open Classical in
noncomputable def edgeB (l : List Col) (i : Int) : Bool := decide (EdgeAt l i)
theorem edgeB_false {l : List Col} {i : Int} (h : ¬ EdgeAt l i) : edgeB l i = false := by unfold edgeB; simpa using h
theorem edgeB_eq {l : List Col} {j : Nat} (h : j < l.length) : edgeB l j = (decide (l[j].kd = 1) && l[j].nn) := by
  unfold edgeB EdgeAt
  rw [Int.toNat_natCast, List.getElem?_eq_getElem h, Bool.eq_iff_iff]
  simp
  exact and_comm

set_option maxHeartbeats 4000000 in
theorem isEdge_any (t : Tb) (m : TM) (i : Int) (w : World) (h : TAt w t m) :
    Calls Try.prog 69 #[m.v t, .int .i64 i] w fun e w' => e = .returned (.bool (edgeB t.cols i)) ∧ Below w.heap.size w w' := by
  have hcmax := h.cmax
  have hcl := h.hc
  have harr := h.carr
  obtain ⟨ca, cl, cc, ka, kl, kc⟩ := m
  clear h
  dsimp only at hcmax hcl harr
  subst hcl
  have HC := Lib.hid (fun W => has_any t ⟨ca, t.cols.length, cc, ka, kl, kc⟩ i W hcmax)
  dsimp only at HC
  by_cases hr : 0 ≤ i ∧ i < (t.cols.length : Int)
  · rw [decide_eq_true hr] at HC
    obtain ⟨j, rfl⟩ : ∃ j : Nat, i = j := ⟨i.toNat, by omega⟩
    have hjl : j < t.cols.length := by omega
    obtain ⟨b2, o2, rfl, hbN2, g0, g1, g2⟩ := colAt harr hjl
    have hE := edgeB_eq hjl
    obtain ⟨x, hx⟩ : ∃ x, x = t.cols[j] := ⟨_, rfl⟩
    rw [← hx] at g0 g1 g2 hE
    obtain ⟨nm, kd, nn⟩ := x
    dsimp only at g0 g1 g2 hE
    rw [hE]
    have hjm : j < t.cols.length := hjl
    clear hx hE harr hr
    have HX : Hid (∀ W, Later (w.alloc (.cells (TM.cs ⟨some ⟨b2, o2, none⟩, t.cols.length, cc, ka, kl, kc⟩ t) 25)).drew W → TBox W w.heap.size ⟨some ⟨b2, o2, none⟩, t.cols.length, cc, ka, kl, kc⟩ t ∧ W.cell? ⟨b2, o2 + j * 3, none⟩ = some (.string nm) ∧ W.cell? ⟨b2, o2 + j * 3 + 1, none⟩ = some (.int .u8 (kd : Int)) ∧ W.cell? ⟨b2, o2 + j * 3 + 2, none⟩ = some (.bool nn) ∧ Below w.heap.size w W) := by
      intro W hW
      have hb1 := Later.undrew hW
      have hb2 : Below w.heap.size w (w.alloc (.cells (TM.cs ⟨some ⟨b2, o2, none⟩, t.cols.length, cc, ka, kl, kc⟩ t) 25)) := (Below.refl _ w).alloc (Nat.le_refl _) _
      have hb3 : Below w.heap.size w W := hb2.trans (Below.mono hb1 (by simp))
      exact ⟨(TBox.new w _ t _).later (by simp) hb1, (hb3.cell (p := ⟨b2, o2 + j * 3, none⟩) hbN2).trans g0, (hb3.cell (p := ⟨b2, o2 + j * 3 + 1, none⟩) hbN2).trans g1, (hb3.cell (p := ⟨b2, o2 + j * 3 + 2, none⟩) hbN2).trans g2, hb3⟩
    clear g0 g1 g2 hbN2
    have e0 := fun W hW => (HX.out W hW).1.c0
    have e1 := fun W hW => (HX.out W hW).1.c1
    have e2 := fun W hW => (HX.out W hW).1.c2
    have e3 := fun W hW => (HX.out W hW).1.c3
    have e4 := fun W hW => (HX.out W hW).1.c4
    have e5 := fun W hW => (HX.out W hW).1.c5
    have e6 := fun W hW => (HX.out W hW).1.c6
    have e7 := fun W hW => (HX.out W hW).1.c7
    go_enter Try.func69, Try.ntmps69
    go_wp2_with fail
    refine wp_region_ord [(0, true), (1, true), (2, false), (3, true), (4, true), (5, true), (6, true), (7, true), (8, true), (9, true), (10, true), (11, true), (12, true), (13, true), (14, true), (15, true), (16, true), (17, true), (18, true)] (by kernel_rfl) (by kernel_rfl) (by kernel_rfl) (by kernel_rfl) ?_
    repeat (first | (refine wpO_F (v := ?_) rfl (by rfl) (fun w' hL => ?_) ?_; rotate_left; (solve | (go_simp; with_reducible rfl) | go_simp); try simp only [Act.put, List.setIfInBounds_toArray, List.set_cons_zero, List.set_cons_succ]) | (refine wpO_G rfl (by rfl) ?_; try simp only [Act.put, List.setIfInBounds_toArray, List.set_cons_zero, List.set_cons_succ]))
    refine wpO_C rfl (by rfl) ?_
    go_simp
    refine (HC.out _).mono ?_
    rintro e w1 ⟨rfl, hb1⟩
    refine ⟨hb1, ?_⟩
    try simp only [Act.put, List.setIfInBounds_toArray, List.set_cons_zero, List.set_cons_succ]
    clear e0 e1 e2 e3 e4 e5 e6 e7
    have k1 := fun W (hW : Later w1 W) => (HX.out W (Later.trans hb1 hW)).1.c1
    have d0 := fun W (hW : Later w1 W) => (HX.out W (Later.trans hb1 hW)).2.1
    have d1 := fun W (hW : Later w1 W) => (HX.out W (Later.trans hb1 hW)).2.2.1
    have d2 := fun W (hW : Later w1 W) => (HX.out W (Later.trans hb1 hW)).2.2.2.1
    have HBe := Lib.hid (HX.out w1 hb1).2.2.2.2
    dsimp only at k1
    repeat (first | (refine wpO_F (v := ?_) rfl (by rfl) (fun w' hL => ?_) ?_; rotate_left; (solve | (go_simp; with_reducible rfl) | go_simp); try simp only [Act.put, List.setIfInBounds_toArray, List.set_cons_zero, List.set_cons_succ]) | (refine wpO_G rfl (by rfl) ?_; try simp only [Act.put, List.setIfInBounds_toArray, List.set_cons_zero, List.set_cons_succ]))
    refine wpO_nil ?_
    clear d0 d1 d2 k1 HX
    go_wp2
    go_ret
    exact ⟨ret_b (by cases nn <;> by_cases hk : kd = 1 <;> simp [hk] <;> omega), HBe.out⟩
  · rw [decide_eq_false hr] at HC
    have HA : Hid (edgeB t.cols i = false) := by
      refine edgeB_false ?_
      rintro ⟨h1, c, h2, -⟩
      have := (List.getElem?_eq_some_iff.1 h2).1
      exact hr ⟨h1, by omega⟩
    have HX : Hid (∀ W, Later (w.alloc (.cells (TM.cs ⟨ca, t.cols.length, cc, ka, kl, kc⟩ t) 25)).drew W → TBox W w.heap.size ⟨ca, t.cols.length, cc, ka, kl, kc⟩ t ∧ Below w.heap.size w W) := by
      intro W hW
      have hb1 := Later.undrew hW
      have hb2 : Below w.heap.size w (w.alloc (.cells (TM.cs ⟨ca, t.cols.length, cc, ka, kl, kc⟩ t) 25)) := (Below.refl _ w).alloc (Nat.le_refl _) _
      exact ⟨(TBox.new w _ t _).later (by simp) hb1, hb2.trans (Below.mono hb1 (by simp))⟩
    clear harr hr
    have e0 := fun W hW => (HX.out W hW).1.c0
    have e1 := fun W hW => (HX.out W hW).1.c1
    have e2 := fun W hW => (HX.out W hW).1.c2
    have e3 := fun W hW => (HX.out W hW).1.c3
    have e4 := fun W hW => (HX.out W hW).1.c4
    have e5 := fun W hW => (HX.out W hW).1.c5
    have e6 := fun W hW => (HX.out W hW).1.c6
    have e7 := fun W hW => (HX.out W hW).1.c7
    go_enter Try.func69, Try.ntmps69
    go_wp2_with fail
    refine wp_region_ord [(0, true), (1, true), (2, false), (3, true), (4, true), (5, true), (6, true), (7, true), (8, true), (9, true), (10, true), (11, true), (12, true), (13, true), (14, true), (15, true), (16, true), (17, true), (18, true)] (by kernel_rfl) (by kernel_rfl) (by kernel_rfl) (by kernel_rfl) ?_
    repeat (first | (refine wpO_F (v := ?_) rfl (by rfl) (fun w' hL => ?_) ?_; rotate_left; (solve | (go_simp; with_reducible rfl) | go_simp); try simp only [Act.put, List.setIfInBounds_toArray, List.set_cons_zero, List.set_cons_succ]) | (refine wpO_G rfl (by rfl) ?_; try simp only [Act.put, List.setIfInBounds_toArray, List.set_cons_zero, List.set_cons_succ]))
    refine wpO_C rfl (by rfl) ?_
    go_simp
    refine (HC.out _).mono ?_
    rintro e w1 ⟨rfl, hb1⟩
    refine ⟨hb1, ?_⟩
    try simp only [Act.put, List.setIfInBounds_toArray, List.set_cons_zero, List.set_cons_succ]
    clear e0 e1 e2 e3 e4 e5 e6 e7
    have HBe := Lib.hid (HX.out w1 hb1).2
    repeat (first | (refine wpO_F (v := ?_) rfl (by rfl) (fun w' hL => ?_) ?_; rotate_left; (solve | (go_simp; with_reducible rfl) | go_simp); try simp only [Act.put, List.setIfInBounds_toArray, List.set_cons_zero, List.set_cons_succ]) | (refine wpO_G rfl (by rfl) ?_; try simp only [Act.put, List.setIfInBounds_toArray, List.set_cons_zero, List.set_cons_succ]))
    refine wpO_nil ?_
    clear HX
    go_wp2
    go_ret
    exact ⟨ret_b HA.out.symm, HBe.out⟩

theorem find_clo (c : Col) (s : ByteArray) (g : Nat) (w : World) (hg : w.cell? ⟨g, 0, none⟩ = some (.string s)) :
    Calls Try.prog 42 #[.agg #[.string c.nm, .int .u8 (c.kd : Int), .bool c.nn], .pointer (some ⟨g, 0, none⟩)] w fun e w' => e = .returned (.bool (decide (c.nm = s))) ∧ Below w.heap.size w w' := by
  have hlt : g < w.heap.size := World.block_lt_of_cell? _ _ hg
  have HB : Hid (Below w.heap.size w (w.alloc (.cells #[.string c.nm, .int .u8 (c.kd : Int), .bool c.nn] 68))) := (Below.refl _ w).alloc (Nat.le_refl _) _
  have hg1 : (w.alloc (.cells #[.string c.nm, .int .u8 (c.kd : Int), .bool c.nn] 68)).cell? ⟨g, 0, none⟩ = some (.string s) := (HB.out.cell (p := ⟨g, 0, none⟩) hlt).trans hg
  obtain ⟨nm, kd, nn⟩ := c
  dsimp only at *
  by_cases hx : nm = s
  · subst hx
    go_enter Try.func42, Try.ntmps42
    go_wp2
    go_ret
    exact ⟨by simp, HB.out⟩
  · have q1 : (nm.toList == s.toList) = false := by rw [beq_eq_false_iff_ne]; exact fun h => hx (toList_inj h)
    have q2 : ¬ nm.toList = s.toList := fun h => hx (toList_inj h)
    have HA : Hid (decide (nm = s) = false) := decide_eq_false hx
    clear hx
    go_enter Try.func42, Try.ntmps42
    go_wp2
    go_ret
    exact ⟨ret_b HA.out.symm, HB.out⟩
end Go.Proofs.Ytialpfdhdcjpaaa

/- The walks of slices.IndexFunc over columns, of Find, isPeriod, canBeApart and Right. -/
set_option linter.unusedSimpArgs false
set_option linter.unusedVariables false
set_option maxRecDepth 100000
namespace Go.Proofs.Ytialpfdhdcjpaaa
open Go.RowKit

set_option maxHeartbeats 1000000 in
theorem indexCol_any (l : List Col) (s : ByteArray) (g : Nat) (a : Option Addr) (len cap : Nat) (w : World) (hV : Arr w.heap.size w a (cellsO l)) (hlen : len = l.length) (hmax : len ≤ 1000000) (hg : w.cell? ⟨g, 0, none⟩ = some (.string s)) :
    Calls Try.prog 41 #[.slice a len cap, .func (.func 42) #[] #[.pointer (some ⟨g, 0, none⟩)]] w fun e w' => e = .returned (.int .i64 (findC l s)) ∧ Below w.heap.size w w' := by
  have HV := Lib.hid hV
  have HL := Lib.hid hlen
  have hglt : g < w.heap.size := World.block_lt_of_cell? _ _ hg
  have HCl := Lib.hid (fun c W (hb : Below w.heap.size w W) => find_clo c s g W ((hb.cell (p := ⟨g, 0, none⟩) hglt).trans hg))
  clear hV hlen hg hglt
  go_enter Try.func41, Try.ntmps41
  go_wp2
  go_loopw [8] (fun i wr => ∃ k : Nat, k ≤ len ∧ i = .int .i64 k ∧ Hid (∀ c ∈ l.take k, c.nm ≠ s) ∧ Below w.heap.size w wr) (fun i _ => len - (intOf i).toNat)
  case atStart => exact ⟨0, by omega, rfl, by simp [Hid], Below.refl _ _⟩
  case round =>
    obtain ⟨k, hk, rfl, HI, hb⟩ := hrel
    have hsz := hb.size
    by_cases hlt : k < len
    · have hkl : k < l.length := by have := HL.out; omega
      obtain ⟨b, o, rfl, hbN, c0, c1, c2⟩ := colAt HV.out hkl
      replace c0 := (hb.cell (p := ⟨b, o + k * 3, none⟩) hbN).trans c0
      replace c1 := (hb.cell (p := ⟨b, o + k * 3 + 1, none⟩) hbN).trans c1
      replace c2 := (hb.cell (p := ⟨b, o + k * 3 + 2, none⟩) hbN).trans c2
      have HF : Hid (l[k].nm = s → findC l s = k) := fun h => findC_hit hkl h HI.out
      have HN : Hid (l[k].nm ≠ s → ∀ c ∈ l.take (k + 1), c.nm ≠ s) := fun h c hc => by
        rw [List.take_succ_eq_append_getElem hkl] at hc
        rcases List.mem_append.1 hc with h1 | h1
        · exact HI.out c h1
        · simp at h1; subst h1; exact h
      obtain ⟨x, hx⟩ : ∃ x, x = l[k] := ⟨_, rfl⟩
      rw [← hx] at c0 c1 c2 HF HN
      clear hx hbN
      obtain ⟨nm, kd, nn⟩ := x
      dsimp only at c0 c1 c2 HF HN
      have HC := Lib.hid (HCl.out ⟨nm, kd, nn⟩ wr hb)
      dsimp only at HC
      by_cases hxs : nm = s
      · have HA := Lib.hid (HF.out hxs)
        rw [decide_eq_true hxs] at HC
        clear HF HN hxs
        go_wp2_with fail
        refine HC.out.mono ?_
        rintro e w1 ⟨rfl, hb1⟩
        go_wp2
        go_ret
        exact ⟨by rw [HA.out]; rfl, hb.trans (hb1.mono hsz)⟩
      · have HA := Lib.hid (HN.out hxs)
        rw [decide_eq_false hxs] at HC
        clear HF HN hxs
        go_wp2_with fail
        refine HC.out.mono ?_
        rintro e w1 ⟨rfl, hb1⟩
        go_wp2
        go_roundw
        case rel => exact ⟨k + 1, by omega, by go_num, HA, hb.trans (hb1.mono hsz)⟩
        case measure => simp [intOf]; omega
    · have HA : Hid (findC l s = -1) := findC_none (by have := HI.out; rwa [List.take_of_length_le (by have := HL.out; omega)] at this)
      go_wp2
      go_ret
      exact ⟨by rw [HA.out]; rfl, hb⟩

set_option maxHeartbeats 1000000 in
theorem sFind_any (t : Tb) (m : TM) (s : ByteArray) (w : World) (h : TAt w t m) :
    Calls Try.prog 14 #[m.v t, .string s] w fun e w' => e = .returned (.int .i64 (findC t.cols s)) ∧ Below w.heap.size w w' := by
  have HB : Hid (Below w.heap.size w ((w.alloc (.cells (m.cs t) 25)).alloc (.cells #[.string s] 9))) := ((Below.refl _ w).alloc (Nat.le_refl _) _).alloc (by simp) _
  have HF := Lib.hid (fun W (hb : Below w.heap.size w W) g => indexCol_any t.cols s g m.ca m.cl m.cc W (h.carr.later (N := 0) hb) h.hc h.cmax)
  go_enter Try.func14, Try.ntmps14
  go_wp2_with fail
  refine (HF.out _ HB.out _ (by simp)).mono ?_
  rintro e w1 ⟨rfl, hb1⟩
  go_wp2
  go_ret
  exact ⟨rfl, HB.out.trans (hb1.mono (by simp; omega))⟩

open Classical in
noncomputable def perOk (t : Tb) : Bool := decide (PerOk t)
open Classical in
noncomputable def apOk (t : Tb) : Bool := decide (t.per.size ≠ 0 ∧ t.fr ∉ t.key ∧ t.tt ∉ t.key)
theorem perOk_eq (t : Tb) : perOk t = if t.per.size = 0 then (decide (t.fr = -1) && decide (t.tt = -1)) else (isNm t.per && (decide (findC t.cols t.per = -1) && (decide (t.fr ≠ t.tt) && (edgeB t.cols t.fr && edgeB t.cols t.tt)))) := by
  unfold perOk PerOk edgeB
  rw [Bool.eq_iff_iff]
  by_cases h0 : t.per.size = 0
  · rw [if_pos h0, if_pos h0]; simp
  · rw [if_neg h0, if_neg h0]; simp
theorem apOk_eq (t : Tb) : apOk t = (decide (t.per.size ≠ 0) && (!decide (t.fr ∈ t.key) && !decide (t.tt ∈ t.key))) := by
  unfold apOk
  rw [Bool.eq_iff_iff]
  simp
theorem Tb.ok_eq (t : Tb) : t.ok = (isNm t.name && (colsOk t.cols && (keyOkB t.cols t.key && (perOk t && (!t.apart || apOk t))))) := by
  unfold Tb.ok Tb.Ok colsOk keyOkB perOk ApOk apOk
  rw [Bool.eq_iff_iff]
  cases t.apart <;> simp
end Go.Proofs.Ytialpfdhdcjpaaa

/- The walk of isPeriod. -/
set_option linter.unusedSimpArgs false
set_option linter.unusedVariables false
set_option maxRecDepth 100000
namespace Go.Proofs.Ytialpfdhdcjpaaa
open Go.RowKit

set_option maxHeartbeats 4000000 in
theorem isPeriod_any (t : Tb) (m : TM) (w : World) (h : TAt w t m) :
    Calls Try.prog 36 #[m.v t] w fun e w' => e = .returned (.bool (perOk t)) ∧ Below w.heap.size w w' := by
  have HX : Hid (TBox (w.alloc (.cells (m.cs t) 25)) w.heap.size m t) := TBox.new w m t _
  have HB0 : Hid (Below w.heap.size w (w.alloc (.cells (m.cs t) 25))) := (Below.refl _ w).alloc (Nat.le_refl _) _
  have HP := Lib.hid (fun W => hasPeriod_any t m W)
  have HN := Lib.hid (fun W => sName_any t.per W h.fair.per)
  have HF := Lib.hid (fun W (hb : Below w.heap.size w W) => sFind_any t m t.per W (h.later hb))
  have HE := Lib.hid (fun i W (hb : Below w.heap.size w W) => isEdge_any t m i W (h.later hb))
  have HTL := Lib.hid (fun W W' (hX : TBox W w.heap.size m t) (hlt : w.heap.size < W.heap.size) (hb : Below W.heap.size W W') => TBox.later hX hlt hb)
  have heq := perOk_eq t
  clear h
  by_cases h0 : t.per.size = 0
  · rw [if_pos h0] at heq
    rw [heq]
    rw [show decide (t.per.size ≠ 0) = false by simp [h0]] at HP
    clear heq HN HF HE
    by_cases h1 : t.fr = -1
    · have q1 : (t.fr == -1) = true := by simp [h1]
      rw [decide_eq_true h1]
      clear h1
      go_enter Try.func36, Try.ntmps36
      go_wp2_with fail
      refine (HP.out _).mono ?_
      rintro e w1 ⟨rfl, hb1⟩
      have hX := HTL.out _ _ HX.out (by simp) hb1
      have HB1 := Lib.hid (HB0.out.trans (hb1.mono (by simp)))
      obtain ⟨x0, x1, x2, x3, x4, x5, x6, x7⟩ := hX
      go_wp2
      go_ret
      exact ⟨ret_b (by rw [Bool.eq_iff_iff]; simp), HB1.out⟩
    · have q1 : (t.fr == -1) = false := by simpa using h1
      rw [decide_eq_false h1]
      go_enter Try.func36, Try.ntmps36
      go_wp2_with fail
      refine (HP.out _).mono ?_
      rintro e w1 ⟨rfl, hb1⟩
      have hX := HTL.out _ _ HX.out (by simp) hb1
      have HB1 := Lib.hid (HB0.out.trans (hb1.mono (by simp)))
      obtain ⟨x0, x1, x2, x3, x4, x5, x6, x7⟩ := hX
      go_wp2
      go_ret
      exact ⟨ret_b (by simp), HB1.out⟩
  · rw [if_neg h0] at heq
    rw [heq]
    rw [show decide (t.per.size ≠ 0) = true by simp [h0]] at HP
    clear heq
    obtain ⟨b1, hb1'⟩ : ∃ b1, isNm t.per = b1 := ⟨_, rfl⟩
    obtain ⟨r, hr'⟩ : ∃ r, findC t.cols t.per = r := ⟨_, rfl⟩
    obtain ⟨b2, hb2'⟩ : ∃ b2, edgeB t.cols t.fr = b2 := ⟨_, rfl⟩
    obtain ⟨b3, hb3'⟩ : ∃ b3, edgeB t.cols t.tt = b3 := ⟨_, rfl⟩
    have HE1 := Lib.hid (HE.out t.fr)
    have HE2 := Lib.hid (HE.out t.tt)
    obtain ⟨c1, hc1⟩ : ∃ c, decide (r = -1) = c := ⟨_, rfl⟩
    obtain ⟨c2, hc2⟩ : ∃ c, decide (t.fr ≠ t.tt) = c := ⟨_, rfl⟩
    have q1 : (r == -1) = c1 := by rw [← hc1]; rfl
    have q2 : (t.fr != t.tt) = c2 := by rw [← hc2, Bool.eq_iff_iff]; simp
    rw [hb1'] at HN ⊢
    rw [hr', hc1, hc2]
    rw [hr'] at HF
    rw [hb2'] at HE1 ⊢
    rw [hb3'] at HE2 ⊢
    clear hb1' hr' hb2' hb3' HE hc1 hc2
    have HX0 := HX
    have hs0 : w.heap.size < (w.alloc (.cells (m.cs t) 25)).heap.size := by simp
    clear HX
    go_enter Try.func36, Try.ntmps36
    go_wp2_with fail
    refine (HP.out _).mono ?_
    rintro e w1 ⟨rfl, hb1⟩
    have hX1 := HTL.out _ _ HX0.out hs0 hb1
    have hs1 := Nat.lt_of_lt_of_le hs0 hb1.size
    have HB1 := Lib.hid (HB0.out.trans (hb1.mono (Nat.le_of_lt hs0)))
    have HX1 := Lib.hid hX1
    clear hb1 hs0 HX0 HB0
    obtain ⟨x10, x11, x12, x13, x14, x15, x16, x17⟩ := hX1
    go_wp2_with fail
    refine (HN.out _).mono ?_
    rintro e w2 ⟨rfl, hb2⟩
    have hX2 := HTL.out _ _ HX1.out hs1 hb2
    have hs2 := Nat.lt_of_lt_of_le hs1 hb2.size
    have HB2 := Lib.hid (HB1.out.trans (hb2.mono (Nat.le_of_lt hs1)))
    have HX2 := Lib.hid hX2
    clear hb2 hs1 HX1 HB1
    obtain ⟨x20, x21, x22, x23, x24, x25, x26, x27⟩ := hX2
    clear x10 x11 x12 x13 x14 x15 x16 x17
    cases b1 with
    | false =>
      go_wp2
      go_ret
      exact ⟨ret_b (by simp), HB2.out⟩
    | true =>
      go_wp2_with fail
      refine (HF.out _ HB2.out).mono ?_
      rintro e w3 ⟨rfl, hb3⟩
      have hX3 := HTL.out _ _ HX2.out hs2 hb3
      have hs3 := Nat.lt_of_lt_of_le hs2 hb3.size
      have HB3 := Lib.hid (HB2.out.trans (hb3.mono (Nat.le_of_lt hs2)))
      have HX3 := Lib.hid hX3
      clear hb3 hs2 HX2 HB2
      obtain ⟨x30, x31, x32, x33, x34, x35, x36, x37⟩ := hX3
      clear x20 x21 x22 x23 x24 x25 x26 x27
      cases c1 with
      | false =>
        go_wp2
        go_ret
        exact ⟨ret_b (by simp), HB3.out⟩
      | true =>
        cases c2 with
        | false =>
          go_wp2
          go_ret
          exact ⟨ret_b (by simp), HB3.out⟩
        | true =>
          go_wp2_with fail
          refine (HE1.out _ HB3.out).mono ?_
          rintro e w4 ⟨rfl, hb4⟩
          have hX4 := HTL.out _ _ HX3.out hs3 hb4
          have hs4 := Nat.lt_of_lt_of_le hs3 hb4.size
          have HB4 := Lib.hid (HB3.out.trans (hb4.mono (Nat.le_of_lt hs3)))
          have HX4 := Lib.hid hX4
          clear hb4 hs3 HX3 HB3
          obtain ⟨x40, x41, x42, x43, x44, x45, x46, x47⟩ := hX4
          clear x30 x31 x32 x33 x34 x35 x36 x37
          cases b2 with
          | false =>
            go_wp2
            go_ret
            exact ⟨ret_b (by simp), HB4.out⟩
          | true =>
            go_wp2_with fail
            refine (HE2.out _ HB4.out).mono ?_
            rintro e w5 ⟨rfl, hb5⟩
            have hX5 := HTL.out _ _ HX4.out hs4 hb5
            have hs5 := Nat.lt_of_lt_of_le hs4 hb5.size
            have HB5 := Lib.hid (HB4.out.trans (hb5.mono (Nat.le_of_lt hs4)))
            have HX5 := Lib.hid hX5
            clear hb5 hs4 HX4 HB4
            obtain ⟨x50, x51, x52, x53, x54, x55, x56, x57⟩ := hX5
            clear x40 x41 x42 x43 x44 x45 x46 x47
            go_wp2
            go_ret
            exact ⟨ret_b (by simp), HB5.out⟩
end Go.Proofs.Ytialpfdhdcjpaaa

/- The walk of canBeApart. -/
set_option linter.unusedSimpArgs false
set_option linter.unusedVariables false
set_option maxRecDepth 100000
namespace Go.Proofs.Ytialpfdhdcjpaaa
open Go.RowKit

set_option maxHeartbeats 4000000 in
theorem canBeApart_any (t : Tb) (m : TM) (w : World) (h : TAt w t m) :
    Calls Try.prog 37 #[m.v t] w fun e w' => e = .returned (.bool (apOk t)) ∧ Below w.heap.size w w' := by
  have HX0 : Hid (TBox (w.alloc (.cells (m.cs t) 25)) w.heap.size m t) := TBox.new w m t _
  have HB0 : Hid (Below w.heap.size w (w.alloc (.cells (m.cs t) 25))) := (Below.refl _ w).alloc (Nat.le_refl _) _
  have hs0 : w.heap.size < (w.alloc (.cells (m.cs t) 25)).heap.size := by simp
  have HTL := Lib.hid (fun W W' (hX : TBox W w.heap.size m t) (hlt : w.heap.size < W.heap.size) (hb : Below W.heap.size W W') => TBox.later hX hlt hb)
  have HP := Lib.hid (fun W => hasPeriod_any t m W)
  have HC := Lib.hid (fun i W (hb : Below w.heap.size w W) => sContainsI_any t.key i m.ka m.kl m.kc W (h.karr.later (N := 0) hb) h.hk (by have := h.kmax; omega))
  rw [apOk_eq]
  clear h
  obtain ⟨b0, hb0'⟩ : ∃ b0, decide (t.per.size ≠ 0) = b0 := ⟨_, rfl⟩
  obtain ⟨b1, hb1'⟩ : ∃ b1, decide (t.fr ∈ t.key) = b1 := ⟨_, rfl⟩
  obtain ⟨b2, hb2'⟩ : ∃ b2, decide (t.tt ∈ t.key) = b2 := ⟨_, rfl⟩
  have HC1 := Lib.hid (HC.out t.fr)
  have HC2 := Lib.hid (HC.out t.tt)
  rw [hb0'] at HP ⊢
  rw [hb1'] at HC1 ⊢
  rw [hb2'] at HC2 ⊢
  clear hb0' hb1' hb2' HC
  go_enter Try.func37, Try.ntmps37
  go_wp2_with fail
  refine (HP.out _).mono ?_
  rintro e w1 ⟨rfl, hb1⟩
  have hX1 := HTL.out _ _ HX0.out hs0 hb1
  have hs1 := Nat.lt_of_lt_of_le hs0 hb1.size
  have HB1 := Lib.hid (HB0.out.trans (hb1.mono (Nat.le_of_lt hs0)))
  have HX1 := Lib.hid hX1
  clear hb1 hs0 HX0 HB0
  obtain ⟨x10, x11, x12, x13, x14, x15, x16, x17⟩ := hX1
  cases b0 with
  | false =>
    go_wp2
    go_ret
    exact ⟨ret_b (by simp), HB1.out⟩
  | true =>
    go_wp2_with fail
    refine (HC1.out _ HB1.out).mono ?_
    rintro e wz ⟨rfl, rfl⟩
    cases b1 with
    | true =>
      go_wp2
      go_ret
      exact ⟨ret_b (by simp), HB1.out⟩
    | false =>
      go_wp2_with fail
      refine (HC2.out _ HB1.out).mono ?_
      rintro e wz ⟨rfl, rfl⟩
      go_wp2
      go_ret
      exact ⟨ret_b (by simp), HB1.out⟩
end Go.Proofs.Ytialpfdhdcjpaaa

/- The walk of Right. -/
set_option linter.unusedSimpArgs false
set_option linter.unusedVariables false
set_option maxRecDepth 100000
namespace Go.Proofs.Ytialpfdhdcjpaaa
open Go.RowKit

set_option maxHeartbeats 4000000 in
theorem sRight_any (t : Tb) (m : TM) (w : World) (h : TAt w t m) :
    Calls Try.prog 12 #[m.v t] w fun e w' => e = .returned (.bool t.ok) ∧ Below w.heap.size w w' := by
  have HX0 : Hid (TBox (w.alloc (.cells (m.cs t) 25)) w.heap.size m t) := TBox.new w m t _
  have HB0 : Hid (Below w.heap.size w (w.alloc (.cells (m.cs t) 25))) := (Below.refl _ w).alloc (Nat.le_refl _) _
  have hs0 : w.heap.size < (w.alloc (.cells (m.cs t) 25)).heap.size := by simp
  have HTL := Lib.hid (fun W W' (hX : TBox W w.heap.size m t) (hlt : w.heap.size < W.heap.size) (hb : Below W.heap.size W W') => TBox.later hX hlt hb)
  have HN := Lib.hid (fun W => sName_any t.name W h.fair.nm)
  have HC := Lib.hid (fun W (hb : Below w.heap.size w W) => areColumns_any t.cols m.ca m.cl m.cc W (h.carr.later (N := 0) hb) h.hc h.cmax h.fair.cols)
  have HK := Lib.hid (fun W (hb : Below w.heap.size w W) => isKey_any t m W (h.later hb))
  have HP := Lib.hid (fun W (hb : Below w.heap.size w W) => isPeriod_any t m W (h.later hb))
  have HA := Lib.hid (fun W (hb : Below w.heap.size w W) => canBeApart_any t m W (h.later hb))
  rw [Tb.ok_eq]
  clear h
  obtain ⟨b1, h1'⟩ : ∃ b, isNm t.name = b := ⟨_, rfl⟩
  obtain ⟨b2, h2'⟩ : ∃ b, colsOk t.cols = b := ⟨_, rfl⟩
  obtain ⟨b3, h3'⟩ : ∃ b, keyOkB t.cols t.key = b := ⟨_, rfl⟩
  obtain ⟨b4, h4'⟩ : ∃ b, perOk t = b := ⟨_, rfl⟩
  obtain ⟨b5, h5'⟩ : ∃ b, apOk t = b := ⟨_, rfl⟩
  obtain ⟨b6, h6'⟩ : ∃ b, t.apart = b := ⟨_, rfl⟩
  rw [h1'] at HN ⊢
  rw [h2'] at HC ⊢
  rw [h3'] at HK ⊢
  rw [h4'] at HP ⊢
  rw [h5'] at HA ⊢
  rw [h6']
  have H6 := Lib.hid h6'
  clear h1' h2' h3' h4' h5' h6'
  go_enter Try.func12, Try.ntmps12
  go_wp2_with fail
  refine (HN.out _).mono ?_
  rintro e w1 ⟨rfl, hb1⟩
  have hX1 := HTL.out _ _ HX0.out hs0 hb1
  have hs1 := Nat.lt_of_lt_of_le hs0 hb1.size
  have HB1 := Lib.hid (HB0.out.trans (hb1.mono (Nat.le_of_lt hs0)))
  have HX1 := Lib.hid hX1
  clear hb1 hs0 HX0 HB0
  obtain ⟨x10, x11, x12, x13, x14, x15, x16, x17⟩ := hX1
  cases b1 with
  | false =>
    go_wp2
    go_ret
    exact ⟨ret_b (by simp), HB1.out⟩
  | true =>
    go_wp2_with fail
    refine (HC.out _ HB1.out).mono ?_
    rintro e w2 ⟨rfl, hb2⟩
    have hX2 := HTL.out _ _ HX1.out hs1 hb2
    have hs2 := Nat.lt_of_lt_of_le hs1 hb2.size
    have HB2 := Lib.hid (HB1.out.trans (hb2.mono (Nat.le_of_lt hs1)))
    have HX2 := Lib.hid hX2
    clear hb2 hs1 HX1 HB1
    obtain ⟨x20, x21, x22, x23, x24, x25, x26, x27⟩ := hX2
    clear x10 x11 x12 x13 x14 x15 x16 x17
    cases b2 with
    | false =>
      go_wp2
      go_ret
      exact ⟨ret_b (by simp), HB2.out⟩
    | true =>
      go_wp2_with fail
      refine (HK.out _ HB2.out).mono ?_
      rintro e w3 ⟨rfl, hb3⟩
      have hX3 := HTL.out _ _ HX2.out hs2 hb3
      have hs3 := Nat.lt_of_lt_of_le hs2 hb3.size
      have HB3 := Lib.hid (HB2.out.trans (hb3.mono (Nat.le_of_lt hs2)))
      have HX3 := Lib.hid hX3
      clear hb3 hs2 HX2 HB2
      obtain ⟨x30, x31, x32, x33, x34, x35, x36, x37⟩ := hX3
      clear x20 x21 x22 x23 x24 x25 x26 x27
      cases b3 with
      | false =>
        go_wp2
        go_ret
        exact ⟨ret_b (by simp), HB3.out⟩
      | true =>
        go_wp2_with fail
        refine (HP.out _ HB3.out).mono ?_
        rintro e w4 ⟨rfl, hb4⟩
        have hX4 := HTL.out _ _ HX3.out hs3 hb4
        have hs4 := Nat.lt_of_lt_of_le hs3 hb4.size
        have HB4 := Lib.hid (HB3.out.trans (hb4.mono (Nat.le_of_lt hs3)))
        have HX4 := Lib.hid hX4
        clear hb4 hs3 HX3 HB3
        obtain ⟨x40, x41, x42, x43, x44, x45, x46, x47⟩ := hX4
        clear x30 x31 x32 x33 x34 x35 x36 x37
        cases b4 with
        | false =>
          go_wp2
          go_ret
          exact ⟨ret_b (by simp), HB4.out⟩
        | true =>
          cases b6 with
          | false =>
            have q6 : (!t.apart) = true := by rw [H6.out]; rfl
            go_wp2
            go_ret
            exact ⟨ret_b (by simp), HB4.out⟩
          | true =>
            have q6 : (!t.apart) = false := by rw [H6.out]; rfl
            go_wp2_with fail
            refine (HA.out _ HB4.out).mono ?_
            rintro e w5 ⟨rfl, hb5⟩
            have hX5 := HTL.out _ _ HX4.out hs4 hb5
            have hs5 := Nat.lt_of_lt_of_le hs4 hb5.size
            have HB5 := Lib.hid (HB4.out.trans (hb5.mono (Nat.le_of_lt hs4)))
            have HX5 := Lib.hid hX5
            clear hb5 hs4 HX4 HB4
            obtain ⟨x50, x51, x52, x53, x54, x55, x56, x57⟩ := hX5
            go_wp2
            go_ret
            exact ⟨ret_b (by simp), HB5.out⟩
end Go.Proofs.Ytialpfdhdcjpaaa
