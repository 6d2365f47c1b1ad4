/- Several texts of one proof, one behind the other. -/
import Derived.Test.YtialpfdhdcjpaaaSPk14
import Derived.Lib.Hide
set_option linter.unusedSimpArgs false
set_option linter.unusedVariables false

/- What may stand in a column; the walk of Column.check. -/
set_option linter.unusedSimpArgs false
set_option linter.unusedVariables false
set_option maxRecDepth 100000
namespace Go.Proofs.Ytialpfdhdcjpaaa
open Go.RowKit

/-- The error of a value in a column. -/
def chkV (c : Col) (x : Vl) : Int := if x.right = false then 3 else if x.k = 0 then (if c.nn then 23 else 0) else if x.k = c.kd then 0 else 20
/-- The first one's. -/
def rowErr : List Col → List Vl → Int
  | c :: cs, x :: xs => if chkV c x = 0 then rowErr cs xs else chkV c x
  | _, _ => 0
theorem rowErr_first : ∀ (cs : List Col) (xs : List Vl) (k : Nat) (hc : k < cs.length) (hx : k < xs.length), (∀ (i : Nat) c x, i < k → cs[i]? = some c → xs[i]? = some x → chkV c x = 0) → chkV cs[k] xs[k] ≠ 0 → rowErr cs xs = chkV cs[k] xs[k]
  | [], _, k, hc, _, _, _ => by simp at hc
  | _ :: _, [], k, _, hx, _, _ => by simp at hx
  | c :: cs, x :: xs, 0, _, _, _, h => by
    unfold rowErr
    exact if_neg h
  | c :: cs, x :: xs, k + 1, hc, hx, h0, h => by
    unfold rowErr
    rw [if_pos (h0 0 c x (by omega) rfl rfl)]
    exact rowErr_first cs xs k (by simpa using hc) (by simpa using hx) (fun i c x hi h1 h2 => h0 (i + 1) c x (by omega) h1 h2) h
theorem rowErr_none : ∀ (cs : List Col) (xs : List Vl), (∀ (i : Nat) c x, cs[i]? = some c → xs[i]? = some x → chkV c x = 0) → rowErr cs xs = 0
  | [], _, _ => by simp [rowErr]
  | _ :: _, [], _ => by simp [rowErr]
  | c :: cs, x :: xs, h => by
    unfold rowErr
    rw [if_pos (h 0 c x rfl rfl)]
    exact rowErr_none cs xs (fun i c x h1 h2 => h (i + 1) c x h1 h2)
theorem rowErr_ok : ∀ (cs : List Col) (xs : List Vl), rowErr cs xs = 0 → ∀ (i : Nat) c x, cs[i]? = some c → xs[i]? = some x → chkV c x = 0
  | [], _, _, i, c, x, h1, _ => by simp at h1
  | _ :: _, [], _, i, c, x, _, h2 => by simp at h2
  | d :: cs, y :: xs, h, i, c, x, h1, h2 => by
    unfold rowErr at h
    by_cases h0 : chkV d y = 0
    · rw [if_pos h0] at h
      cases i with
      | zero => simp at h1 h2; subst h1 h2; exact h0
      | succ i => exact rowErr_ok cs xs h i c x (by simpa using h1) (by simpa using h2)
    · rw [if_neg h0] at h; exact absurd h h0
theorem rowErr_bd : ∀ (cs : List Col) (xs : List Vl), 0 ≤ rowErr cs xs ∧ rowErr cs xs ≤ 100
  | [], _ => by simp [rowErr]
  | _ :: _, [] => by simp [rowErr]
  | d :: cs, y :: xs => by
    unfold rowErr
    split
    · exact rowErr_bd cs xs
    · unfold chkV; split <;> (try split) <;> (try split) <;> omega

set_option maxHeartbeats 2000000 in
theorem sCheckC_any (c : Col) (x : Vl) (w : World) :
    Calls Try.prog 45 #[.agg #[.string c.nm, .int .u8 (c.kd : Int), .bool c.nn], .agg #[.int .u8 (x.k : Int), .int .i64 x.n, .string x.s]] w fun e w' => e = .returned (.int .i64 (chkV c x)) ∧ Below w.heap.size w w' := by
  obtain ⟨nm, kd, nn⟩ := c
  obtain ⟨k, n, s⟩ := x
  have HR := Lib.hid (fun W => right_any k n s W)
  have HB0 : Hid (Below w.heap.size w ((w.alloc (.cells #[.string nm, .int .u8 (kd : Int), .bool nn] 68)).alloc (.cells #[.int .u8 (k : Int), .int .i64 n, .string s] 52))) := ((Below.refl _ w).alloc (Nat.le_refl _) _).alloc (by simp) _
  have HF : Hid (∀ W, Below (w.heap.size + 2) ((w.alloc (.cells #[.string nm, .int .u8 (kd : Int), .bool nn] 68)).alloc (.cells #[.int .u8 (k : Int), .int .i64 n, .string s] 52)) W → W.cell? ⟨w.heap.size, 1, none⟩ = some (.int .u8 (kd : Int)) ∧ W.cell? ⟨w.heap.size, 2, none⟩ = some (.bool nn) ∧ W.cell? ⟨w.heap.size + 1, 0, none⟩ = some (.int .u8 (k : Int))) := by
    intro W hb
    exact ⟨(hb.cell (p := ⟨w.heap.size, 1, none⟩) (by show w.heap.size < _; omega)).trans (by simp), (hb.cell (p := ⟨w.heap.size, 2, none⟩) (by show w.heap.size < _; omega)).trans (by simp), (hb.cell (p := ⟨w.heap.size + 1, 0, none⟩) (by show w.heap.size + 1 < _; omega)).trans (by simp)⟩
  unfold chkV
  dsimp only
  generalize Vl.right ⟨k, n, s⟩ = b at *
  obtain ⟨E, hE⟩ : ∃ E : Int, (if b = false then 3 else if k = 0 then (if nn then 23 else 0) else if k = kd then 0 else 20) = E := ⟨_, rfl⟩
  rw [hE]
  have HE := Lib.hid hE
  clear hE
  cases b with
  | false =>
    go_enter Try.func45, Try.ntmps45
    go_wp2_with fail
    refine (HR.out _).mono ?_
    rintro e w1 ⟨rfl, hb1⟩
    have HB1 := Lib.hid (HB0.out.trans (hb1.mono (by simp; omega)))
    clear hb1
    go_wp2
    go_ret
    exact ⟨by rw [← HE.out]; rfl, HB1.out⟩
  | true =>
    by_cases h0 : k = 0
    · subst h0
      cases nn with
      | true =>
        go_enter Try.func45, Try.ntmps45
        go_wp2_with fail
        refine (HR.out _).mono ?_
        rintro e w1 ⟨rfl, hb1⟩
        have HB1 := Lib.hid (HB0.out.trans (hb1.mono (by simp; omega)))
        obtain ⟨c1, c2, c3⟩ := HF.out w1 (hb1.mono (by simp))
        clear hb1
        go_wp2
        go_ret
        exact ⟨by rw [← HE.out]; rfl, HB1.out⟩
      | false =>
        go_enter Try.func45, Try.ntmps45
        go_wp2_with fail
        refine (HR.out _).mono ?_
        rintro e w1 ⟨rfl, hb1⟩
        have HB1 := Lib.hid (HB0.out.trans (hb1.mono (by simp; omega)))
        obtain ⟨c1, c2, c3⟩ := HF.out w1 (hb1.mono (by simp))
        clear hb1
        go_wp2
        go_ret
        exact ⟨by rw [← HE.out]; rfl, HB1.out⟩
    · have q0 : ((k : Int) == 0) = false := by simp; omega
      have q0' : ((k : Int) != 0) = true := by simp; omega
      by_cases h1 : k = kd
      · have HE2 : Hid (E = 0) := by rw [Hid, ← HE.out, if_neg (by simp), if_neg h0, if_pos h1]
        subst h1
        clear h0
        go_enter Try.func45, Try.ntmps45
        go_wp2_with fail
        refine (HR.out _).mono ?_
        rintro e w1 ⟨rfl, hb1⟩
        have HB1 := Lib.hid (HB0.out.trans (hb1.mono (by simp; omega)))
        obtain ⟨c1, c2, c3⟩ := HF.out w1 (hb1.mono (by simp))
        clear hb1
        go_wp2
        go_ret
        exact ⟨by rw [HE2.out]; rfl, HB1.out⟩
      · have HE2 : Hid (E = 20) := by rw [Hid, ← HE.out, if_neg (by simp), if_neg h0, if_neg h1]
        have q1 : ((k : Int) != (kd : Int)) = true := by simp; omega
        clear h0 h1
        go_enter Try.func45, Try.ntmps45
        go_wp2_with fail
        refine (HR.out _).mono ?_
        rintro e w1 ⟨rfl, hb1⟩
        have HB1 := Lib.hid (HB0.out.trans (hb1.mono (by simp; omega)))
        obtain ⟨c1, c2, c3⟩ := HF.out w1 (hb1.mono (by simp))
        clear hb1
        go_wp2
        go_ret
        exact ⟨by rw [HE2.out]; rfl, HB1.out⟩
end Go.Proofs.Ytialpfdhdcjpaaa

/- The walks of schema.front and schema.span. -/
set_option linter.unusedSimpArgs false
set_option linter.unusedVariables false
set_option maxRecDepth 100000
namespace Go.Proofs.Ytialpfdhdcjpaaa
open Go.RowKit

def zeroVl : Vl := ⟨0, 0, ⟨#[]⟩⟩
/-- The values of Key of a row. -/
def frontV (ks : List Int) (l : List Vl) : List Vl := ks.map fun k => l.getD k.toNat zeroVl
theorem frontV_snoc (ks : List Int) (l : List Vl) (k : Nat) (h : k < ks.length) : frontV (ks.take (k + 1)) l = frontV (ks.take k) l ++ [l.getD ks[k].toNat zeroVl] := by
  unfold frontV
  rw [List.take_succ_eq_append_getElem h, List.map_append]
  rfl

theorem info_valS : (Try.prog.info? 52).map (fun i => (i.zero, i.size, i.bytes)) = some (some (.agg #[.int .u8 0, .int .i64 0, .string ⟨#[]⟩]), 3, 32) := by kernel_rfl

set_option maxHeartbeats 2000000 in
theorem sFront_any (t : Tb) (m : TM) (l : List Vl) (a : Option Addr) (len cap : Nat) (w : World) (h : TAt w t m) (hV : Vs w.heap.size w a l) (hlen : len = l.length) (hk : ∀ k ∈ t.key, 0 ≤ k ∧ k.toNat < l.length) (hmax : len ≤ 1000000) :
    Calls Try.prog 49 #[m.v t, .slice a len cap] w fun e w' => ∃ v, e = .returned v ∧ OwnV w' w.heap.size 52 v (frontV t.key l) ∧ Below w.heap.size w w' := by
  obtain ⟨i0, hi, hz0, hz1, hz2⟩ := info_parts info_valS
  have hkl := h.hk
  have hkm := h.kmax
  have HKey := Lib.hid h.karr
  have HV := Lib.hid hV
  have HL := Lib.hid hlen
  have HK := Lib.hid hk
  obtain ⟨ca, cl, cc, ka, kl, kc⟩ := m
  dsimp only at hkl hkm HKey
  subst hkl
  have HB0 : Hid (Below w.heap.size w (w.alloc (.cells (TM.cs ⟨ca, cl, cc, ka, t.key.length, kc⟩ t) 25))) := (Below.refl _ w).alloc (Nat.le_refl _) _
  clear h hV hlen hk
  go_enter Try.func49, Try.ntmps49
  go_wp2
  go_loopw [5, 11] (fun v i wr => ∃ k : Nat, k ≤ t.key.length ∧ i = .int .i64 k ∧ OwnV wr w.heap.size 52 v (frontV (t.key.take k) l) ∧ Below w.heap.size w wr) (fun _ i _ => t.key.length - (intOf i).toNat)
  case atStart => exact ⟨0, by omega, rfl, OwnV.nil _ _ _, HB0.out⟩
  case round =>
    obtain ⟨k, hk, rfl, hown, hb⟩ := hrel
    have hsz := hb.size
    by_cases hlt : k < t.key.length
    · obtain ⟨b, o, rfl, hbN, c0⟩ := intAt HKey.out hlt
      replace c0 := (hb.cell (p := ⟨b, o + k, none⟩) hbN).trans c0
      have hks := HK.out _ (List.getElem_mem hlt)
      have HSn := Lib.hid (frontV_snoc t.key l k hlt)
      have hfl : (frontV (t.key.take k) l).length = k := by unfold frontV; rw [List.length_map, List.length_take]; omega
      obtain ⟨x, hx⟩ : ∃ x, x = t.key[k] := ⟨_, rfl⟩
      rw [← hx] at c0 hks HSn
      clear hx hbN
      obtain ⟨j, rfl⟩ : ∃ j : Nat, x = j := ⟨x.toNat, by omega⟩
      rw [Int.toNat_natCast] at hks HSn
      have hjl := hks.2
      have hjm : j < len := by have := HL.out; omega
      obtain ⟨b2, o2, rfl, hbN2, d0, d1, d2⟩ := HV.out.at_ hjl
      replace d0 := (hb.cell (p := ⟨b2, o2 + j * 3, none⟩) hbN2).trans d0
      replace d1 := (hb.cell (p := ⟨b2, o2 + j * 3 + 1, none⟩) hbN2).trans d1
      replace d2 := (hb.cell (p := ⟨b2, o2 + j * 3 + 2, none⟩) hbN2).trans d2
      have hgd : l.getD j zeroVl = l[j] := by simp [List.getD_eq_getElem?_getD, List.getElem?_eq_getElem hjl]
      rw [hgd] at HSn
      obtain ⟨y, hy⟩ : ∃ y, y = l[j] := ⟨_, rfl⟩
      rw [← hy] at d0 d1 d2 HSn
      clear hy hgd hks hjl hbN2
      go_wp2_with (at_builtin; refine wpList_appV1 rfl _ _ 42 rfl w.heap.size 52 i0 _ 32 Try.underlying42 hi hz0 rfl hz1 hz2 (by omega) _ (frontV (t.key.take k) l) wr hown rfl _ _ _ y rfl rfl rfl rfl (by omega) hsz ?_; intro v3 w3 hown3 hb3 hsz3)
      go_roundw
      case rel => exact ⟨k + 1, by omega, by go_num, by rw [HSn.out]; exact hown3, hb.trans hb3⟩
      case measure => simp [intOf]; omega
    · have hke : k = t.key.length := by omega
      subst hke
      rw [List.take_length] at hown
      obtain ⟨a5, c5, hv, -, -⟩ := hown.slice
      have HO := Lib.hid hown
      go_wp2
      go_ret
      exact ⟨_, rfl, HO.out, hb⟩
end Go.Proofs.Ytialpfdhdcjpaaa

/- The key of a row: its mathematics. -/
set_option linter.unusedSimpArgs false
set_option linter.unusedVariables false
set_option maxRecDepth 100000
namespace Go.Proofs.Ytialpfdhdcjpaaa
open Go.RowKit

/-- The parts of a key. -/
def partsV (t : Tb) (l : List Vl) : List Vl := frontV t.key l ++ (if t.apart then [l.getD t.fr.toNat zeroVl] else [])
/-- What is wrong with a row. -/
noncomputable def rowE (t : Tb) (l : List Vl) : Int :=
  if t.ok = false then 3 else if l.length ≠ t.cols.length then 1 else if rowErr t.cols l ≠ 0 then rowErr t.cols l
  else if t.per.size ≠ 0 ∧ ¬ (l.getD t.fr.toNat zeroVl).n < (l.getD t.tt.toNat zeroVl).n then 26
  else if (writeK (partsV t l)).2 ≠ 0 ∨ 80 < (writeK (partsV t l)).1.length then 2 else 0
/-- The key. -/
noncomputable def keyOf (t : Tb) (l : List Vl) : List Nat × Int := if rowE t l = 0 then ((writeK (partsV t l)).1, 0) else ([], rowE t l)
/-- The front. -/
noncomputable def frontOf (t : Tb) (l : List Vl) : List Nat × Int := if rowE t l = 0 then writeK (frontV t.key l) else ([], rowE t l)

theorem SoundAt.nat {l : List Col} {i : Int} (h : SoundAt l i) : ∃ j : Nat, i = j ∧ j < l.length := by
  obtain ⟨h1, c, h2, -⟩ := h
  exact ⟨i.toNat, by omega, (List.getElem?_eq_some_iff.1 h2).1⟩
theorem EdgeAt.nat {l : List Col} {i : Int} (h : EdgeAt l i) : ∃ j : Nat, i = j ∧ j < l.length := by
  obtain ⟨h1, c, h2, -⟩ := h
  exact ⟨i.toNat, by omega, (List.getElem?_eq_some_iff.1 h2).1⟩
theorem Tb.Ok.keys {t : Tb} (h : t.Ok) : ∀ k ∈ t.key, 0 ≤ k ∧ k.toNat < t.cols.length := fun k hk => by
  obtain ⟨i, hi⟩ := List.getElem?_of_mem hk
  obtain ⟨j, rfl, hj⟩ := (h.2.2.1.2.2 i k hi).1.nat
  exact ⟨by omega, by omega⟩
theorem Tb.Ok.edges {t : Tb} (h : t.Ok) (hp : t.per.size ≠ 0) : ∃ i j : Nat, t.fr = i ∧ t.tt = j ∧ i < t.cols.length ∧ j < t.cols.length := by
  have h4 := h.2.2.2.1
  unfold PerOk at h4
  rw [if_neg hp] at h4
  obtain ⟨i, hi, hil⟩ := h4.2.2.2.1.nat
  obtain ⟨j, hj, hjl⟩ := h4.2.2.2.2.nat
  exact ⟨i, j, hi, hj, hil, hjl⟩
theorem Tb.Ok.apartEdge {t : Tb} (h : t.Ok) (ha : t.apart = true) : ∃ i : Nat, t.fr = i ∧ i < t.cols.length := by
  obtain ⟨i, j, hi, -, hil, -⟩ := h.edges (h.2.2.2.2 ha).1
  exact ⟨i, hi, hil⟩

theorem rowE1 {t : Tb} {l : List Vl} (h : t.ok = false) : rowE t l = 3 := if_pos h
theorem rowE2 {t : Tb} {l : List Vl} (h : t.ok = true) (h2 : l.length ≠ t.cols.length) : rowE t l = 1 := by unfold rowE; rw [if_neg (by rw [h]; simp), if_pos h2]
theorem rowE3 {t : Tb} {l : List Vl} (h : t.ok = true) (h2 : l.length = t.cols.length) (h3 : rowErr t.cols l ≠ 0) : rowE t l = rowErr t.cols l := by unfold rowE; rw [if_neg (by rw [h]; simp), if_neg (by simpa using h2), if_pos h3]
theorem rowE4 {t : Tb} {l : List Vl} (h : t.ok = true) (h2 : l.length = t.cols.length) (h3 : rowErr t.cols l = 0) (h4 : t.per.size ≠ 0 ∧ ¬ (l.getD t.fr.toNat zeroVl).n < (l.getD t.tt.toNat zeroVl).n) : rowE t l = 26 := by
  unfold rowE; rw [if_neg (by rw [h]; simp), if_neg (by simpa using h2), if_neg (by simpa using h3), if_pos h4]
theorem rowE5 {t : Tb} {l : List Vl} (h : t.ok = true) (h2 : l.length = t.cols.length) (h3 : rowErr t.cols l = 0) (h4 : ¬ (t.per.size ≠ 0 ∧ ¬ (l.getD t.fr.toNat zeroVl).n < (l.getD t.tt.toNat zeroVl).n)) :
    rowE t l = if (writeK (partsV t l)).2 ≠ 0 ∨ 80 < (writeK (partsV t l)).1.length then 2 else 0 := by
  unfold rowE; rw [if_neg (by rw [h]; simp), if_neg (by simpa using h2), if_neg (by simpa using h3), if_neg h4]
theorem keyOf_bad {t : Tb} {l : List Vl} {q : Int} (h : rowE t l = q) (hq : q ≠ 0) : keyOf t l = ([], q) := by unfold keyOf; rw [h, if_neg hq]
theorem keyOf_good {t : Tb} {l : List Vl} (h : rowE t l = 0) : keyOf t l = ((writeK (partsV t l)).1, 0) := if_pos h
end Go.Proofs.Ytialpfdhdcjpaaa

/- What comes of fixed calls: the mathematics of the table of 'alive'. -/
set_option linter.unusedSimpArgs false
set_option linter.unusedVariables false
set_option maxRecDepth 100000
namespace Go.Proofs.Ytialpfdhdcjpaaa
open Go.RowKit

def alT : Tb := ⟨⟨#[116]⟩, [⟨⟨#[97]⟩, 1, true⟩, ⟨⟨#[98]⟩, 2, false⟩], [0], ⟨#[]⟩, -1, -1, false, false⟩
theorem alN1 : isNm ⟨#[116]⟩ = true := by unfold isNm; decide +kernel
theorem alN2 : isNm ⟨#[97]⟩ = true := by unfold isNm; decide +kernel
theorem alN3 : isNm ⟨#[98]⟩ = true := by unfold isNm; decide +kernel
theorem alT_Ok : alT.Ok := by
  refine ⟨alN1, ⟨by decide, by decide, ?_, by decide⟩, ⟨by decide, by decide, ?_⟩, ?_, ?_⟩
  · intro c hc
    simp only [alT, List.mem_cons, List.not_mem_nil, or_false] at hc
    rcases hc with rfl | rfl
    · unfold Col.ok; rw [alN2]; decide
    · unfold Col.ok; rw [alN3]; decide
  · intro i k hi
    match i, hi with
    | 0, hi =>
      simp [alT] at hi
      subst hi
      exact ⟨⟨by decide, _, rfl, rfl⟩, by simp⟩
    | i + 1, hi => simp [alT] at hi
  · show PerOk alT
    unfold PerOk
    rw [if_pos (by decide)]
    exact ⟨rfl, rfl⟩
  · intro h; cases h
theorem alT_ok : alT.ok = true := Tb.ok_iff.2 alT_Ok
theorem alT_fair : alT.Fair := ⟨by decide, by decide, by decide, by decide, by decide, by decide, by
  intro c hc
  simp only [alT, List.mem_cons, List.not_mem_nil, or_false] at hc
  rcases hc with rfl | rfl <;> exact ⟨by decide, by decide⟩, by
  intro k hk
  simp only [alT, List.mem_cons, List.not_mem_nil, or_false] at hk
  subst hk; decide⟩
def alR1 : List Vl := [⟨0, 0, ⟨#[]⟩⟩, ⟨0, 0, ⟨#[]⟩⟩]
def alR2 : List Vl := [⟨1, 5, ⟨#[]⟩⟩, ⟨0, 0, ⟨#[]⟩⟩]
theorem alR1_e : rowE alT alR1 = 23 := by
  have h : rowErr alT.cols alR1 = 23 := by decide +kernel
  rw [rowE3 alT_ok rfl (by rw [h]; decide), h]
theorem alR2_parts : partsV alT alR2 = [⟨1, 5, ⟨#[]⟩⟩] := by decide +kernel
theorem alR2_k : writeK [⟨1, 5, ⟨#[]⟩⟩] = ([17, 128, 0, 0, 0, 0, 0, 0, 5], 0) := by decide +kernel
theorem alR2_e : rowE alT alR2 = 0 := by
  have h : rowErr alT.cols alR2 = 0 := by decide +kernel
  rw [rowE5 alT_ok rfl h (by rintro ⟨h1, -⟩; exact h1 (by decide)), alR2_parts, alR2_k]
  decide
theorem alR2_key : keyOf alT alR2 = ([17, 128, 0, 0, 0, 0, 0, 0, 5], 0) := by rw [keyOf_good alR2_e, alR2_parts, alR2_k]
theorem alT_find : findC alT.cols ⟨#[98]⟩ = 1 := by decide +kernel
theorem alT_len : (encT alT).length ≤ 1000 := by decide +kernel
theorem alT_256 : ∀ c ∈ encT alT, c < 256 := by decide +kernel
end Go.Proofs.Ytialpfdhdcjpaaa

/- The walk of schema.span. -/
set_option linter.unusedSimpArgs false
set_option linter.unusedVariables false
set_option maxRecDepth 100000
namespace Go.Proofs.Ytialpfdhdcjpaaa
open Go.RowKit

theorem results_cell1 {P : Program} {fn : Func} {p : Tmp} {ty : TypeId} (h : fn.results = #[.cell p ty]) (tmps : Array Value) (w : World) {ad : Addr} {v : Value}
    (hp : tmps.getD p undef = .pointer (some ad)) (hl : (loadVar ty ad).run P w = .ok v w) : (results fn tmps).run P w = .ok v w := by
  have hp' : tmps[p]?.getD undef = .pointer (some ad) := by simpa using hp
  simp [results, h, hp', asAddr, hl]

set_option maxHeartbeats 2000000 in
theorem sSpan_any (t : Tb) (m : TM) (l : List Vl) (a : Option Addr) (len cap : Nat) (i j : Nat) (w : World) (hV : Vs w.heap.size w a l) (hlen : len = l.length) (hi : t.fr = i) (hj : t.tt = j) (hil : i < l.length) (hjl : j < l.length) (hmax : len ≤ 1000000) :
    Calls Try.prog 48 #[m.v t, .slice a len cap] w fun e w' => e = .returned (.agg #[.int .i64 (l.getD i zeroVl).n, .int .i64 (l.getD j zeroVl).n]) ∧ Below w.heap.size w w' := by
  have him : i < len := by omega
  have hjm : j < len := by omega
  obtain ⟨b, o, rfl, hbN, -, g1, -⟩ := hV.at_ hil
  obtain ⟨b', o', hbo, hbN', -, g2, -⟩ := hV.at_ hjl
  simp only [Option.some.injEq, Addr.mk.injEq, and_true] at hbo
  obtain ⟨rfl, rfl⟩ := hbo
  have e1 : l.getD i zeroVl = l[i] := by simp [List.getD_eq_getElem?_getD, List.getElem?_eq_getElem hil]
  have e2 : l.getD j zeroVl = l[j] := by simp [List.getD_eq_getElem?_getD, List.getElem?_eq_getElem hjl]
  rw [e1, e2]
  generalize l[i].n = x at *
  generalize l[j].n = y at *
  clear e1 e2 hV hlen hil hjl hbN'
  obtain ⟨W0, hW0⟩ : ∃ W0, W0 = (w.alloc (.cells (m.cs t) 25)).alloc (.cells #[.int .i64 0, .int .i64 0] 47) := ⟨_, rfl⟩
  have hBW : Below w.heap.size w W0 := by rw [hW0]; exact ((Below.refl _ w).alloc (Nat.le_refl _) _).alloc (by simp) _
  have hX0 : TBox W0 w.heap.size m t := by rw [hW0]; exact (TBox.new w m t _).later (N := w.heap.size + 1) (by omega) ((Below.refl _ _).alloc (by simp) _)
  have hR : Blk W0 (w.heap.size + 1) 47 #[.int .i64 0, .int .i64 0] := by
    have := Blk.new (w.alloc (.cells (m.cs t) 25)) 47 #[.int .i64 0, .int .i64 0]
    rw [hW0]
    rw [show (w.alloc (.cells (m.cs t) 25)).heap.size = w.heap.size + 1 by simp] at this
    exact this
  have hs0 : w.heap.size + 1 < W0.heap.size := hR.lt
  have h4 := hX0.c4
  have h5 := hX0.c5
  rw [hi] at h4
  rw [hj] at h5
  have HB0 := Lib.hid hBW
  have p4 : ∀ W, Chg [] W0.drew W → W.cell? ⟨w.heap.size, 4, none⟩ = some (.int .i64 (i : Int)) := fun W hW => (hW.cell (b := w.heap.size) (by show w.heap.size < W0.heap.size; omega) (by simp)).trans h4
  have p5 : ∀ W, Chg [] W0.drew W → W.cell? ⟨w.heap.size, 5, none⟩ = some (.int .i64 (j : Int)) := fun W hW => (hW.cell (b := w.heap.size) (by show w.heap.size < W0.heap.size; omega) (by simp)).trans h5
  have p6 : ∀ W, Chg [] W0.drew W → W.cell? ⟨b, o + i * 3 + 1, none⟩ = some (.int .i64 x) := fun W hW => (hW.cell (b := b) (by show b < W0.heap.size; omega) (by simp)).trans ((HB0.out.cell (p := ⟨b, o + i * 3 + 1, none⟩) hbN).trans g1)
  have p7 : ∀ W, Chg [] W0.drew W → W.cell? ⟨b, o + j * 3 + 1, none⟩ = some (.int .i64 y) := fun W hW => (hW.cell (b := b) (by show b < W0.heap.size; omega) (by simp)).trans ((HB0.out.cell (p := ⟨b, o + j * 3 + 1, none⟩) hbN).trans g2)
  have HRD : Hid (Blk W0.drew (w.heap.size + 1) 47 #[.int .i64 0, .int .i64 0]) := hR.drew
  have hsz2 : (Try.prog.info? 47).map (·.size) = some 2 := by kernel_rfl
  have HS : Hid ((storeVar 47 ⟨w.heap.size + 1, 0, none⟩ (.agg #[.int .i64 x, .int .i64 y])).run Try.prog W0.drew = .ok () (W0.drew.setRow (w.heap.size + 1) #[.int .i64 x, .int .i64 y])) :=
    run_storeVar_row _ _ _ 47 _ _ hR.drew (by rw [hsz2]; rfl) rfl (by simp [Value.oneCell'])
  have HL : Hid ((loadVar 47 ⟨w.heap.size + 1, 0, none⟩).run Try.prog (W0.drew.setRow (w.heap.size + 1) #[.int .i64 x, .int .i64 y]) = .ok (.agg #[.int .i64 x, .int .i64 y]) (W0.drew.setRow (w.heap.size + 1) #[.int .i64 x, .int .i64 y])) :=
    run_loadVar_row _ _ _ 47 _ (0, 0) _ (Blk.setRow (new := #[.int .i64 x, .int .i64 y]) hR.drew) Try.underlying47 rfl (by rw [hsz2]; rfl)
  have HF : Hid (Below w.heap.size w (W0.drew.setRow (w.heap.size + 1) #[.int .i64 x, .int .i64 y])) := hBW.drew.trans (Chg.below (S := [w.heap.size + 1]) ((Chg.refl _ _).setRow (.inl (by simp)) _) (by show w.heap.size ≤ W0.heap.size; omega) (by simp))
  clear hsz2 HRD
  clear h4 h5 hX0 hR hBW hi hj
  go_enter Try.func48, Try.ntmps48
  go_wp2_with fail
  rw [← hW0]
  clear hW0
  refine wp_region_ordX [] 13 [(0, true), (1, true), (2, true), (3, true), (4, true), (5, true), (6, true), (7, true), (8, true), (9, true), (10, true), (11, true), (12, true)] (by kernel_rfl) (by kernel_rfl) (by kernel_rfl) (by kernel_rfl) ?_
  repeat (first | ((refine wpOX_F rfl (by rfl) (fun w' hL => exec_load rfl rfl (p4 w' hL)) ?_); try simp only [Act.put, List.setIfInBounds_toArray, List.set_cons_zero, List.set_cons_succ]) | ((refine wpOX_F rfl (by rfl) (fun w' hL => exec_load rfl rfl (p5 w' hL)) ?_); try simp only [Act.put, List.setIfInBounds_toArray, List.set_cons_zero, List.set_cons_succ]) | ((refine wpOX_F rfl (by rfl) (fun w' hL => exec_load rfl rfl (p6 w' hL)) ?_); try simp only [Act.put, List.setIfInBounds_toArray, List.set_cons_zero, List.set_cons_succ]) | ((refine wpOX_F rfl (by rfl) (fun w' hL => exec_load rfl rfl (p7 w' hL)) ?_); try simp only [Act.put, List.setIfInBounds_toArray, List.set_cons_zero, List.set_cons_succ]) | (refine wpOX_F (v := ?_) rfl (by rfl) (fun w' hL => ?_) ?_; rotate_left; (solve | (go_simp; with_reducible rfl) | go_simp); try simp only [Act.put, List.setIfInBounds_toArray, List.set_cons_zero, List.set_cons_succ]) | (refine wpOX_G (Chg.refl _) rfl (by rfl) ?_; try simp only [Act.put, List.setIfInBounds_toArray, List.set_cons_zero, List.set_cons_succ]))
  refine wpOX_end rfl (by rfl) ?_
  refine wp_skp (exec_store rfl rfl rfl HS.out) ?_
  go_simp
  simp only [NoPanic]
  go_wp2
  exact bodyPost_ret (v := .agg #[.int .i64 x, .int .i64 y]) (results_cell1 Try.results48 _ _ rfl HL.out) rfl ⟨rfl, HF.out⟩
end Go.Proofs.Ytialpfdhdcjpaaa

/- The walk of period.Right. -/
set_option linter.unusedSimpArgs false
set_option linter.unusedVariables false
set_option maxRecDepth 100000
namespace Go.Proofs.Ytialpfdhdcjpaaa
open Go.RowKit

set_option maxHeartbeats 400000 in
theorem PRight_any (f t : Int) (w : World) :
    Calls Try.prog 47 #[.agg #[.int .i64 f, .int .i64 t]] w fun e w' => e = .returned (.bool (decide (f < t))) ∧ Below w.heap.size w w' := by
  go_enter Try.func47, Try.ntmps47
  go_wp2
  go_ret
  exact ⟨rfl, (Below.refl _ _).alloc (Nat.le_refl _) _⟩
end Go.Proofs.Ytialpfdhdcjpaaa
