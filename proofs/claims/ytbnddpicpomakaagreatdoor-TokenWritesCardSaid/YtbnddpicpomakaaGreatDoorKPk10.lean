/- Several texts of one proof, one behind the other. -/
import Derived.Test.YtbnddpicpomakaaGreatDoorKPk9
import Derived.Laws.Cover4
set_option linter.unusedSimpArgs false
set_option linter.unusedVariables false

/- '[]rune' to a string. -/
set_option linter.unusedSimpArgs false
set_option linter.unusedVariables false
set_option maxRecDepth 100000
namespace Go.Proofs.YtbnddpicpomakaaGreatDoor
open Go.RowKit

/-- The text of some code points. -/
def strP (p : List Nat) : ByteArray := ⟨((encS p).map UInt8.ofNat).toArray⟩

theorem strP_size (p : List Nat) : (strP p).size = (encS p).length := by simp [strP, ByteArray.size]

theorem bytesU_strP {p : List Nat} (h : ∀ v ∈ p, okP v = true) : bytesU (strP p) = encS p := by
  unfold bytesU strP
  simp only [List.map_map]
  conv => rhs; rw [← List.map_id (encS p)]
  refine List.map_congr_left fun c hc => ?_
  have := encS_lt h c hc
  simp; omega

theorem encode_pt {v : Nat} (h : okP v = true) : Utf8.encode (v : Int) = ⟨((encP v).map UInt8.ofNat).toArray⟩ := by
  rw [okP_iff] at h
  have hv : Utf8.valid (v : Int) = true := by
    unfold Utf8.valid
    simp only [Bool.or_eq_true, Bool.and_eq_true, decide_eq_true_eq]
    omega
  unfold Utf8.encode encP
  simp only [hv, if_true, Int.toNat_natCast]
  split
  · rfl
  · split
    · rfl
    · split <;> rfl

theorem runes_foldl : ∀ (p : List Nat) (s : ByteArray), (∀ v ∈ p, okP v = true) → (p.map fun (n : Nat) => (n : Int)).foldl (fun r n => r ++ Utf8.encode n) s = s ++ strP p
  | [], s, _ => by
    have : strP [] = ByteArray.empty := rfl
    rw [this]; simp
  | v :: p, s, h => by
    rw [List.map_cons, List.foldl_cons, runes_foldl p _ (fun x hx => h x (by simp [hx])), encode_pt (h v (by simp)), ByteArray.append_assoc]
    congr 1
    apply ByteArray.ext
    simp [strP, encS_cons]

theorem runes_strP {p : List Nat} (h : ∀ v ∈ p, okP v = true) : runesBytes (p.map fun (n : Nat) => (n : Int)) = strP p := by
  unfold runesBytes
  rw [runes_foldl p _ h]; simp

theorem Rs.str {P : Program} {N : Nat} {w : World} {a : Option Addr} {p : List Nat} (h : Rs .i32 N w a (p.map fun (n : Nat) => (n : Int))) (hok : ∀ v ∈ p, okP v = true) (src dst e : TypeId)
    (hs : P.underlying src = some (.slice e)) (he : P.underlying e = some (.int .i32)) (hd : P.underlying dst = some .string) (n cap : Nat) (hn : n = p.length) :
    (convert src dst (.slice a n cap)).run P w = .ok (.string (strP p)) w := by
  subst hn
  rcases h with h | ⟨b, o, rfl, hb, hc⟩
  · have hp : p = [] := by simpa using h
    subst hp
    cases a with
    | none => exact run_convert_runes_nil w src dst e _ _ hs he hd
    | some a =>
      have := run_convert_runes (P := P) w src dst e a 0 cap [] (by simp) hs he hd (by simp)
      exact this
  · have := run_convert_runes (P := P) w src dst e ⟨b, o, none⟩ p.length cap (p.map fun (n : Nat) => (n : Int)) (by simp) hs he hd (fun j hj => by
      have e1 : (⟨b, o, none⟩ : Addr).add j = ⟨b, o + j, none⟩ := by unfold Addr.add; split <;> simp_all
      rw [e1]
      have hj' : j < p.length := by simpa using hj
      rw [hc j ((p[j] : Nat) : Int) (by simp [hj'])]
      simp [hj'])
    rw [this]
    rw [List.take_of_length_le (by simp), runes_strP hok]
end Go.Proofs.YtbnddpicpomakaaGreatDoor

/- The mathematics of the law RunesBack: a number's digits. -/
set_option linter.unusedSimpArgs false
set_option linter.unusedVariables false
set_option maxRecDepth 100000
namespace Go.Proofs.YtbnddpicpomakaaGreatDoor
set_option linter.unusedSimpArgs false
open Go.RowKit

theorem valF_snoc (a : Nat) (l : List Nat) (c : Nat) : valF a (l ++ [c]) = valF a l * 10 + (c - 48) := by
  unfold valF; rw [List.foldl_append]; rfl

theorem dec_facts (u : Nat) : (∀ c ∈ Lib.decDigits u, 48 ≤ c.toNat ∧ c.toNat ≤ 57) ∧ valF 0 ((Lib.decDigits u).map UInt8.toNat) = u ∧ 0 < (Lib.decDigits u).length ∧ (∀ k, u < 10 ^ (k + 1) → (Lib.decDigits u).length ≤ k + 1) := by
  induction u using Nat.strongRecOn with
  | _ u ih =>
    by_cases h : u < 10
    · have e : Lib.decDigits u = [UInt8.ofNat (48 + u)] := by rw [Lib.decDigits, dif_pos h]
      have h2 : (UInt8.ofNat (48 + u)).toNat = 48 + u := by simp; omega
      rw [e]
      refine ⟨?_, ?_, by simp, fun k _ => by simp⟩
      · intro c hc
        rw [List.mem_singleton] at hc
        subst hc
        omega
      · show valF 0 [(UInt8.ofNat (48 + u)).toNat] = u
        rw [h2]; simp [valF]
    · have e : Lib.decDigits u = Lib.decDigits (u / 10) ++ [UInt8.ofNat (48 + u % 10)] := by rw [Lib.decDigits, dif_neg h]
      have h2 : (UInt8.ofNat (48 + u % 10)).toNat = 48 + u % 10 := by simp; omega
      obtain ⟨i1, i2, i3, i4⟩ := ih (u / 10) (by omega)
      rw [e]
      refine ⟨?_, ?_, by simp, ?_⟩
      · intro c hc
        rcases List.mem_append.1 hc with hc | hc
        · exact i1 c hc
        · rw [List.mem_singleton] at hc
          subst hc
          omega
      · rw [List.map_append, List.map_singleton, valF_snoc, i2, h2]
        omega
      · intro k hk
        rw [List.length_append, List.length_singleton]
        cases k with
        | zero => omega
        | succ k =>
          have := i4 k (by rw [Nat.pow_succ] at hk; omega)
          omega

theorem bytesU_baL (l : List UInt8) : bytesU (baL l) = l.map UInt8.toNat := rfl

theorem num_digits (n : Int) (h0 : 0 ≤ n) (h1 : n ≤ 9223372036854775807) : numberV (baL (Lib.itoa n)) = (n, 0) ∧ (baL (Lib.itoa n)).size ≤ 19 := by
  obtain ⟨u, rfl⟩ := Int.eq_ofNat_of_zero_le h0
  have e : Lib.itoa (u : Int) = Lib.decDigits u := by unfold Lib.itoa; rw [if_neg (by omega)]; simp
  obtain ⟨i1, i2, i3, i4⟩ := dec_facts u
  rw [e]
  have hd : digitsB (baL (Lib.decDigits u)) = true := by
    rw [digitsB_true, baL_size]
    refine ⟨i3, fun i hi => ?_⟩
    unfold byteN
    rw [bytesU_baL, List.getD_eq_getElem?_getD, List.getElem?_map, List.getElem?_eq_getElem hi]
    exact i1 _ (List.getElem_mem hi)
  refine ⟨?_, ?_⟩
  · unfold numberV
    rw [if_neg (by rw [hd]; simp), show valL (bytesU (baL (Lib.decDigits u))) = u from i2, if_neg (by omega)]
  · rw [baL_size]
    exact i4 18 (by have : (10 : Nat) ^ (18 + 1) = 10000000000000000000 := by decide
                    omega)

theorem unq_quote (s : ByteArray) : unquoteS (quoteS s) = (s, 0) := by
  unfold unquoteS quoteS
  rw [baL_list, unquote_quote]
  simp [baL]

theorem quote_size (s : ByteArray) : (quoteS s).size ≤ 2 * s.size + 2 := by
  unfold quoteS
  rw [baL_size]
  unfold quoteL
  have := (dblL_len s.data.toList).2
  have e : s.data.toList.length = s.size := by simp
  simp only [List.length_append, List.length_cons, List.length_nil]
  omega

theorem strP_back {s : ByteArray} {p : List Nat} (h : decS (bytesU s) = some p) : strP p = s ∧ ∀ v ∈ p, okP v = true := by
  obtain ⟨h1, h2⟩ := (decS_iff (bytesU_lt s) p).1 h
  refine ⟨?_, h1⟩
  unfold strP
  rw [h2]
  apply ByteArray.ext
  unfold bytesU
  have hid : (UInt8.ofNat ∘ UInt8.toNat) = id := by funext c; simp
  rw [List.map_map, hid, List.map_id]

theorem split_strP {p : List Nat} (h : ∀ v ∈ p, okP v = true) : decS (bytesU (strP p)) = some p ∧ (strP p).size ≤ 4 * p.length := by
  rw [bytesU_strP h]
  exact ⟨decS_encS h, by rw [strP_size]; exact (encS_len p).2⟩
end Go.Proofs.YtbnddpicpomakaaGreatDoor

/- The walk of hindsightref05.Digits. -/
set_option linter.unusedSimpArgs false
set_option linter.unusedVariables false
set_option maxRecDepth 100000
namespace Go.Proofs.YtbnddpicpomakaaGreatDoor
set_option linter.unusedSimpArgs false
open Go.RowKit

/-- The loop's number: u, with the sign that came in. -/
def sgn (neg : Bool) (u : Nat) : Int := if neg then -(u : Int) else (u : Int)

theorem sgn_mod (b : Bool) (u : Nat) : (sgn b u).tmod 10 = sgn b (u % 10) := by
  cases b
  · exact (Int.ofNat_tmod u 10).symm
  · show (-(u : Int)).tmod 10 = -((u % 10 : Nat) : Int)
    rw [Int.neg_tmod]
    congr 1
theorem sgn_div (b : Bool) (u : Nat) : (sgn b u).tdiv 10 = sgn b (u / 10) := by
  cases b
  · exact (Int.ofNat_tdiv u 10).symm
  · show (-(u : Int)).tdiv 10 = -((u / 10 : Nat) : Int)
    rw [Int.neg_tdiv]
    congr 1
theorem sgn_zero (b : Bool) (u : Nat) : (sgn b u == 0) = decide (u = 0) := by
  rw [Bool.eq_iff_iff, beq_iff_eq, decide_eq_true_iff]
  unfold sgn
  split <;> omega

theorem dig_cat (c : Nat) (hc : c < 10) (out : List UInt8) : (baL [UInt8.ofNat (48 + c)]) ++ baL out = baL (UInt8.ofNat (48 + c) :: out) := by
  apply ByteArray.ext
  simp [baL]

theorem Bs.newD (w : World) (l : List Nat) (h : ∀ c ∈ l, c < 256) (T : TypeId) (cs : Array Value) (hc : cs = (l.map fun (c : Nat) => Value.int .u8 (c : Int)).toArray) : Bs (w.heap.size + 1) (w.alloc (.cells cs T)) (some ⟨w.heap.size, 0, none⟩) l := by
  refine ⟨h, .inr ⟨w.heap.size, 0, rfl, by omega, fun i c hi => ?_⟩⟩
  rw [Nat.zero_add, World.cell?_alloc_new, hc, List.getElem?_toArray, List.getElem?_map, hi]
  rfl

theorem dig_wrap (c : Nat) (h : c < 10) : wrap64 (c : Int) = (c : Int) ∧ wrap64 (48 + (c : Int)) = 48 + (c : Int) ∧ (48 + (c : Int)) % 256 = 48 + (c : Int) := by
  unfold wrap64; omega

theorem itoa_sgn (n : Int) : Lib.itoa n = if n < 0 then 45 :: Lib.decDigits n.natAbs else Lib.decDigits n.natAbs := by
  unfold Lib.itoa
  split
  · rfl
  · congr 1; omega

theorem dec_step (u : Nat) : Lib.decDigits u = (if u < 10 then [] else Lib.decDigits (u / 10)) ++ [UInt8.ofNat (48 + u % 10)] := by
  rw [Lib.decDigits]
  split
  · rename_i h; rw [Nat.mod_eq_of_lt h]; rfl
  · rfl

set_option maxRecDepth 1000000 in
set_option maxHeartbeats 4000000 in
theorem rDigits_any (n : Int) (w : World) (h0 : -9223372036854775808 ≤ n) (h1 : n ≤ 9223372036854775807) :
    Calls Tryz.prog 72 #[.int .i64 n] w fun e w' => e = .returned (.string (baL (Lib.itoa n))) ∧ Below w.heap.size w w' := by
  obtain ⟨b, hb⟩ : ∃ b, decide (n < 0) = b := ⟨_, rfl⟩
  have hn : n = sgn b n.natAbs := by unfold sgn; subst hb; split <;> simp_all <;> omega
  have HI := Lib.hid (itoa_sgn n)
  have HN := Lib.hid hn
  go_enter Tryz.func72, Tryz.ntmps72
  go_wp2
  go_loopw [3, 4] (fun o i wr => ∃ (u : Nat) (t : ByteArray) (out : List UInt8), o = .string t ∧ i = .int .i64 (sgn b u) ∧ u ≤ 9223372036854775808 ∧ (b = false → u ≤ 9223372036854775807) ∧ t.size ≤ 30 ∧ Hid (t = baL out ∧ Lib.decDigits n.natAbs = Lib.decDigits u ++ out ∧ out.length + (Lib.decDigits u).length ≤ 30) ∧ Below w.heap.size w wr) (fun _ i _ => (intOf i).natAbs)
  case atStart =>
    have hl := (dec_facts n.natAbs).2.2.2 29 (by omega)
    exact ⟨n.natAbs, ⟨#[]⟩, [], rfl, by rw [← HN.out], by omega, fun h => by subst h; simp at hb; omega, by decide, ⟨rfl, by simp, by simpa using hl⟩, Below.refl _ _⟩
  case round =>
    obtain ⟨u, t, out, rfl, rfl, hu, hub, hts, HD, hbw⟩ := hrel
    have hsz := hbw.size
    have hmod := Lib.hid (sgn_mod b u)
    have hdiv := Lib.hid (sgn_div b u)
    have hz := sgn_zero b (u / 10)
    have hst := dec_step u
    obtain ⟨c, hc⟩ : ∃ c, u % 10 = c := ⟨_, rfl⟩
    have hc10 : c < 10 := by omega
    rw [hc] at hmod hst
    have hB := Bs.newD wr [48 + c] (by simp; omega) 5 #[.int .u8 ((48 + c : Nat) : Int)] rfl
    have hcv := hB.conv (P := Tryz.prog) 99 5 Tryz.underlying99 Tryz.underlying5 9 Tryz.underlying9 1 1 rfl
    have ecast : ((48 + c : Nat) : Int) = 48 + (c : Int) := by omega
    rw [ecast] at hcv
    have hstr : strN [48 + c] = baL [UInt8.ofNat (48 + c)] := rfl
    rw [hstr] at hcv
    have hcat : baL [UInt8.ofNat (48 + c)] ++ t = baL (UInt8.ofNat (48 + c) :: out) := by rw [HD.out.1]; exact dig_cat c hc10 out
    have hol := HD.out.2.2
    have hds : baL [UInt8.ofNat (48 + c)] = baL [UInt8.ofNat (48 + c)] → (baL [UInt8.ofNat (48 + c)]).size = 1 := fun _ => rfl
    obtain ⟨i, hi⟩ : ∃ i, sgn b u = i := ⟨_, rfl⟩
    obtain ⟨q, hq⟩ : ∃ q, sgn b (u / 10) = q := ⟨_, rfl⟩
    obtain ⟨v, hv⟩ : ∃ v, u / 10 = v := ⟨_, rfl⟩
    obtain ⟨d, hd⟩ : ∃ d, baL [UInt8.ofNat (48 + c)] = d := ⟨_, rfl⟩
    obtain ⟨t', ht'⟩ : ∃ t', baL (UInt8.ofNat (48 + c) :: out) = t' := ⟨_, rfl⟩
    rw [hd] at hcv hcat hds
    have hd1 := hds rfl
    have ht's : t'.size = out.length + 1 := by rw [← ht', baL_size]; simp
    rw [ht'] at hcat
    rw [hq] at hdiv hz
    rw [hi] at hmod hdiv ⊢
    rw [hv] at hz hst hq
    have hqr : -9223372036854775808 ≤ q ∧ q ≤ 9223372036854775807 := by
      rw [← hq]; unfold sgn; split <;> omega
    obtain ⟨q0, q1⟩ := hqr
    have hm := (dig_wrap c hc10).2.2
    have hlong : ¬ 9223372036854775807 < d.size + t.size := by omega
    have hbx : Below w.heap.size w (wr.alloc (.cells #[.int .u8 (48 + (c : Int))] 5)) := hbw.alloc hsz _
    have hdl := (dec_facts v).2.2.1
    have HG : Hid (v ≠ 0 → (Lib.decDigits n.natAbs = Lib.decDigits v ++ UInt8.ofNat (48 + c) :: out ∧ (UInt8.ofNat (48 + c) :: out).length + (Lib.decDigits v).length ≤ 30)) := fun h => by
      have h10 : ¬ u < 10 := by omega
      rw [if_neg h10] at hst
      have h1 := HD.out.2.1
      rw [hst, List.append_assoc] at h1
      refine ⟨h1, ?_⟩
      have h2 := HD.out.2.2
      rw [hst, List.length_append, List.length_singleton] at h2
      rw [List.length_cons]; omega
    have HE : Hid (v = 0 → Lib.decDigits n.natAbs = UInt8.ofNat (48 + c) :: out) := fun h => by
      have h10 : u < 10 := by omega
      rw [if_pos h10] at hst
      have h1 := HD.out.2.1
      rw [hst] at h1
      exact h1
    have hmeas : v ≠ 0 → q.natAbs < i.natAbs := fun h => by
      rw [← hq, ← hi]; unfold sgn; split <;> omega
    have HT := Lib.hid ht'
    have HQ := Lib.hid hq
    have hvb : v ≤ 922337203685477580 := by omega
    have hts2 : out.length + 1 ≤ 30 := by have := (dec_facts u).2.2.1; omega
    have hneg : ¬ 9223372036854775807 < 1 + t'.size := by omega
    have HI2 : Hid (v = 0 → baL (Lib.itoa n) = if n < 0 then ⟨#[45]⟩ ++ t' else t') := fun h => by
      rw [HI.out, HE.out h, ← HT.out]
      split
      · apply ByteArray.ext; simp [baL]
      · rfl
    have hways : (∀ y : Int, y = 10 → i.tmod y = (c : Int)) ∨ ((∀ y : Int, y = 10 → i.tmod y = -(c : Int)) ∧ 1 ≤ c) := by
      cases b with
      | false => exact .inl (fun y hy => by rw [hy]; exact hmod.out)
      | true =>
        by_cases h : c = 0
        · exact .inl (fun y hy => by rw [hy, h]; rw [h] at hmod; exact hmod.out)
        · exact .inr ⟨fun y hy => by rw [hy]; exact hmod.out, Nat.pos_of_ne_zero h⟩
    have hdv : ∀ y : Int, y = 10 → i.tdiv y = q := fun y hy => by rw [hy]; exact hdiv.out
    clear hdiv
    clear hB hstr hds hi hq hv hd ht' hc hst hmod HD hol hdl ecast HI HE HN hn
    rcases hways with hmod | ⟨hmod, hc1⟩
    · have qB : decide ((c : Int) < 0) = false := by simp
      by_cases hv0 : v = 0
      · have hz2 : (q == 0) = true := by rw [hz]; simp [hv0]
        have HF := Lib.hid (HI2.out hv0)
        clear HI2 HG HT HQ hz hmeas
        by_cases hnn : n < 0
        · have HF2 : Hid (baL (Lib.itoa n) = ⟨#[45]⟩ ++ t') := by rw [HF.out, if_pos hnn]; rfl
          clear HF
          go_wp2
          go_ret
          exact ⟨by rw [HF2.out]; rfl, hbx⟩
        · have HF2 : Hid (baL (Lib.itoa n) = t') := by rw [HF.out, if_neg hnn]; rfl
          clear HF
          go_wp2
          go_ret
          exact ⟨by rw [HF2.out]; rfl, hbx⟩
      · have hz2 : (q == 0) = false := by rw [hz]; simp [hv0]
        obtain ⟨g1, g2⟩ := HG.out hv0
        have HG2 := Lib.hid g1
        have hme := hmeas hv0
        clear HI2 HG hz hmeas g1
        go_wp2
        go_roundw
        case rel => exact ⟨v, t', _, rfl, by rw [HQ.out], by omega, fun _ => by omega, by omega, ⟨HT.out.symm, HG2.out, g2⟩, hbx⟩
        case measure => simp [intOf]; omega
    · have qB : decide (-(c : Int) < 0) = true := by simp; omega
      by_cases hv0 : v = 0
      · have hz2 : (q == 0) = true := by rw [hz]; simp [hv0]
        have HF := Lib.hid (HI2.out hv0)
        clear HI2 HG HT HQ hz hmeas
        by_cases hnn : n < 0
        · have HF2 : Hid (baL (Lib.itoa n) = ⟨#[45]⟩ ++ t') := by rw [HF.out, if_pos hnn]; rfl
          clear HF
          go_wp2
          go_ret
          exact ⟨by rw [HF2.out]; rfl, hbx⟩
        · have HF2 : Hid (baL (Lib.itoa n) = t') := by rw [HF.out, if_neg hnn]; rfl
          clear HF
          go_wp2
          go_ret
          exact ⟨by rw [HF2.out]; rfl, hbx⟩
      · have hz2 : (q == 0) = false := by rw [hz]; simp [hv0]
        obtain ⟨g1, g2⟩ := HG.out hv0
        have HG2 := Lib.hid g1
        have hme := hmeas hv0
        clear HI2 HG hz hmeas g1
        go_wp2
        go_roundw
        case rel => exact ⟨v, t', _, rfl, by rw [HQ.out], by omega, fun _ => by omega, by omega, ⟨HT.out.symm, HG2.out, g2⟩, hbx⟩
        case measure => simp [intOf]; omega
end Go.Proofs.YtbnddpicpomakaaGreatDoor

/- The walks of hindsightref05.Quote and Unquote. -/
set_option linter.unusedSimpArgs false
set_option linter.unusedVariables false
set_option maxRecDepth 100000
namespace Go.Proofs.YtbnddpicpomakaaGreatDoor
set_option linter.unusedSimpArgs false
open Go.RowKit

def dblN : List Nat → List Nat
  | [] => []
  | c :: l => if c = 39 then 39 :: 39 :: dblN l else c :: dblN l
theorem dblN_app : ∀ a b : List Nat, dblN (a ++ b) = dblN a ++ dblN b
  | [], b => rfl
  | c :: a, b => by
    rw [List.cons_append, dblN, dblN, dblN_app a b]
    split <;> rfl
theorem dblN_take (l : List Nat) (k : Nat) (hk : k < l.length) : dblN (l.take (k + 1)) = dblN (l.take k) ++ (if l[k] = 39 then [39, 39] else [l[k]]) := by
  have e : dblN [l[k]] = if l[k] = 39 then [39, 39] else [l[k]] := by
    rw [dblN]
    split <;> rfl
  rw [List.take_add_one, List.getElem?_eq_getElem hk, dblN_app]
  exact congrArg _ e
theorem dblN_len : ∀ l : List Nat, (dblN l).length ≤ 2 * l.length
  | [] => Nat.le_refl _
  | c :: l => by
    have := dblN_len l
    rw [dblN]
    split <;> simp only [List.length_cons] <;> omega
theorem dbl_map : ∀ l : List UInt8, (dblL l).map UInt8.toNat = dblN (l.map UInt8.toNat)
  | [] => rfl
  | c :: l => by
    rw [dblL, List.map_cons, dblN]
    by_cases h : c = 39
    · subst h
      rw [if_pos rfl, if_pos (by rfl : UInt8.toNat 39 = 39), List.map_cons, List.map_cons, dbl_map l]; rfl
    · have h2 : c.toNat ≠ 39 := by
        intro h2
        apply h
        apply UInt8.toNat_inj.1
        rw [h2]; rfl
      rw [if_neg h, if_neg h2, List.map_cons, dbl_map l]

theorem strN_map (l : List UInt8) : strN (l.map UInt8.toNat) = baL l := by
  unfold strN baL
  have hid : (UInt8.ofNat ∘ UInt8.toNat) = id := by funext c; simp
  rw [List.map_map, hid, List.map_id]

theorem quoteS_N (s : ByteArray) : quoteS s = strN (39 :: (dblN (bytesU s) ++ [39])) := by
  unfold quoteS quoteL
  rw [← strN_map, List.map_cons, List.map_append, dbl_map]; rfl

theorem OwnB.newU (w : World) (base : Nat) (T : TypeId) (c : Nat) (n : Int) (g : Nat) (hn : n = (c : Int)) (hc : c < 256) (hb : base ≤ w.heap.size) (hg : g = w.heap.size) : OwnB (w.alloc (.cells #[.int .u8 n] T)) base T (.slice (some ⟨g, 0, none⟩) 1 1) [c] := by
  subst hn hg
  refine ⟨by simpa using hc, by simp, .inr ⟨w.heap.size, 1, #[.int .u8 (c : Int)], by simp, hb, heap_alloc_new _ _, by simp, by unfold maxLen; omega, by simp, by simp⟩⟩

set_option maxHeartbeats 2000000 in
theorem rQuote_any (s : ByteArray) (w : World) (hs : s.size ≤ 1000000) :
    Calls Tryz.prog 73 #[.string s] w fun e w' => e = .returned (.string (quoteS s)) ∧ Below w.heap.size w w' := by
  obtain ⟨i0, hi, hz0, hz1, hz2⟩ := info_parts Tryz.info5
  go_enter Tryz.func73, Tryz.ntmps73
  go_wp2
  go_loopw [3, 4] (fun v i wr => ∃ k : Nat, k ≤ s.size ∧ i = .int .i64 k ∧ OwnB wr w.heap.size 5 v (39 :: dblN ((bytesU s).take k)) ∧ Below w.heap.size w wr) (fun _ i _ => s.size - (intOf i).toNat)
  case atStart => exact ⟨0, by omega, rfl, OwnB.newU w w.heap.size 5 39 39 _ rfl (by omega) (Nat.le_refl _) rfl, (Below.refl _ w).alloc (Nat.le_refl _) _⟩
  case round =>
    obtain ⟨k, hk, rfl, hown, hb⟩ := hrel
    have hsz := hb.size
    have hle : (39 :: dblN ((bytesU s).take k)).length ≤ 2000001 := by
      have h1 := dblN_len ((bytesU s).take k)
      rw [List.length_take, bytesU_len] at h1
      rw [List.length_cons]; omega
    by_cases hlt : k < s.size
    · have hkl : k < (bytesU s).length := by rw [bytesU_len]; exact hlt
      have hx : (bytesU s)[k] = (s[k]'hlt).toNat := by simp [bytesU]; rfl
      have hm := dblN_take (bytesU s) k hkl
      rw [hx] at hm
      have HM := Lib.hid hm
      have hc256 := (s[k]'hlt).toNat_lt
      clear hx hm
      by_cases h39 : (s[k]'hlt).toNat = 39
      · have HM2 : Hid (39 :: dblN ((bytesU s).take (k + 1)) = ((39 :: dblN ((bytesU s).take k)) ++ [39]) ++ [39]) := by rw [HM.out, if_pos h39]; simp [Hid]
        have q39 : (((s[k]'hlt).toNat : Int) == 39) = true := by rw [h39]; rfl
        clear HM
        go_wp2_with (first
          | (at_builtin; refine wpList_app1 rfl _ _ 99 rfl w.heap.size 5 i0 Tryz.underlying99 hi hz0 hz1 hz2 _ _ wr hown rfl 39 (by omega) _ (by omega) rfl (by omega) hsz ?_; intro v1 w1 hown1 hb1' hsz1')
          | (at_builtin; refine wpList_app1 rfl _ _ 99 rfl w.heap.size 5 i0 Tryz.underlying99 hi hz0 hz1 hz2 _ _ w1 hown1 rfl 39 (by omega) _ rfl rfl (by rw [List.length_append]; simp only [List.length_cons, List.length_nil] at hle ⊢; omega) (hb.trans hb1').size ?_; intro v2 w2 hown2 hb2' hsz2'))
        go_roundw
        case rel => exact ⟨k + 1, by omega, by go_num, by rw [HM2.out]; exact hown2, (hb.trans hb1').trans hb2'⟩
        case measure => simp [intOf]; omega
      · have HM2 : Hid (39 :: dblN ((bytesU s).take (k + 1)) = (39 :: dblN ((bytesU s).take k)) ++ [(s[k]'hlt).toNat]) := by rw [HM.out, if_neg h39]; simp [Hid]
        have q39 : (((s[k]'hlt).toNat : Int) == 39) = false := by
          rw [Bool.eq_false_iff]; intro h; rw [beq_iff_eq] at h; omega
        clear HM
        go_wp2_with (at_builtin; refine wpList_app1 rfl _ _ 99 rfl w.heap.size 5 i0 Tryz.underlying99 hi hz0 hz1 hz2 _ _ wr hown rfl (s[k]'hlt).toNat (by omega) _ rfl rfl (by omega) hsz ?_; intro v1 w1 hown1 hb1' hsz1')
        go_roundw
        case rel => exact ⟨k + 1, by omega, by go_num, by rw [HM2.out]; exact hown1, hb.trans hb1'⟩
        case measure => simp [intOf]; omega
    · have hall : (bytesU s).take k = bytesU s := List.take_of_length_le (by rw [bytesU_len]; omega)
      rw [hall] at hown hle
      have HQ : Hid (strN (39 :: dblN (bytesU s) ++ [39]) = quoteS s) := (quoteS_N s).symm
      clear hall
      have HCV : Hid (∀ (v : Value) (w1 : World), OwnB w1 w.heap.size 5 v (39 :: dblN (bytesU s) ++ [39]) → (convert 99 9 v).run Tryz.prog w1 = .ok (.string (quoteS s)) w1) := fun v w1 h => by
        obtain ⟨a, cap, rfl, hcap, hB, _⟩ := h.slice
        rw [← HQ.out]
        exact hB.conv (P := Tryz.prog) 99 5 Tryz.underlying99 Tryz.underlying5 9 Tryz.underlying9 _ cap rfl
      clear HQ
      go_wp2_with (at_builtin; refine wpList_app1 rfl _ _ 99 rfl w.heap.size 5 i0 Tryz.underlying99 hi hz0 hz1 hz2 _ _ wr hown rfl 39 (by omega) _ rfl rfl (by omega) hsz ?_; intro v1 w1 hown1 hb1' hsz1'; have hcv1 := HCV.out v1 w1 hown1)
      go_ret
      exact ⟨rfl, hb.trans hb1'⟩

/-! Unquote. -/
theorem toListU_inj {a b : ByteArray} (h : a.toList = b.toList) : a = b := by
  rw [ByteArray.toList_eq, ByteArray.toList_eq] at h
  apply ByteArray.ext
  exact Array.toList_inj.1 h

def uL : List Nat → List Nat
  | [] => []
  | [_] => []
  | c :: d :: r => if c = 39 then c :: uL r else c :: uL (d :: r)

theorem uL_short {l : List Nat} (h : l.length ≤ 1) : uL l = [] := by
  match l, h with
  | [], _ => rfl
  | [_], _ => rfl
  | _ :: _ :: _, h => simp at h
theorem uL_len : ∀ (n : Nat) (l : List Nat), l.length ≤ n → (uL l).length ≤ l.length
  | _, [], _ => Nat.le_refl _
  | _, [_], _ => by simp [uL]
  | 0, _ :: _ :: _, h => by simp at h
  | n + 1, c :: d :: r, h => by
    rw [uL]
    simp only [List.length_cons] at h
    split
    · have := uL_len n r (by omega)
      simp only [List.length_cons]; omega
    · have := uL_len n (d :: r) (by simp only [List.length_cons]; omega)
      simp only [List.length_cons] at this ⊢; omega
theorem uL_back : ∀ x : List Nat, uL (dblN x ++ [39]) = x
  | [] => rfl
  | c :: x => by
    have ih := uL_back x
    rw [dblN]
    by_cases h : c = 39
    · subst h
      rw [if_pos rfl]
      show uL (39 :: 39 :: (dblN x ++ [39])) = _
      rw [uL, if_pos rfl, ih]
    · rw [if_neg h]
      show uL (c :: (dblN x ++ [39])) = _
      cases hd : dblN x ++ [39] with
      | nil => simp at hd
      | cons d r =>
        rw [uL, if_neg h, ← hd, ih]

theorem uL_step {l : List Nat} {k : Nat} (h : k + 1 < l.length) : uL (l.drop k) = if l[k] = 39 then l[k] :: uL (l.drop (k + 2)) else l[k] :: uL (l.drop (k + 1)) := by
  rw [List.drop_eq_getElem_cons (by omega : k < l.length), List.drop_eq_getElem_cons h, uL]

theorem unq_ref (s : ByteArray) : unquoteS s = if quoteS (strN (uL ((bytesU s).drop 1))) = s then (strN (uL ((bytesU s).drop 1)), 0) else (⟨#[]⟩, 3) := by
  have hback : ∀ x : List UInt8, s = baL (quoteL x) → strN (uL ((bytesU s).drop 1)) = baL x := by
    intro x hx
    have e : bytesU s = 39 :: (dblN (x.map UInt8.toNat) ++ [39]) := by
      rw [hx]
      show (quoteL x).map UInt8.toNat = _
      unfold quoteL
      rw [List.map_cons, List.map_append, dbl_map]; rfl
    rw [e]
    show strN (uL (dblN (x.map UInt8.toNat) ++ [39])) = _
    rw [uL_back, strN_map]
  have hsb : baL s.data.toList = s := by unfold baL; simp
  unfold unquoteS unquoteL
  by_cases h1 : quoteL (plainL s.data.toList) = s.data.toList
  · have hb := hback (plainL s.data.toList) (by rw [h1, hsb])
    rw [if_pos h1, hb, if_pos]
    unfold quoteS
    rw [baL_list, h1, hsb]
  · rw [if_neg h1, if_neg]
    · rfl
    · intro h2
      apply h1
      have h3 : s.data.toList = quoteL (strN (uL ((bytesU s).drop 1))).data.toList := by
        have := congrArg (fun t : ByteArray => t.data.toList) h2
        simp only [quoteS, baL_list] at this
        exact this.symm
      rw [h3, plain_quote]

set_option maxRecDepth 1000000 in
set_option maxHeartbeats 4000000 in
theorem rUnquote_any (s : ByteArray) (w : World) (hs : s.size ≤ 400000) :
    Calls Tryz.prog 64 #[.string s] w fun e w' => e = .returned (.tuple #[.string (unquoteS s).1, .int .i64 (unquoteS s).2]) ∧ Below w.heap.size w w' := by
  obtain ⟨i0, hi, hz0, hz1, hz2⟩ := info_parts Tryz.info5
  have HL := Lib.hid (bytesU_len s)
  have HU := Lib.hid (unq_ref s)
  have hul := uL_len _ ((bytesU s).drop 1) (Nat.le_refl _)
  rw [List.length_drop, HL.out] at hul
  go_enter Tryz.func64, Tryz.ntmps64
  go_wp2
  go_loopw [4, 5] (fun v i wr => ∃ (k : Nat) (q : List Nat), 1 ≤ k ∧ k ≤ s.size + 1 ∧ i = .int .i64 k ∧ OwnB wr w.heap.size 5 v q ∧ Hid (q ++ uL ((bytesU s).drop k) = uL ((bytesU s).drop 1)) ∧ Below w.heap.size w wr) (fun _ i _ => s.size - (intOf i).toNat)
  case atStart => exact ⟨1, [], by omega, by omega, rfl, OwnB.nil _ _ _, rfl, Below.refl _ _⟩
  case round =>
    obtain ⟨k, q, hk1, hk, rfl, hown, HQ, hb⟩ := hrel
    have hsz := hb.size
    have hql : q.length ≤ 400000 := by
      have h1 := congrArg List.length HQ.out
      rw [List.length_append] at h1
      omega
    by_cases hlt : k + 1 < s.size
    · have hlt' : k < s.size := by omega
      have hkl : k + 1 < (bytesU s).length := by rw [bytesU_len]; exact hlt
      have hx : (bytesU s)[k] = (s[k]'hlt').toNat := by simp [bytesU]; rfl
      have hm := uL_step hkl
      rw [hx] at hm
      have HM := Lib.hid hm
      have hc256 := (s[k]'hlt').toNat_lt
      have qc : decide (((k : Int) + 1) < (s.size : Int)) = true := by simp; omega
      clear hx hm hkl hul hlt
      by_cases h39 : (s[k]'hlt').toNat = 39
      · have HM2 : Hid ((q ++ [39]) ++ uL ((bytesU s).drop (k + 2)) = uL ((bytesU s).drop 1)) := by rw [← HQ.out, HM.out, if_pos h39, h39]; simp [Hid]
        have q39 : (((s[k]'hlt').toNat : Int) == 39) = true := by rw [h39]; rfl
        clear HM HQ
        go_wp2_with (at_builtin; refine wpList_app1 rfl _ _ 99 rfl w.heap.size 5 i0 Tryz.underlying99 hi hz0 hz1 hz2 _ _ wr hown rfl 39 (by omega) _ (by omega) rfl (by omega) hsz ?_; intro v1 w1 hown1 hb1' hsz1')
        go_roundw
        case rel => exact ⟨k + 2, _, by omega, by omega, by go_num, hown1, HM2, hb.trans hb1'⟩
        case measure => simp [intOf]; omega
      · have HM2 : Hid ((q ++ [(s[k]'hlt').toNat]) ++ uL ((bytesU s).drop (k + 1)) = uL ((bytesU s).drop 1)) := by rw [← HQ.out, HM.out, if_neg h39]; simp [Hid]
        have q39 : (((s[k]'hlt').toNat : Int) == 39) = false := by
          rw [Bool.eq_false_iff]; intro h; rw [beq_iff_eq] at h; omega
        clear HM HQ
        go_wp2_with (at_builtin; refine wpList_app1 rfl _ _ 99 rfl w.heap.size 5 i0 Tryz.underlying99 hi hz0 hz1 hz2 _ _ wr hown rfl (s[k]'hlt').toNat (by omega) _ rfl rfl (by omega) hsz ?_; intro v1 w1 hown1 hb1' hsz1')
        go_roundw
        case rel => exact ⟨k + 1, _, by omega, by omega, by go_num, hown1, HM2, hb.trans hb1'⟩
        case measure => simp [intOf]; omega
    · have hq : q = uL ((bytesU s).drop 1) := by
        rw [← HQ.out, uL_short (by rw [List.length_drop, HL.out]; omega), List.append_nil]
      clear HQ hul
      have HQr := Lib.hid (fun W => rQuote_any (strN q) W (by
        show (strN q).size ≤ 1000000
        unfold strN ByteArray.size
        simp; omega))
      rw [← hq] at HU
      clear hq
      obtain ⟨a, cap, rfl, hcap, hB, _⟩ := hown.slice
      have HCV : Hid (∀ W, Below wr.heap.size wr W → (convert 99 9 (.slice a q.length cap)).run Tryz.prog W = .ok (.string (strN q)) W) := fun W h => (hB.below h).conv (P := Tryz.prog) 99 5 Tryz.underlying99 Tryz.underlying5 9 Tryz.underlying9 _ cap rfl
      have hcv := HCV.out wr (Below.refl _ _)
      obtain ⟨t, ht⟩ : ∃ t, strN q = t := ⟨_, rfl⟩
      rw [ht] at HU HQr HCV hcv
      obtain ⟨u, hu⟩ : ∃ u, quoteS t = u := ⟨_, rfl⟩
      rw [hu] at HU HQr
      have qc : decide (((k : Int) + 1) < (s.size : Int)) = false := by simp; omega
      clear hB hown ht hu hlt
      go_wp2_with fail
      refine (HQr.out _).mono ?_
      rintro e w1 ⟨rfl, hb1⟩
      have hcv1 := HCV.out w1 hb1
      clear hcv HCV HQr
      by_cases hus : u = s
      · subst hus
        have HU2 : Hid (unquoteS u = (t, 0)) := by rw [HU.out, if_pos rfl]; rfl
        clear HU
        have qu2 : (u.toList == u.toList) = true := by simp
        go_wp2
        go_ret2
        exact ⟨by rw [HU2.out]; rfl, hb.trans (hb1.mono hsz)⟩
      · have HU2 : Hid (unquoteS s = (⟨#[]⟩, 3)) := by rw [HU.out, if_neg hus]; rfl
        clear HU
        have qu : (u.toList == s.toList) = false := by
          rw [Bool.eq_false_iff]
          intro h
          rw [beq_iff_eq] at h
          exact hus (toListU_inj h)
        go_wp2
        go_ret2
        exact ⟨by rw [HU2.out]; rfl, hb.trans (hb1.mono hsz)⟩
end Go.Proofs.YtbnddpicpomakaaGreatDoor

/- The walks of the reference's text and Write of tokens, and of its literal. -/
set_option linter.unusedSimpArgs false
set_option linter.unusedVariables false
set_option maxRecDepth 100000
namespace Go.Proofs.YtbnddpicpomakaaGreatDoor
open Go.RowKit

theorem Bs.arr20 (w : World) (T : TypeId) (l : List Nat) (h256 : ∀ c ∈ l, c < 256) : Bs (w.heap.size + 1) (w.alloc (.cells (l.map fun (c : Nat) => Value.int .u8 (c : Int)).toArray T)) (some ⟨w.heap.size, 0, none⟩) l :=
  Bs.new w l h256 _ T (by intro i c hi; simp [hi])
theorem strN_app20 (a b : List Nat) : strN (a ++ b) = strN a ++ strN b := by
  apply ByteArray.ext; simp [strN]
theorem hexN_lt20 (s : ByteArray) : ∀ c ∈ hexN (bytesU s), c < 256 ∧ c ≠ 39 := by
  intro c hc
  unfold hexN at hc
  obtain ⟨d, hd, hc⟩ := List.mem_flatMap.1 hc
  have hd256 := bytesU_lt s d hd
  have h2 : ∀ n, n < 16 → hexd n < 256 ∧ hexd n ≠ 39 := fun n hn => ⟨hexd_lt hn, by unfold hexd; split <;> omega⟩
  rcases List.mem_cons.1 hc with rfl | hc
  · exact h2 _ (by omega)
  · rw [List.mem_singleton.1 hc]; exact h2 _ (by omega)
theorem hex_quote (s : ByteArray) : strN [120, 39] ++ hexS s ++ ⟨#[39]⟩ = ⟨#[120]⟩ ++ quoteS (hexS s) := by
  rw [← quote_cat, dblL_plain, baL_data]
  · have e : strN [120, 39] = ⟨#[120]⟩ ++ ⟨#[39]⟩ := by decide
    rw [e]
    simp only [ByteArray.append_assoc]
  · intro c hc
    unfold hexS strN at hc
    simp only [List.mem_map] at hc
    obtain ⟨n, hn, rfl⟩ := hc
    have h1 := hexN_lt20 s n hn
    intro h2
    have h3 := congrArg UInt8.toNat h2
    rw [UInt8.toNat_ofNat'] at h3
    have : n % 256 = 39 := h3
    omega
theorem hexN_cut (s : ByteArray) (k : Nat) (h : k < s.size) : strN ([120, 39] ++ hexN ((bytesU s).take (k + 1))) = strN ([120, 39] ++ hexN ((bytesU s).take k)) ++ strN [hexd ((s[k]'h).toNat / 16), hexd ((s[k]'h).toNat % 16)] := by
  have hkl : k < (bytesU s).length := by rw [bytesU_len]; exact h
  have hbk : (bytesU s)[k] = (s[k]'h).toNat := by simp [bytesU]; rfl
  rw [hexN_take hkl, ← List.append_assoc, strN_app20, hbk]

set_option maxHeartbeats 2000000 in
theorem rTkHex_any (at_ : Int) (tx : ByteArray) (n : Int) (w : World) (hs : tx.size ≤ 400000) :
    Calls Tryz.prog 37 #[.agg #[.int .i64 4, .int .i64 at_, .string tx, .int .i64 n]] w fun e w' => e = .returned (.string (⟨#[120]⟩ ++ quoteS (hexS tx))) ∧ Below w.heap.size w w' := by
  have HX := Lib.hid (Slot4.new w 69 (.int .i64 4) (.int .i64 at_) (.string tx) (.int .i64 n))
  obtain ⟨w0, hw0⟩ : ∃ w0, w.alloc (.cells #[.int .i64 4, .int .i64 at_, .string tx, .int .i64 n] 69) = w0 := ⟨_, rfl⟩
  have HB0 : Hid (Below w.heap.size w w0) := by rw [← hw0]; exact (Below.refl _ w).alloc (Nat.le_refl _) _
  have hl0 : w.heap.size < w0.heap.size := by rw [← hw0]; simp
  rw [hw0] at HX
  have HQ := Lib.hid (hex_quote tx)
  obtain ⟨x0, x1, x2, x3⟩ := HX.out
  go_enter Tryz.func37, Tryz.ntmps37
  go_wp2
  clear x0 x1 x2 x3
  go_loopw [4, 5, 6] (fun v i c wr => ∃ k : Nat, k ≤ tx.size ∧ v = .string (strN ([120, 39] ++ hexN ((bytesU tx).take k))) ∧ i = .int .i64 (k : Int) ∧ Hid (c = c) ∧ Hid (Below w0.heap.size w0 wr)) (fun _ i _ _ => tx.size - (intOf i).toNat)
  case atStart => exact ⟨0, by omega, rfl, rfl, rfl, Below.refl _ _⟩
  case round =>
    obtain ⟨k, hk, rfl, rfl, -, HBr⟩ := hrel
    obtain ⟨x0, x1, x2, x3⟩ := HX.out.later hl0 HBr.out
    by_cases hlt : k < tx.size
    · have HTk := Lib.hid (hexN_cut tx k hlt)
      have hO : (strN ([120, 39] ++ hexN ((bytesU tx).take k))).size ≤ 1000000 := by
        rw [strN_size, List.length_append, hexN_len, List.length_take, bytesU_len, List.length_cons, List.length_cons, List.length_nil]; omega
      generalize strN ([120, 39] ++ hexN ((bytesU tx).take k)) = O at *
      have hlt256 : (tx[k]'hlt).toNat < 256 := (tx[k]'hlt).toNat_lt
      obtain ⟨c1, hc1⟩ : ∃ c1, (tx[k]'hlt).toNat = c1 := ⟨_, rfl⟩
      rw [hc1] at HTk hlt256
      have h16 : ((c1 / 16 : Nat) : Int) = (c1 : Int) / 16 := by omega
      have h15 : ((c1 % 16 : Nat) : Int) = (c1 : Int) % 16 := by omega
      have w16 : IntKind.u8.wrap ((c1 : Int) / 16) = (c1 : Int) / 16 := IntWalk.u8_in _ ⟨by omega, by omega⟩
      have w15 : (c1 : Int).tmod 16 = (c1 : Int) % 16 := IntWalk.rem_in _ _ (by omega)
      have hA : hexd (c1 / 16) < 256 := hexd_lt (by omega)
      have hB : hexd (c1 % 16) < 256 := hexd_lt (by omega)
      have HI1 := Lib.hid (fun (o : Oper) (a : Act) (x y : Operand) (ho : o.op = .index 9 x y) (hx : a.eval x = .string hexT) (hy : a.eval y = .int .u8 ((c1 / 16 : Nat) : Int)) (w : World) => exec_hex (c1 / 16) (by omega) ho hx hy w)
      have HI2 := Lib.hid (fun (o : Oper) (a : Act) (x y : Operand) (ho : o.op = .index 9 x y) (hx : a.eval x = .string hexT) (hy : a.eval y = .int .u8 ((c1 % 16 : Nat) : Int)) (w : World) => exec_hex (c1 % 16) (by omega) ho hx hy w)
      generalize hexd (c1 / 16) = d1 at *
      generalize hexd (c1 % 16) = d2 at *
      have hT2 : (strN [d1, d2]).size = 2 := strN_size _
      have s1 : ¬ 9223372036854775807 < O.size + 2 := by omega
      go_wp2_with fail
      clear x0 x1 x2 x3
      refine wp_region_ord [(0, true), (1, true), (2, true), (3, true), (4, true), (5, true), (6, true), (7, true), (8, true), (9, false), (10, true), (11, true), (12, true)] (by kernel_rfl) (by kernel_rfl) (by kernel_rfl) (by kernel_rfl) ?_
      repeat (first | (refine wpO_F (v := ?_) rfl (by rfl) (fun w' hL => ?_) ?_; rotate_left; (solve | (go_simp; with_reducible rfl) | go_simp); try simp only [Act.put, List.setIfInBounds_toArray, List.set_cons_zero, List.set_cons_succ]))
      refine wpO_F rfl (by rfl) (fun w' _ => HI1.out _ _ _ _ rfl rfl (by rw [h16, ← w16]; rfl) w') ?_
      try simp only [Act.put, List.setIfInBounds_toArray, List.set_cons_zero, List.set_cons_succ]
      repeat (first | (refine wpO_F (v := ?_) rfl (by rfl) (fun w' hL => ?_) ?_; rotate_left; (solve | (go_simp; with_reducible rfl) | go_simp); try simp only [Act.put, List.setIfInBounds_toArray, List.set_cons_zero, List.set_cons_succ]))
      refine wpO_F rfl (by rfl) (fun w' _ => HI2.out _ _ _ _ rfl rfl (by rw [h15]; first | rfl | (rw [← w15]; rfl)) w') ?_
      try simp only [Act.put, List.setIfInBounds_toArray, List.set_cons_zero, List.set_cons_succ]
      refine wpO_C rfl (by rfl) ?_
      go_simp
      have hBs : Bs (wr.heap.size + 1) (wr.alloc (.cells #[.int .u8 d1, .int .u8 d2] 5)) (some ⟨wr.heap.size, 0, none⟩) [d1, d2] := Bs.arr20 wr _ [d1, d2] (by intro c hc; simp at hc; omega)
      have hcv := fun V (hV : Below (wr.heap.size + 1) (wr.alloc (.cells #[.int .u8 d1, .int .u8 d2] 5)) V) => (hBs.below hV).conv 99 5 Tryz.underlying99 Tryz.underlying5 9 Tryz.underlying9 2 2 rfl
      have hd : Below (wr.heap.size + 1) (wr.alloc (.cells #[.int .u8 d1, .int .u8 d2] 5)) (wr.alloc (.cells #[.int .u8 d1, .int .u8 d2] 5)).drew := (Below.refl _ _).drew
      have hb2 : Below wr.heap.size wr (wr.alloc (.cells #[.int .u8 d1, .int .u8 d2] 5)).drew := ((Below.refl _ wr).alloc (Nat.le_refl _) _).drew
      have hsz2 : (wr.alloc (.cells #[.int .u8 d1, .int .u8 d2] 5)).drew.heap.size = wr.heap.size + 1 := by show (wr.alloc _).heap.size = _; simp
      refine ⟨(show Later wr.drew (wr.drew.alloc _) from (Below.refl _ wr.drew).alloc (Nat.le_refl _) _), ?_⟩
      generalize (wr.alloc (.cells #[.int .u8 d1, .int .u8 d2] 5)).drew = w2 at *
      have HB2 := Lib.hid (HBr.out.trans (hb2.mono HBr.out.size))
      try simp only [Act.put, List.setIfInBounds_toArray, List.set_cons_zero, List.set_cons_succ]
      refine wpO_F (v := .string (strN [d1, d2])) rfl (by rfl) (fun w' hL => ?_) ?_
      · have hx := hcv w' (hd.trans (Below.mono hL (by omega)))
        go_simp
      try simp only [Act.put, List.setIfInBounds_toArray, List.set_cons_zero, List.set_cons_succ]
      clear hBs hcv hd hb2 hsz2
      repeat (first | (refine wpO_F (v := ?_) rfl (by rfl) (fun w' hL => ?_) ?_; rotate_left; (solve | (go_simp; with_reducible rfl) | go_simp); try simp only [Act.put, List.setIfInBounds_toArray, List.set_cons_zero, List.set_cons_succ]) | (refine wpO_G rfl (by rfl) ?_; try simp only [Act.put, List.setIfInBounds_toArray, List.set_cons_zero, List.set_cons_succ]))
      refine wpO_nil ?_
      go_wp2
      go_roundw
      case rel => exact ⟨k + 1, by omega, by rw [HTk.out], by go_num, (by first | rfl | trivial), HB2.out⟩
      case measure => simp [intOf]; omega
    · have hke : k = tx.size := by omega
      have hT : strN ([120, 39] ++ hexN ((bytesU tx).take k)) ++ ⟨#[39]⟩ = ⟨#[120]⟩ ++ quoteS (hexS tx) := by
        rw [hke, List.take_of_length_le (by rw [bytesU_len]; omega), strN_app20]; exact HQ.out
      have HT := Lib.hid hT
      have hO : (strN ([120, 39] ++ hexN ((bytesU tx).take k))).size ≤ 1000000 := by
        rw [strN_size, List.length_append, hexN_len, List.length_take, bytesU_len, List.length_cons, List.length_cons, List.length_nil]; omega
      generalize strN ([120, 39] ++ hexN ((bytesU tx).take k)) = O at *
      have s1 : ¬ 9223372036854775807 < O.size + 1 := by omega
      clear hT
      go_wp2
      go_ret
      exact ⟨by rw [← HT.out]; rfl, HB0.out.trans (HBr.out.mono HB0.out.size)⟩
end Go.Proofs.YtbnddpicpomakaaGreatDoor

/- How long the texts of expressions are. -/
set_option linter.unusedSimpArgs false
set_option linter.unusedVariables false
set_option maxRecDepth 100000
namespace Go.Proofs.YtbnddpicpomakaaGreatDoor
open Go.RowKit

theorem joinTail_len (sep : List UInt8) (r : List (List UInt8)) : (Lib.joinTail sep r).length = (r.map List.length).sum + r.length * sep.length := by
  induction r with
  | nil => simp [Lib.joinTail]
  | cons x r ih =>
    have e : Lib.joinTail sep (x :: r) = (sep ++ x) ++ Lib.joinTail sep r := by simp [Lib.joinTail]
    rw [e, List.length_append, List.length_append, ih, List.map_cons, List.sum_cons, List.length_cons, Nat.add_mul]; omega
theorem joinS_size (xs : List ByteArray) (sep : ByteArray) : (joinS xs sep).size ≤ (xs.map ByteArray.size).sum + xs.length * sep.size := by
  unfold joinS joinL
  rw [baL_size]
  cases xs with
  | nil => simp [Lib.join_nil]
  | cons x r =>
    rw [List.map_cons, Lib.join_cons, List.length_append, joinTail_len, List.map_cons, List.sum_cons, List.length_cons, List.map_map, List.length_map, Nat.add_mul]
    have e1 : (List.map (List.length ∘ fun x : ByteArray => x.data.toList) r).sum = (List.map ByteArray.size r).sum := by
      congr 1
    have e2 : x.data.toList.length = x.size := by simp
    have e3 : sep.data.toList.length = sep.size := by simp
    rw [e1, e2, e3]; omega

/-- Good for a text: valid, and no label too much. -/
def Lb.good (l : Lb) (n : Nat) : Bool := l.ok n && !l.big n
def GoodX (e : Ex) : Prop := e.allB Lb.good = true
theorem GoodX.lab {e : Ex} (h : GoodX e) : e.lab.ok e.args.length = true ∧ e.lab.big e.args.length = false := by
  unfold GoodX at h
  rw [Rose.allB_eq] at h
  simp only [Lb.good, Bool.and_eq_true, Bool.not_eq_true'] at h
  exact h.1
theorem GoodX.arg {e x : Ex} (h : GoodX e) (hx : x ∈ e.args) : GoodX x := by
  unfold GoodX at h
  rw [Rose.allB_eq, Bool.and_eq_true, List.all_eq_true] at h
  exact h.2 x hx
structure Lb.Small (l : Lb) (n : Nat) : Prop where
  n : n ≤ 6
  nm : l.nm.size ≤ 100
  tb : l.tb.size ≤ 100
  op : l.op.size ≤ 100
  s : l.v.s.size ≤ 200
theorem Lb.small {l : Lb} {n : Nat} (h : l.big n = false) : l.Small n := by
  unfold Lb.big at h
  simp only [Bool.or_eq_false_iff, decide_eq_false_iff_not] at h
  exact ⟨by omega, by omega, by omega, by omega, by omega⟩
theorem getD_size (ts : List ByteArray) (i : Nat) : (ts.getD i ⟨#[]⟩).size ≤ (ts.map ByteArray.size).sum := by
  induction ts generalizing i with
  | nil => exact Nat.zero_le 0
  | cons x r ih =>
    cases i with
    | zero => simp
    | succ i => have := ih i; simp only [List.getD_cons_succ, List.map_cons, List.sum_cons]; omega
theorem getD2_size (ts : List ByteArray) : (ts.getD 0 ⟨#[]⟩).size + (ts.getD 1 ⟨#[]⟩).size ≤ (ts.map ByteArray.size).sum := by
  cases ts with
  | nil => exact Nat.zero_le 0
  | cons x r =>
    have := getD_size r 0
    simp only [List.getD_cons_zero, List.getD_cons_succ, List.map_cons, List.sum_cons]; omega

theorem textOf_size (l : Lb) (ts : List ByteArray) (n : Nat) (hn : ts.length = n) (hs : l.Small n) (h0 : -9223372036854775808 ≤ l.v.n ∧ l.v.n ≤ 9223372036854775807) : (l.textOf ts).size ≤ 900 + (ts.map ByteArray.size).sum := by
  have e1 : (⟨#[40]⟩ : ByteArray).size = 1 := rfl
  have e2 : (⟨#[41]⟩ : ByteArray).size = 1 := rfl
  have e3 : (⟨#[32]⟩ : ByteArray).size = 1 := rfl
  have e4 : (⟨#[46]⟩ : ByteArray).size = 1 := rfl
  have e5 : (⟨#[40, 42, 41]⟩ : ByteArray).size = 3 := rfl
  have e6 : (⟨#[44, 32]⟩ : ByteArray).size = 2 := rfl
  have a0 := getD_size ts 0
  have a2 := getD2_size ts
  have h1 := hs.n; have h2 := hs.nm; have h3 := hs.tb; have h4 := hs.op
  unfold Lb.textOf
  split
  · have := litS_size l.v hs.s h0.1 h0.2; omega
  split
  · unfold Lb.colS
    split
    · omega
    · rw [ByteArray.size_append, ByteArray.size_append]; omega
  split
  · simp only [ByteArray.size_append]; omega
  split
  · simp only [ByteArray.size_append]; omega
  split
  · simp only [ByteArray.size_append]; omega
  split
  · simp only [ByteArray.size_append]; omega
  · have := joinS_size ts ⟨#[44, 32]⟩
    rw [e6] at this
    simp only [ByteArray.size_append]; omega

theorem textX_size : ∀ (N n : Nat) (w : World) (x : XM), XAt N w n x → GoodX x.t → (textX x.t).size ≤ 1000 * x.t.count
  | _, 0, _, _, h, _ => h.elim
  | N, n + 1, w, x, h, hg => by
    have hs := Lb.small hg.lab.2
    have hf := h.fair.1.n
    have hk : ∀ y ∈ x.t.args, (textX y).size ≤ 1000 * y.count := by
      intro y hy
      obtain ⟨k, hk, rfl⟩ := List.getElem_of_mem hy
      obtain ⟨z, hz, hzA, _⟩ := h.kid hk
      have := textX_size N n w z hzA (by rw [hz]; exact hg.arg hy)
      rw [hz] at this; exact this
    rw [textX_eq, Rose.count_eq]
    have h1 := textOf_size x.t.lab (x.t.args.map textX) _ (by simp) hs hf
    have h2 : ((x.t.args.map textX).map ByteArray.size).sum ≤ 1000 * (x.t.args.map Rose.count).sum := by
      generalize x.t.args = l at hk
      induction l with
      | nil => simp
      | cons y r ih =>
        have := hk y List.mem_cons_self
        have := ih (fun z hz => hk z (List.mem_cons_of_mem _ hz))
        simp only [List.map_cons, List.sum_cons]; omega
    omega
end Go.Proofs.YtbnddpicpomakaaGreatDoor

/- The reference's Write: its text, gathered argument by argument. -/
set_option linter.unusedSimpArgs false
set_option linter.unusedVariables false
set_option maxRecDepth 100000
namespace Go.Proofs.YtbnddpicpomakaaGreatDoor
open Go.RowKit

theorem baL_app (a b : List UInt8) : baL (a ++ b) = baL a ++ baL b := by apply ByteArray.ext; simp [baL]
theorem joinTail_snoc (sep : List UInt8) (r : List (List UInt8)) (x : List UInt8) : Lib.joinTail sep (r ++ [x]) = Lib.joinTail sep r ++ (sep ++ x) := by
  simp [Lib.joinTail]
theorem joinS_nil (sep : ByteArray) : joinS [] sep = ⟨#[]⟩ := by
  unfold joinS joinL; rw [List.map_nil, Lib.join_nil]; rfl
theorem joinS_one (x sep : ByteArray) : joinS [x] sep = x := by
  unfold joinS joinL
  rw [List.map_cons, List.map_nil, Lib.join_one, baL_data]
theorem joinS_snoc (ts : List ByteArray) (x sep : ByteArray) (h : ts ≠ []) : joinS (ts ++ [x]) sep = joinS ts sep ++ sep ++ x := by
  unfold joinS joinL
  cases ts with
  | nil => exact absurd rfl h
  | cons y r =>
    rw [List.cons_append, List.map_cons, List.map_cons, List.map_append, Lib.join_cons, Lib.join_cons, List.map_cons, List.map_nil, joinTail_snoc, ← List.append_assoc, baL_app, baL_app, baL_data, baL_app, baL_data, baL_data, ByteArray.append_assoc, ByteArray.append_assoc, ByteArray.append_assoc]
/-- What stands between two arguments. -/
def Lb.sepS (l : Lb) : ByteArray := if l.kd = 4 then ⟨#[32]⟩ ++ l.op ++ ⟨#[32]⟩ else ⟨#[44, 32]⟩
/-- The text of a label around the joined texts of its arguments. -/
def Lb.around (l : Lb) (n : Nat) (out : ByteArray) : ByteArray :=
  if l.kd = 3 then (⟨#[40]⟩ : ByteArray) ++ l.op ++ ⟨#[32]⟩ ++ out ++ ⟨#[41]⟩
  else if l.kd = 4 then (⟨#[40]⟩ : ByteArray) ++ out ++ ⟨#[41]⟩
  else if l.kd = 5 then (⟨#[40]⟩ : ByteArray) ++ out ++ ⟨#[32]⟩ ++ l.op ++ ⟨#[41]⟩
  else if n = 0 then l.op ++ ⟨#[40, 42, 41]⟩
  else l.op ++ ⟨#[40]⟩ ++ out ++ ⟨#[41]⟩
theorem around_text {l : Lb} {ts : List ByteArray} (h1 : ¬ l.kd = 1) (h2 : ¬ l.kd = 2) (h3 : l.kd = 3 → ts.length = 1) (h4 : l.kd = 4 → ts.length = 2) (h5 : l.kd = 5 → ts.length = 1) :
    l.textOf ts = l.around ts.length (joinS ts l.sepS) := by
  unfold Lb.textOf Lb.around
  rw [if_neg h1, if_neg h2]
  by_cases k3 : l.kd = 3
  · rw [if_pos k3, if_pos k3]
    obtain ⟨x, rfl⟩ := List.length_eq_one_iff.1 (h3 k3)
    rw [joinS_one]; rfl
  rw [if_neg k3, if_neg k3]
  by_cases k4 : l.kd = 4
  · rw [if_pos k4, if_pos k4]
    obtain ⟨x, y, rfl⟩ : ∃ x y, ts = [x, y] := by
      have h0 := h4 k4
      match ts, h0 with
      | [x, y], _ => exact ⟨x, y, rfl⟩
    have := joinS_snoc [x] y l.sepS (by simp)
    rw [List.singleton_append, joinS_one] at this
    rw [this]
    unfold Lb.sepS
    rw [if_pos k4]
    simp only [List.getD_cons_zero, List.getD_cons_succ, ByteArray.append_assoc]
  rw [if_neg k4, if_neg k4]
  by_cases k5 : l.kd = 5
  · rw [if_pos k5, if_pos k5]
    obtain ⟨x, rfl⟩ := List.length_eq_one_iff.1 (h5 k5)
    rw [joinS_one]; rfl
  rw [if_neg k5, if_neg k5]
  by_cases h0 : ts.length = 0
  · rw [if_pos h0, List.length_eq_zero_iff.1 h0]; rfl
  · rw [if_neg h0, if_neg (by intro he; exact h0 (by rw [List.isEmpty_iff.1 he]; rfl))]
    unfold Lb.sepS
    rw [if_neg k4]
/-- How the text grows. -/
theorem join_step (l : Lb) (ts : List ByteArray) (k : Nat) (hk : k < ts.length) :
    joinS (ts.take (k + 1)) l.sepS = if k = 0 then ts[k] else joinS (ts.take k) l.sepS ++ l.sepS ++ ts[k] := by
  rw [List.take_succ_eq_append_getElem hk]
  by_cases h0 : k = 0
  · subst h0
    rw [if_pos rfl, List.take_zero, List.nil_append, joinS_one]
  · rw [if_neg h0, joinS_snoc]
    intro he
    have := congrArg List.length he
    rw [List.length_take, List.length_nil] at this; omega
theorem joinS_empty {s : ByteArray} : (⟨#[]⟩ : ByteArray) ++ s = s := by
  apply ByteArray.ext; simp
end Go.Proofs.YtbnddpicpomakaaGreatDoor

/- The walks of the reference's Write of one token, and of its literal. -/
set_option linter.unusedSimpArgs false
set_option linter.unusedVariables false
set_option maxRecDepth 100000
namespace Go.Proofs.YtbnddpicpomakaaGreatDoor
open Go.RowKit

set_option maxHeartbeats 2000000 in
theorem rTkText_any (t : Tk) (w : World) (hF : t.fair) (hk : 2 ≤ t.kd ∧ t.kd ≤ 4) (hs : t.tx.size ≤ 400000) :
    Calls Tryz.prog 37 #[.agg #[.int .i64 t.kd, .int .i64 t.at_, .string t.tx, .int .i64 t.n]] w fun e w' => e = .returned (.string t.text.1) ∧ Below w.heap.size w w' := by
  obtain ⟨kd, at_, tx, n⟩ := t
  simp only at hs hk ⊢
  have hn := hF.n
  simp only at hn
  have HX := Lib.hid (Slot4.new w 69 (.int .i64 kd) (.int .i64 at_) (.string tx) (.int .i64 n))
  have HB0 : Hid (∀ o, Below w.heap.size w (w.alloc o)) := fun o => (Below.refl _ w).alloc (Nat.le_refl _) _
  clear hF
  have hcase : kd = 2 ∨ kd = 3 ∨ kd = 4 := by omega
  obtain ⟨x0, x1, x2, x3⟩ := HX.out
  clear hk
  rcases hcase with rfl | rfl | rfl
  · have HD := Lib.hid (fun W => rDigits_any n W hn.1 hn.2)
    have HR : Hid ((Tk.text ⟨2, at_, tx, n⟩).1 = baL (Lib.itoa n)) := rfl
    rw [HR.out]
    generalize baL (Lib.itoa n) = d at *
    go_enter Tryz.func37, Tryz.ntmps37
    go_wp2_with fail
    refine (HD.out _).mono ?_
    rintro e w1 ⟨rfl, hb1⟩
    have HB1 := Lib.hid ((HB0.out _).trans (hb1.mono (by simp)))
    clear hb1 x0 x1 x2 x3
    go_wp2
    go_ret
    exact ⟨rfl, HB1.out⟩
  · have HD := Lib.hid (fun W => rQuote_any tx W (by omega))
    have HR : Hid ((Tk.text ⟨3, at_, tx, n⟩).1 = quoteS tx) := rfl
    rw [HR.out]
    generalize quoteS tx = d at *
    go_enter Tryz.func37, Tryz.ntmps37
    go_wp2_with fail
    refine (HD.out _).mono ?_
    rintro e w1 ⟨rfl, hb1⟩
    have HB1 := Lib.hid ((HB0.out _).trans (hb1.mono (by simp)))
    clear hb1 x0 x1 x2 x3
    go_wp2
    go_ret
    exact ⟨rfl, HB1.out⟩
  · exact rTkHex_any at_ tx n w hs

set_option maxHeartbeats 2000000 in
theorem rTkWrite_one (t : Tk) (w : World) (b : Nat) (hF : t.fair) (hk : 2 ≤ t.kd ∧ t.kd ≤ 4) (hs : t.tx.size ≤ 400000) (hb : b < w.heap.size)
    (c0 : w.cell? ⟨b, 0, none⟩ = some (.int .i64 t.kd)) (c1 : w.cell? ⟨b, 1, none⟩ = some (.int .i64 t.at_)) (c2 : w.cell? ⟨b, 2, none⟩ = some (.string t.tx)) (c3 : w.cell? ⟨b, 3, none⟩ = some (.int .i64 t.n)) (hj : t.text.1.size ≤ 1000000) :
    Calls Tryz.prog 12 #[.slice (some ⟨b, 0, none⟩) 1 1] w fun e w' => e = .returned (.string t.text.1) ∧ Below w.heap.size w w' := by
  have HT := Lib.hid (fun W => rTkText_any t W hF hk hs)
  have HX : Hid (Slot4 w b (.int .i64 t.kd) (.int .i64 t.at_) (.string t.tx) (.int .i64 t.n)) := ⟨c0, c1, c2, c3⟩
  obtain ⟨kd, at_, tx, n⟩ := t
  simp only at HT HX hk hj ⊢
  generalize (Tk.text ⟨kd, at_, tx, n⟩).1 = T at *
  have q1 : decide (kd < 1) = false := by simp; omega
  have q2 : decide (5 < kd) = false := by simp; omega
  have HB := Lib.hid hb
  clear hF hs c0 c1 c2 c3 hk
  go_enter Tryz.func12, Tryz.ntmps12
  go_wp2
  go_loopw [3, 4, 5] (fun v s i wr => ∃ k : Nat, i = .int .i64 k ∧ ((k = 0 ∧ v = .string ⟨#[]⟩ ∧ s = .bool false) ∨ (k = 1 ∧ v = .string T ∧ s = .bool true)) ∧ Hid (Below w.heap.size w wr)) (fun _ _ i _ => 1 - (intOf i).toNat)
  case atStart => exact ⟨0, rfl, .inl ⟨rfl, rfl, rfl⟩, Below.refl _ _⟩
  case round =>
    obtain ⟨k, rfl, hk, HBr⟩ := hrel
    rcases hk with ⟨rfl, rfl, rfl⟩ | ⟨rfl, rfl, rfl⟩
    · obtain ⟨x0, x1, x2, x3⟩ := HX.out.later HB.out HBr.out
      go_wp2_with fail
      refine (HT.out _).mono ?_
      rintro e w2 ⟨rfl, hb2⟩
      have HB2 := Lib.hid (HBr.out.trans (hb2.mono HBr.out.size))
      clear hb2 x0 x1 x2 x3
      have s1 : ¬ 9223372036854775807 < (⟨#[]⟩ : ByteArray).size + T.size := by have : (⟨#[]⟩ : ByteArray).size = 0 := rfl; omega
      go_wp2
      go_roundw
      case rel => exact ⟨1, by go_num, .inr ⟨rfl, by first | rfl | rw [joinS_empty] | simp, rfl⟩, HB2.out⟩
      case measure => simp [intOf]
    · go_wp2
      go_ret
      exact ⟨rfl, HBr.out⟩

theorem lit_text (v : Vl) (k : Nat) (hk : v.k = k) (h1 : 1 ≤ k) (h3 : k ≤ 3) : (Tk.text ⟨(k : Int) + 1, 0, v.s, v.n⟩).1 = v.litS := by
  rw [Vl.litS_eq]
  have : k = 1 ∨ k = 2 ∨ k = 3 := by omega
  unfold Vl.tk
  rw [hk]
  rcases this with rfl | rfl | rfl <;> rfl

set_option maxHeartbeats 2000000 in
theorem rLiteral_any (v : Vl) (w : World) (hk : v.k ≤ 3) (hn : -9223372036854775808 ≤ v.n ∧ v.n ≤ 9223372036854775807) (hs : v.s.size ≤ 200) :
    Calls Tryz.prog 44 #[.agg #[.int .u8 v.k, .int .i64 v.n, .string v.s]] w fun e w' => e = .returned (.string v.litS) ∧ Below w.heap.size w w' := by
  obtain ⟨w0, hw0⟩ : ∃ w0, w.alloc (.cells #[.int .u8 v.k, .int .i64 v.n, .string v.s] 42) = w0 := ⟨_, rfl⟩
  have hb0 : Below w.heap.size w w0 := by rw [← hw0]; exact (Below.refl _ w).alloc (Nat.le_refl _) _
  have hs0 : w.heap.size < w0.heap.size := by rw [← hw0]; simp
  have x0 : w0.cell? ⟨w.heap.size, 0, none⟩ = some (.int .u8 v.k) := by rw [← hw0]; simp
  have x1 : w0.cell? ⟨w.heap.size, 1, none⟩ = some (.int .i64 v.n) := by rw [← hw0]; simp
  have x2 : w0.cell? ⟨w.heap.size, 2, none⟩ = some (.string v.s) := by rw [← hw0]; simp
  have HB0 := Lib.hid hb0
  have HS0 := Lib.hid hs0
  have HSz := Lib.hid (litS_size v hs hn.1 hn.2)
  have HLt := Lib.hid (fun k => lit_text v k)
  by_cases hk0 : v.k = 0
  · have HR : Hid (v.litS = ⟨#[110, 117, 108, 108]⟩) := by
      rw [Vl.litS_eq]; unfold Vl.tk; rw [hk0]; rfl
    rw [HR.out]
    have q0 : ((v.k : Int) == 0) = true := by simp; omega
    clear hk hn hs hb0 hs0 hk0
    go_enter Tryz.func44, Tryz.ntmps44
    go_wp2
    go_ret
    exact ⟨rfl, HB0.out⟩
  · obtain ⟨w1, hw1⟩ : ∃ w1, w0.alloc (.cells #[.int .i64 0, .int .i64 2, .int .i64 3, .int .i64 4] 3) = w1 := ⟨_, rfl⟩
    have hb1 : Below w0.heap.size w0 w1 := by rw [← hw1]; exact (Below.refl _ w0).alloc (Nat.le_refl _) _
    have hs1 : w1.heap.size = w0.heap.size + 1 := by rw [← hw1]; simp
    have hB1 := hb0.trans (hb1.mono hb0.size)
    have f0 : ∀ V, Later w1.drew V → V.cell? ⟨w.heap.size, 0, none⟩ = some (.int .u8 v.k) := fun V hV => ((Later.undrew hV).cell (p := ⟨w.heap.size, 0, none⟩) (by show w.heap.size < w1.heap.size; omega)).trans ((hb1.cell (p := ⟨w.heap.size, 0, none⟩) hs0).trans x0)
    have f1 : ∀ V, Later w1.drew V → V.cell? ⟨w.heap.size, 1, none⟩ = some (.int .i64 v.n) := fun V hV => ((Later.undrew hV).cell (p := ⟨w.heap.size, 1, none⟩) (by show w.heap.size < w1.heap.size; omega)).trans ((hb1.cell (p := ⟨w.heap.size, 1, none⟩) hs0).trans x1)
    have f2 : ∀ V, Later w1.drew V → V.cell? ⟨w.heap.size, 2, none⟩ = some (.string v.s) := fun V hV => ((Later.undrew hV).cell (p := ⟨w.heap.size, 2, none⟩) (by show w.heap.size < w1.heap.size; omega)).trans ((hb1.cell (p := ⟨w.heap.size, 2, none⟩) hs0).trans x2)
    have g1 : ∀ V, Later w1.drew V → V.cell? ⟨w0.heap.size, v.k, none⟩ = some (.int .i64 ((v.k : Int) + 1)) := fun V hV => by
      refine ((Later.undrew hV).cell (p := ⟨w0.heap.size, v.k, none⟩) (by show w0.heap.size < w1.heap.size; omega)).trans ?_
      rw [← hw1, World.cell?_alloc_at _ _ _ _ rfl]
      have : v.k = 1 ∨ v.k = 2 ∨ v.k = 3 := by omega
      rcases this with h | h | h <;> rw [h] <;> rfl
    have q0 : ((v.k : Int) == 0) = false := by simp; omega
    have HW := Lib.hid (fun (W : World) (b : Nat) (hb : b < W.heap.size) (c0 : W.cell? ⟨b, 0, none⟩ = some (.int .i64 ((v.k : Int) + 1))) (c1 : W.cell? ⟨b, 1, none⟩ = some (.int .i64 0)) (c2 : W.cell? ⟨b, 2, none⟩ = some (.string v.s)) (c3 : W.cell? ⟨b, 3, none⟩ = some (.int .i64 v.n)) => rTkWrite_one ⟨(v.k : Int) + 1, 0, v.s, v.n⟩ W b ⟨⟨by simp only; omega, by simp only; omega⟩, ⟨by simp only; omega, by simp only; omega⟩, by simp only; omega, hn⟩ ⟨by simp only; omega, by simp only; omega⟩ (by simp only; omega) hb c0 c1 c2 c3 (by rw [HLt.out v.k rfl (by omega) hk]; have := HSz.out; omega))
    rw [HLt.out v.k rfl (by omega) hk] at HW
    have HBw := Lib.hid hB1
    have hk4 : v.k < 4 := by omega
    have hk5 : (v.k : Int) < 4 := by omega
    have hk6 : decide ((v.k : Int) < 4) = true := by simp; omega
    generalize v.litS = T at *
    obtain ⟨k, n, s⟩ := v
    simp only at *
    clear hk hn hs hb0 hs0 hb1 hs1 hB1 HLt HSz hk0
    go_enter Tryz.func44, Tryz.ntmps44
    go_wp2_with fail
    clear x0 x1 x2
    refine wp_region_ord [(0, true), (1, true), (2, true), (3, true), (4, true), (5, true), (6, true), (7, true), (8, true), (9, true), (10, false), (11, false), (12, true)] (by kernel_rfl) (by kernel_rfl) (by kernel_rfl) (by kernel_rfl) ?_
    repeat (first | (refine wpO_F (v := ?_) rfl (by rfl) (fun w' hL => ?_) ?_; rotate_left; (solve | (go_simp; with_reducible rfl) | go_simp); try simp only [Act.put, List.setIfInBounds_toArray, List.set_cons_zero, List.set_cons_succ]) | (refine wpO_G rfl (by rfl) ?_; try simp only [Act.put, List.setIfInBounds_toArray, List.set_cons_zero, List.set_cons_succ]))
    refine wpO_C rfl (by rfl) ?_
    go_simp
    obtain ⟨w2, hw2⟩ : ∃ w2, (w1.alloc (.cells #[.int .i64 ((k : Int) + 1), .int .i64 0, .string s, .int .i64 n] 69)).drew = w2 := ⟨_, rfl⟩
    have hb2 : Below w1.heap.size w1 w2 := by rw [← hw2]; exact ((Below.refl _ w1).alloc (Nat.le_refl _) _).drew
    have hL2 : Later w1.drew w2 := by rw [← hw2]; exact (show Later w1.drew (w1.drew.alloc _) from (Below.refl _ w1.drew).alloc (Nat.le_refl _) _)
    have hc : ∀ (j : Nat) v, (#[Value.int .i64 ((k : Int) + 1), .int .i64 0, .string s, .int .i64 n] : Array Value)[j]? = some v → w2.cell? ⟨w1.heap.size, j, none⟩ = some v := fun j v hj => by
      rw [← hw2]; show (w1.alloc _).cell? _ = _; rw [World.cell?_alloc_at _ _ _ _ rfl]; exact hj
    have HY := Lib.hid (HW.out w2 w1.heap.size (by rw [← hw2]; show w1.heap.size < (w1.alloc _).heap.size; simp) (hc 0 _ rfl) (hc 1 _ rfl) (hc 2 _ rfl) (hc 3 _ rfl))
    rw [hw2]
    refine ⟨hL2, ?_⟩
    try simp only [Act.put, List.setIfInBounds_toArray, List.set_cons_zero, List.set_cons_succ]
    have HB2 := Lib.hid (HBw.out.trans (hb2.mono HBw.out.size))
    clear hw2 hb2 hL2 hc f0 f1 f2 g1 HW
    refine wpO_C rfl (by rfl) ?_
    go_simp
    refine (HY.out).mono ?_
    rintro e w3 ⟨rfl, hb3⟩
    refine ⟨hb3, ?_⟩
    try simp only [Act.put, List.setIfInBounds_toArray, List.set_cons_zero, List.set_cons_succ]
    have HB3 := Lib.hid (HB2.out.trans (hb3.mono HB2.out.size))
    clear hb3 HY
    repeat (first | (refine wpO_F (v := ?_) rfl (by rfl) (fun w' hL => ?_) ?_; rotate_left; (solve | (go_simp; with_reducible rfl) | go_simp); try simp only [Act.put, List.setIfInBounds_toArray, List.set_cons_zero, List.set_cons_succ]) | (refine wpO_G rfl (by rfl) ?_; try simp only [Act.put, List.setIfInBounds_toArray, List.set_cons_zero, List.set_cons_succ]))
    refine wpO_nil ?_
    go_wp2
    go_ret
    exact ⟨rfl, HB3.out⟩
end Go.Proofs.YtbnddpicpomakaaGreatDoor
