/- Several texts of one proof, one behind the other. -/
import Derived.Test.YtlcphgomhhejbaaNPk27
set_option linter.unusedSimpArgs false
set_option linter.unusedVariables false

/- The walk of the reference's Read. (Made by wip/gen/genrread.py.) -/
namespace Go.Proofs.Ytlcphgomhhejbaa
open Go.RowKit

/-- What the reference's Read tells. -/
def RetRR (w : World) (b : List Nat) (e : Ending) (w' : World) : Prop :=
  ∃ (x : Rn) (er : Int) (m : RB), e = .returned (.tuple #[m.v x.leaf x.kid, .int .i64 er]) ∧ ((er = 0 ∧ decN b = some x) ∨ (er = 3 ∧ x = zeroR ∧ decN b = none)) ∧ RAt w' x m ∧ m.ll ≤ 60000 ∧ Below w.heap.size w w'
theorem RetRR.no {w w' : World} {b : List Nat} (h : decN b = none) (hb : Below w.heap.size w w') : RetRR w b (.returned (.tuple #[.agg #[.bool false, .int .i64 0, .slice none 0 0], .int .i64 3])) w' :=
  ⟨zeroR, 3, ⟨none, 0, 0⟩, rfl, .inr ⟨rfl, rfl, h⟩, RAt_zero _, by simp only; omega, hb⟩
theorem RetRR.yes {w w' : World} {b : List Nat} {x : Rn} {m : RB} (h : decN b = some x) (hx : RAt w' x m) (hm : m.ll ≤ 60000) (hb : Below w.heap.size w w') : RetRR w b (.returned (.tuple #[m.v x.leaf x.kid, .int .i64 0])) w' :=
  ⟨x, 0, m, rfl, .inl ⟨rfl, h⟩, hx, hm, hb⟩
theorem decP_fair {leaf : Bool} {b : List Nat} (hb : ∀ c ∈ b, c < 256) {at_ q : Nat} {x : Pt} (hl : b.length = 512) (h : decP leaf b at_ = some (x, q)) : x.fair ∧ q ≤ 512 := by
  have hlt := fun i k => valL_lt (cutL b i k) (cutL_lt hb i k)
  have h2 := hlt (at_ + 1) 2
  have h2' : (256 : Nat) ^ (cutL b (at_ + 1) 2).length ≤ 256 ^ 2 := Nat.pow_le_pow_right (by omega) (by unfold cutL; rw [List.length_take]; omega)
  have h4 : ∀ i, valL (cutL b i 4) < 256 ^ 4 := fun i => Nat.lt_of_lt_of_le (hlt i 4) (Nat.pow_le_pow_right (by omega) (by unfold cutL; rw [List.length_take]; omega))
  have hsz : ∀ i k, (strN (cutL b i k)).size ≤ 512 := by
    intro i k
    rw [strN_size]
    unfold cutL
    rw [List.length_take, List.length_drop]; omega
  have he : (ByteArray.size ⟨#[]⟩) = 0 := rfl
  unfold decP at h
  cases leaf with
  | true =>
    simp only [if_true, Bool.true_and, decide_eq_true_eq] at h
    by_cases hx : valL (cutL b (at_ + 1) 2) ≤ 120
    · simp only [hx, if_true] at h
      split at h
      · cases h
      · split at h
        · cases h
        · simp only [Option.some.injEq, Prod.mk.injEq] at h
          obtain ⟨rfl, rfl⟩ := h
          have g1 := hsz (at_ + 3) (valL (cutL b at_ 1))
          have g2 := hsz (at_ + 3 + valL (cutL b at_ 1)) (valL (cutL b (at_ + 1) 2))
          exact ⟨⟨by simp only; omega, by simp only; omega, by simp only; omega, by simp only; omega⟩, by omega⟩
    · simp only [hx, if_false] at h
      split at h
      · cases h
      · split at h
        · cases h
        · simp only [Option.some.injEq, Prod.mk.injEq] at h
          obtain ⟨rfl, rfl⟩ := h
          have g1 := hsz (at_ + 3) (valL (cutL b at_ 1))
          have g3 := h4 (at_ + 3 + valL (cutL b at_ 1))
          exact ⟨⟨by simp only; omega, by simp only; omega, by simp only; omega, by simp only; omega⟩, by omega⟩
  | false =>
    simp only [Bool.false_eq_true, if_false, Bool.false_and] at h
    split at h
    · cases h
    · split at h
      · cases h
      · simp only [Option.some.injEq, Prod.mk.injEq] at h
        obtain ⟨rfl, rfl⟩ := h
        have g1 := hsz (at_ + 1) (valL (cutL b at_ 1))
        have g3 := h4 (at_ + 1 + valL (cutL b at_ 1))
        exact ⟨⟨by simp only; omega, by simp only; omega, by simp only; omega, by simp only; omega⟩, by omega⟩
theorem decs_small {leaf : Bool} {b : List Nat} (hb : ∀ c ∈ b, c < 256) (hl : b.length = 512) {st i q : Nat} {l : List Pt} (hs : st ≤ 512) (h : decs leaf b st i = some (l, q)) : i ≤ 512 := by
  obtain ⟨h1, h2, h3⟩ := decs_enc hb (by omega) h
  have h4 := encPs_count leaf l
  have h5 := decs_len h
  have h6 := congrArg List.length h3
  rw [cutL_len (by omega)] at h6
  omega
theorem writeR_cases (x : Rn) : (writeR x = (pageN x, 0) ∧ x.Ok ∧ (encN x).length ≤ 512) ∨ (∃ er, writeR x = ([], er) ∧ er ≠ 0) := by
  unfold writeR
  cases h : x.ok with
  | false => right; exact ⟨3, by simp, by omega⟩
  | true =>
    by_cases h5 : (encN x).length ≤ 512
    · left; exact ⟨by rw [if_pos rfl, if_pos h5], Rn.ok_true h, h5⟩
    · right; exact ⟨2, by rw [if_pos rfl, if_neg h5], by omega⟩
theorem str_ne {l m : List Nat} (hl : ∀ c ∈ l, c < 256) (hm : ∀ c ∈ m, c < 256) (h : l ≠ m) : ((strN l).toList == (strN m).toList) = false := by
  apply beq_eq_false_iff_ne.2
  intro he
  apply h
  rw [ByteArray.toList_eq, ByteArray.toList_eq] at he
  have : strN l = strN m := by
    apply ByteArray.ext
    exact Array.toList_inj.1 he
  rw [← bytesOf_strB hl, ← bytesOf_strB hm, this]
theorem writeR_ok {x : Rn} (h : x.Ok) (h5 : (encN x).length ≤ 512) : writeR x = (pageN x, 0) := by unfold writeR; rw [Rn.ok_yes h, if_pos rfl, if_pos h5]
/-- What Write gives back makes the node that was read. -/
theorem read_yes {b : List Nat} {x : Rn} (h : x.Ok) (h5 : (encN x).length ≤ 512) (hp : pageN x = b) : decN b = some x := by rw [← hp]; exact decN_page h h5
theorem read_noL {b : List Nat} (hb : ∀ c ∈ b, c < 256) (hl : b.length = 512) (h1 : valL (cutL b 0 1) = 1) {l : List Pt} {q : Nat} (hd : decs true b 3 (valL (cutL b 1 2)) = some (l, q)) (hno : ¬ ((⟨true, 0, l⟩ : Rn).Ok ∧ (encN ⟨true, 0, l⟩).length ≤ 512 ∧ pageN ⟨true, 0, l⟩ = b)) : decN b = none := by
  cases hc : decN b with
  | none => rfl
  | some y =>
    obtain ⟨g1, g2, g3⟩ := page_decN hb hc
    unfold decN at hc
    rw [if_pos hl, if_pos h1, hd, tailN_some] at hc
    split at hc
    · simp only [Option.some.injEq] at hc
      subst hc
      exact absurd ⟨g1, g2, g3⟩ hno
    · cases hc
theorem read_noI {b : List Nat} (hb : ∀ c ∈ b, c < 256) (hl : b.length = 512) (h1 : valL (cutL b 0 1) = 2) {l : List Pt} {q : Nat} (hd : decs false b 7 (valL (cutL b 1 2)) = some (l, q)) (hno : ¬ ((⟨false, (valL (cutL b 3 4) : Nat), l⟩ : Rn).Ok ∧ (encN ⟨false, (valL (cutL b 3 4) : Nat), l⟩).length ≤ 512 ∧ pageN ⟨false, (valL (cutL b 3 4) : Nat), l⟩ = b)) : decN b = none := by
  cases hc : decN b with
  | none => rfl
  | some y =>
    obtain ⟨g1, g2, g3⟩ := page_decN hb hc
    unfold decN at hc
    rw [if_pos hl, if_neg (by omega), if_pos h1, hd, tailN_some] at hc
    split at hc
    · simp only [Option.some.injEq] at hc
      subst hc
      exact absurd ⟨g1, g2, g3⟩ hno
    · cases hc
theorem read_gone {b : List Nat} (h : ∀ leaf st, ((leaf = true ∧ st = 3 ∧ valL (cutL b 0 1) = 1) ∨ (leaf = false ∧ st = 7 ∧ valL (cutL b 0 1) = 2)) → decs leaf b st (valL (cutL b 1 2)) = none) : decN b = none := by
  unfold decN
  split
  · split
    · rw [h true 3 (.inl ⟨rfl, rfl, ‹_›⟩)]; rfl
    · split
      · rw [h false 7 (.inr ⟨rfl, rfl, ‹_›⟩)]; rfl
      · rfl
  · rfl

/-- A round of Read's loop. -/
structure RdInv (w wr : World) (lf : Bool) (kid : Int) (l : List Pt) (i : Nat) (la : Option Addr) (lc : Nat) : Prop where
  res : Blk wr w.heap.size 32 #[.bool false, .int .i64 0, .slice none 0 0]
  nod : Blk wr (w.heap.size + 1) 32 #[.bool lf, .int .i64 kid, .slice la i lc]
  row : wr.ownsRow (w.heap.size + 1 + 1) 65 4 (.slice la i lc) i (cellsP l)
  bel : Below w.heap.size w wr
  fair : ∀ p ∈ l, p.fair
theorem RdInv.later {w wr W : World} {lf : Bool} {kid : Int} {l : List Pt} {i : Nat} {la : Option Addr} {lc : Nat} (h : RdInv w wr lf kid l i la lc) (hb : Below wr.heap.size wr W) : RdInv w W lf kid l i la lc :=
  ⟨h.res.bel hb h.res.lt, h.nod.bel hb h.nod.lt, own_below h.row (Nat.le_refl _) hb, h.bel.trans (hb.mono h.bel.size), h.fair⟩
theorem RdInv.add {w V x6 : World} {lf : Bool} {kid : Int} {l : List Pt} {i : Nat} {la la2 : Option Addr} {lc lc2 : Nat} {x : Pt} (h : RdInv w V lf kid l i la lc) (hf : x.fair)
    (h6 : x6.ownsRow (w.heap.size + 1 + 1) 65 4 (.slice la2 (i + 1) lc2) (i + 1) (cellsP l ++ [.string x.key, .int .i64 x.len, .string x.data, .int .i64 x.page])) (hb : Below (w.heap.size + 1 + 1) V x6) :
    RdInv w (x6.setCell ⟨w.heap.size + 1, 2, none⟩ (.slice la2 (i + 1) lc2)) lf kid (l ++ [x]) (i + 1) la2 lc2 ∧ x6.cell? ⟨w.heap.size + 1, 2, none⟩ = some (.slice la i lc) ∧ x6.frozen? ⟨w.heap.size + 1, 2, none⟩ = false ∧ w.heap.size + 1 < x6.heap.size := by
  have hn := h.nod.bel hb (Nat.lt_succ_self _)
  have hr := h.res.bel hb (by omega)
  have hz := h.nod.lt
  refine ⟨⟨hr.far (by omega) _, ?_, ?_, Below.setCell (h.bel.trans (hb.mono (by omega))) (by show w.heap.size ≤ w.heap.size + 1; omega) _, ?_⟩, (hn.cell 2).trans rfl, hn.frozen 2, hn.lt⟩
  · have := hn.set_ 2 (.slice la2 (i + 1) lc2)
    simpa using this
  · have e : cellsP (l ++ [x]) = cellsP l ++ [.string x.key, .int .i64 x.len, .string x.data, .int .i64 x.page] := cellsOf_snoc _ _ _
    rw [e]
    exact ownsRow_setCell_below h6 (Nat.lt_succ_self _) _
  · intro p hp
    rcases List.mem_append.1 hp with h1 | h1
    · exact h.fair p h1
    · simp only [List.mem_singleton] at h1; subst h1; exact hf


set_option maxRecDepth 100000 in
set_option maxHeartbeats 8000000 in
theorem rreadL (b : List Nat) (a : Option Addr) (cap : Nat) (w : World) (hB : Bs w.heap.size w a b) (hl : b.length = 512) (hcap : 512 ≤ cap) (hcm : cap ≤ 9223372036854775807) (h1 : valL (cutL b 0 1) = 1) :
    Calls Try.prog 18 #[.slice a 512 cap] w (RetRR w b) := by
  obtain ⟨iP, hiP, hzP, hsP, hbP⟩ := info_parts info_part
  have hne : b ≠ [] := by intro h0; rw [h0] at hl; simp at hl
  obtain ⟨bb, o, rfl, hbN, hcell⟩ := hB.2.resolve_left hne
  have c0' := hcell 0 _ (List.getElem?_eq_getElem (by omega))
  have hc1 := cutL_one (List.getElem?_eq_getElem (l := b) (i := 0) (by omega))
  rw [h1] at hc1
  rw [← hc1, Nat.add_zero] at c0'
  have c0 : w.cell? ⟨bb, o, none⟩ = some (.int .u8 1) := c0'
  obtain ⟨ac, hBc, hsc', _⟩ := hB.cut 512 cap 1 3 hl.symm (by omega) (by omega) hcap
  have hsc : ∀ W, (Instr.slice 27 (.slice (some ⟨bb, o, none⟩) 512 cap) (some (.int .i64 1)) (some (.int .i64 3)) none).run Try.prog W = .ok (.slice ac 2 (cap - 1)) W := hsc'
  have hcnt := valL_lt (cutL b 1 2) (cutL_lt hB.1 1 2)
  rw [cutL_len (by omega)] at hcnt
  have HVc : Hid (∀ W, Below w.heap.size w W → Calls Try.prog 42 #[.slice ac 2 (cap - 1)] W fun e w' => e = .returned (.int .i64 ((valL (cutL b 1 2) : Nat) : Int)) ∧ W = w') :=
    fun W hW => rval_any (cutL b 1 2) ac 2 (cap - 1) W ((hBc.below hW).mono hW.size) (cutL_len (by omega)).symm (by omega)
  have HRp : Hid (∀ W at_, at_ ≤ 512 → Below w.heap.size w W → Calls Try.prog 43 #[.slice (some ⟨bb, o, none⟩) 512 cap, .int .i64 ((at_ : Nat) : Int), .bool true] W (RetPart W true b at_)) :=
    fun W at_ hat hW => rpart_any true b _ cap at_ W ((hB.below hW).mono hW.size) hl hcap hcm hat
  have HConv : Hid (∀ W, Below w.heap.size w W → (convert 27 9 (.slice (some ⟨bb, o, none⟩) 512 cap)).run Try.prog W = .ok (.string (strN b)) W) :=
    fun W hW => (hB.below hW).conv 27 5 Try.underlying27 Try.underlying5 9 Try.underlying9 512 cap hl.symm
  have HNo : Hid (∀ W, decN b = none → Below w.heap.size w W → RetRR w b (.returned (.tuple #[.agg #[.bool false, .int .i64 0, .slice none 0 0], .int .i64 3])) W) := fun W h hb => RetRR.no h hb
  have HGone : Hid (∀ i, i ≤ valL (cutL b 1 2) → decs true b 3 i = none → decN b = none) := by
    intro i hi hd
    refine read_gone ?_
    rintro leaf st (⟨rfl, rfl, _⟩ | ⟨rfl, rfl, _⟩)
    · exact decs_none hd _ hi
    · omega
  have HYes : Hid (∀ (l : List Pt) (la : Option Addr) (lc q : Nat) W, decs true b 3 (valL (cutL b 1 2)) = some (l, q) → (⟨true, 0, l⟩ : Rn).Ok → (encN ⟨true, 0, l⟩).length ≤ 512 → pageN ⟨true, 0, l⟩ = b → RAt W ⟨true, 0, l⟩ ⟨la, valL (cutL b 1 2), lc⟩ → Below w.heap.size w W → RetRR w b (.returned (.tuple #[.agg #[.bool true, .int .i64 0, .slice la (valL (cutL b 1 2)) lc], .int .i64 0])) W) :=
    fun l la lc q W hd g1 g2 g3 g4 g5 => RetRR.yes (m := ⟨la, valL (cutL b 1 2), lc⟩) (read_yes g1 g2 g3) g4 (by have := decs_small hB.1 hl (by omega) hd; simp only; omega) g5
  have HFail : Hid (∀ (l : List Pt) (q : Nat), decs true b 3 (valL (cutL b 1 2)) = some (l, q) → ¬ ((⟨true, 0, l⟩ : Rn).Ok ∧ (encN ⟨true, 0, l⟩).length ≤ 512 ∧ pageN ⟨true, 0, l⟩ = b) → decN b = none) := fun l q hd hno => read_noL hB.1 hl h1 hd hno
  have HF256 := Lib.hid hB.1
  have HL := Lib.hid hl
  obtain ⟨cnt, hcn⟩ : ∃ cnt, valL (cutL b 1 2) = cnt := ⟨_, rfl⟩
  rw [hcn] at HVc HGone HYes HFail hcnt
  clear hcn hB hBc hsc' hcell c0' hc1 hne h1 hl
  generalize RetRR w b = RR at *
  have HI0 : Hid (RdInv w ((w.alloc (.cells #[.bool false, .int .i64 0, .slice none 0 0] 32)).alloc (.cells #[.bool true, .int .i64 0, .slice none 0 0] 32)) true 0 [] 0 none 0) := by
    have hk1 := Blk.new (w.alloc (.cells #[.bool false, .int .i64 0, .slice none 0 0] 32)) 32 #[.bool true, .int .i64 0, .slice none 0 0]
    rw [show (w.alloc (.cells #[.bool false, .int .i64 0, .slice none 0 0] 32)).heap.size = w.heap.size + 1 by simp] at hk1
    exact ⟨(Blk.new w _ _).alloc _, hk1, World.ownsRow_nil _ _ _ _, ((Below.refl _ _).alloc (Nat.le_refl _) _).alloc (by simp) _, by simp⟩
  go_enter Try.func18, Try.ntmps18
  go_wp2
  go_loopw [5, 6] (fun pv iv wr => ∃ (i p : Nat) (la : Option Addr) (lc : Nat) (l : List Pt), pv = .int .i64 p ∧ iv = .int .i64 i ∧ i ≤ cnt ∧ p ≤ 512 ∧ Hid (decs true b 3 i = some (l, p)) ∧ Hid (RdInv w wr true 0 l i la lc)) (fun _ iv _ => cnt - (intOf iv).toNat)
  case atStart => exact ⟨0, 3, none, 0, [], rfl, rfl, by omega, by omega, rfl, HI0⟩
  case round =>
    obtain ⟨i, p, la, lc, l, rfl, rfl, hi, hp, HD, HI⟩ := hrel
    have hwlt : w.heap.size + 1 < wr.heap.size := HI.out.nod.lt
    go_wp2_with fail
    refine (HVc.out _ HI.out.bel).mono ?_
    rintro e v1 ⟨rfl, rfl⟩
    have y0 : wr.cell? ⟨w.heap.size + 1, 0, none⟩ = some (.bool true) := HI.out.nod.cell 0
    have y1 : wr.cell? ⟨w.heap.size + 1, 1, none⟩ = some (.int .i64 0) := HI.out.nod.cell 1
    have y2 : wr.cell? ⟨w.heap.size + 1, 2, none⟩ = some (.slice la i lc) := HI.out.nod.cell 2
    by_cases hlt : i < cnt
    · clear y1 y2
      have q1 : decide ((i : Int) < (cnt : Int)) = true := by simp; omega
      go_wp2_with fail
      clear y0 q1
      refine (HRp.out wr p hp HI.out.bel).mono ?_
      rintro e v2 ⟨x, q, r, rfl, hr, hb2⟩
      replace HI := Lib.hid (HI.out.later hb2)
      clear hb2 hwlt
      rcases hr with ⟨rfl, hd⟩ | ⟨rfl, hd⟩
      · have hfq := decP_fair HF256.out HL.out hd
        obtain ⟨hfx, hq⟩ := hfq
        have HFx := Lib.hid hfx
        have HDn : Hid (decs true b 3 (i + 1) = some (l ++ [x], q)) := by
          show _ = _
          unfold decs
          rw [HD.out]
          simp only
          rw [hd]
        clear hd hfx HD
        obtain ⟨xk, xl, xd, xp⟩ := x
        simp only
        have y2 : v2.cell? ⟨w.heap.size + 1, 2, none⟩ = some (.slice la i lc) := HI.out.nod.cell 2
        have hwlt : w.heap.size + 1 < v2.heap.size := HI.out.nod.lt
        have hAl := (Below.refl v2.heap.size v2).alloc (Nat.le_refl _) (.cells #[.string xk, .int .i64 xl, .string xd, .int .i64 xp] 65)
        have HV := Lib.hid (HI.out.later hAl)
        clear hAl
        have hszV : (v2.alloc (.cells #[.string xk, .int .i64 xl, .string xd, .int .i64 xp] 65)).heap.size = v2.heap.size + 1 := by simp
        go_wp2_with (at_builtin; refine wpList_appN rfl (.tmp 60) (.tmp 62) 30 rfl (w.heap.size + 1 + 1) 65 iP (.agg #[.string ⟨#[]⟩, .int .i64 0, .string ⟨#[]⟩, .int .i64 0]) 4 48 Try.underlying30 hiP hzP rfl hsP (by omega) hbP (by omega) (.slice la i lc) i _ [.string xk, .int .i64 xl, .string xd, .int .i64 xp] (v2.alloc (.cells #[.string xk, .int .i64 xl, .string xd, .int .i64 xp] 65)) HV.out.row rfl _ rfl rfl (by simp [Value.oneCell']) (by rw [hszV]; rfl) (by omega) (by rw [hszV]; omega) ?_; intro v6 x6 h6 hb6 hs6; obtain ⟨la2, lc2, rfl, _, _, _⟩ := own_slice h6; obtain ⟨hn, f0, f1, f2⟩ := HV.out.add (x := ⟨xk, xl, xd, xp⟩) HFx.out h6 hb6; have HN := Lib.hid hn; clear hn h6 hb6 hs6)
        go_roundw
        case rel => exact ⟨i + 1, q, la2, lc2, l ++ [⟨xk, xl, xd, xp⟩], rfl, by go_num, by omega, hq, HDn, HN⟩
        case measure => simp [intOf]; omega
      · have hn : decN b = none := by
          refine HGone.out (i + 1) (by omega) ?_
          unfold decs
          rw [HD.out]
          simp only
          rw [hd]
        have HN := Lib.hid hn
        clear hn hd HD
        have r0 : v2.cell? ⟨w.heap.size, 0, none⟩ = some (.bool false) := HI.out.res.cell 0
        have rf0 : v2.frozen? ⟨w.heap.size, 0, none⟩ = false := HI.out.res.frozen 0
        have r1 : v2.cell? ⟨w.heap.size, 1, none⟩ = some (.int .i64 0) := HI.out.res.cell 1
        have rf1 : v2.frozen? ⟨w.heap.size, 1, none⟩ = false := HI.out.res.frozen 1
        have r2 : v2.cell? ⟨w.heap.size, 2, none⟩ = some (.slice none 0 0) := HI.out.res.cell 2
        have rf2 : v2.frozen? ⟨w.heap.size, 2, none⟩ = false := HI.out.res.frozen 2
        have rlt : w.heap.size < v2.heap.size := HI.out.res.lt
        go_wp2
        refine bodyPost_ret (v := .tuple #[.agg #[.bool false, .int .i64 0, .slice none 0 0], .int .i64 3]) (by simp [results, Try.results18, go_sem, r0, r1, r2, rlt]) rfl (HNo.out _ HN.out ?_)
        repeat (first | (refine Below.setCell ?_ (by first | exact Nat.le_refl _ | (simp; done) | (simp; omega)) _) | (refine Below.alloc ?_ (by first | omega | (simp; omega)) _))
        exact HI.out.bel
    · obtain rfl : i = cnt := by omega
      have hsm := decs_small HF256.out HL.out (show 3 ≤ 512 by omega) HD.out
      have hcap := own_slice HI.out.row
      obtain ⟨_, _, e1, k1, k2, k3⟩ := hcap
      simp only [Value.slice.injEq, true_and] at e1
      obtain ⟨rfl, rfl⟩ := e1
      have hRA : RAt wr ⟨true, 0, l⟩ ⟨la, i, lc⟩ := ⟨(decs_len HD.out).symm, k1, by simp only; omega, k3, by simp only; omega, HI.out.fair⟩
      have HRA := Lib.hid hRA
      have HWr := rWrite_any ⟨true, 0, l⟩ ⟨la, i, lc⟩ wr hRA (by simp only; omega)
      clear hRA k1 k2 k3
      have q1 : decide ((i : Int) < (i : Int)) = false := by simp
      rcases writeR_cases ⟨true, 0, l⟩ with ⟨hw, g1, g2⟩ | ⟨er, hw, hne⟩
      · rw [hw] at HWr
        have HWr := Lib.hid HWr
        have HG1 := Lib.hid g1
        have HG2 := Lib.hid g2
        have hpl := pageN_len g2
        have HPl := Lib.hid hpl
        obtain ⟨pg, hpg⟩ : ∃ pg, pageN ⟨true, 0, l⟩ = pg := ⟨_, rfl⟩
        rw [hpg] at HWr HPl
        have HPg := Lib.hid hpg
        clear hpl hpg g1 g2 hw
        go_wp2_with fail
        clear y0 y1 y2
        refine HWr.out.mono ?_
        rintro e v2 ⟨wa, wc, rfl, hwc, hwm, hBw, hb2⟩
        simp only at hwc hBw ⊢
        rw [HPl.out] at hwc ⊢
        replace HRA := Lib.hid (HRA.out.later hb2)
        replace HI := Lib.hid (HI.out.later hb2)
        have hcv1 := (hBw.conv 27 5 Try.underlying27 Try.underlying5 9 Try.underlying9 512 wc HPl.out.symm)
        have hcv2 := HConv.out v2 HI.out.bel
        have HPw := Lib.hid hBw.1
        clear hb2 hBw HWr
        have r0 : v2.cell? ⟨w.heap.size, 0, none⟩ = some (.bool false) := HI.out.res.cell 0
        have rf0 : v2.frozen? ⟨w.heap.size, 0, none⟩ = false := HI.out.res.frozen 0
        have r1 : v2.cell? ⟨w.heap.size, 1, none⟩ = some (.int .i64 0) := HI.out.res.cell 1
        have rf1 : v2.frozen? ⟨w.heap.size, 1, none⟩ = false := HI.out.res.frozen 1
        have r2 : v2.cell? ⟨w.heap.size, 2, none⟩ = some (.slice none 0 0) := HI.out.res.cell 2
        have rf2 : v2.frozen? ⟨w.heap.size, 2, none⟩ = false := HI.out.res.frozen 2
        have rlt : w.heap.size < v2.heap.size := HI.out.res.lt
        have y0 : v2.cell? ⟨w.heap.size + 1, 0, none⟩ = some (.bool true) := HI.out.nod.cell 0
        have y1 : v2.cell? ⟨w.heap.size + 1, 1, none⟩ = some (.int .i64 0) := HI.out.nod.cell 1
        have y2 : v2.cell? ⟨w.heap.size + 1, 2, none⟩ = some (.slice la i lc) := HI.out.nod.cell 2
        have hwl2 : w.heap.size + 1 < v2.heap.size := HI.out.nod.lt
        by_cases hpb : pg = b
        · subst hpb
          go_wp2
          refine bodyPost_ret (v := .tuple #[.agg #[.bool true, .int .i64 0, .slice la i lc], .int .i64 0]) (by simp [results, Try.results18, go_sem, r0, r1, r2, rlt]) rfl (HYes.out l la lc _ _ HD.out HG1.out HG2.out HPg.out ?_ ?_)
          · exact ⟨HRA.out.hl, HRA.out.cap, HRA.out.max, HRA.out.arr.set3 (own_far HI.out.row) (by omega) _ _ _, HRA.out.kid, HRA.out.fair⟩
          · repeat (refine Below.setCell ?_ (by first | exact Nat.le_refl _ | (simp; done) | (simp; omega)) _)
            exact HI.out.bel
        · have HN : Hid (decN b = none) := HFail.out l _ HD.out (fun h => hpb (HPg.out.symm.trans h.2.2))
          have hsq := str_ne HPw.out HF256.out hpb
          go_wp2
          refine bodyPost_ret (v := .tuple #[.agg #[.bool false, .int .i64 0, .slice none 0 0], .int .i64 3]) (by simp [results, Try.results18, go_sem, r0, r1, r2, rlt]) rfl (HNo.out _ HN.out ?_)
          repeat (first | (refine Below.setCell ?_ (by first | exact Nat.le_refl _ | (simp; done) | (simp; omega)) _) | (refine Below.alloc ?_ (by first | omega | (simp; omega)) _))
          exact HI.out.bel
      · rw [hw] at HWr
        have HWr := Lib.hid HWr
        have HN : Hid (decN b = none) := HFail.out l _ HD.out (fun h => by have h2 : writeR ⟨true, 0, l⟩ = (pageN ⟨true, 0, l⟩, 0) := writeR_ok h.1 h.2.1; rw [hw] at h2; exact hne (by simpa using congrArg Prod.snd h2))
        clear hw
        go_wp2_with fail
        clear y0 y1 y2
        refine HWr.out.mono ?_
        rintro e v2 ⟨wa, wc, rfl, hwc, hwm, hBw, hb2⟩
        simp only [List.length_nil]
        replace HI := Lib.hid (HI.out.later hb2)
        have q2 : (er != 0) = true := by simpa using hne
        clear hb2 hBw HWr hne
        have r0 : v2.cell? ⟨w.heap.size, 0, none⟩ = some (.bool false) := HI.out.res.cell 0
        have rf0 : v2.frozen? ⟨w.heap.size, 0, none⟩ = false := HI.out.res.frozen 0
        have r1 : v2.cell? ⟨w.heap.size, 1, none⟩ = some (.int .i64 0) := HI.out.res.cell 1
        have rf1 : v2.frozen? ⟨w.heap.size, 1, none⟩ = false := HI.out.res.frozen 1
        have r2 : v2.cell? ⟨w.heap.size, 2, none⟩ = some (.slice none 0 0) := HI.out.res.cell 2
        have rf2 : v2.frozen? ⟨w.heap.size, 2, none⟩ = false := HI.out.res.frozen 2
        have rlt : w.heap.size < v2.heap.size := HI.out.res.lt
        go_wp2
        refine bodyPost_ret (v := .tuple #[.agg #[.bool false, .int .i64 0, .slice none 0 0], .int .i64 3]) (by simp [results, Try.results18, go_sem, r0, r1, r2, rlt]) rfl (HNo.out _ HN.out ?_)
        repeat (first | (refine Below.setCell ?_ (by first | exact Nat.le_refl _ | (simp; done) | (simp; omega)) _) | (refine Below.alloc ?_ (by first | omega | (simp; omega)) _))
        exact HI.out.bel

set_option maxRecDepth 100000 in
set_option maxHeartbeats 8000000 in
theorem rreadI (b : List Nat) (a : Option Addr) (cap : Nat) (w : World) (hB : Bs w.heap.size w a b) (hl : b.length = 512) (hcap : 512 ≤ cap) (hcm : cap ≤ 9223372036854775807) (h1 : valL (cutL b 0 1) = 2) :
    Calls Try.prog 18 #[.slice a 512 cap] w (RetRR w b) := by
  obtain ⟨iP, hiP, hzP, hsP, hbP⟩ := info_parts info_part
  have hne : b ≠ [] := by intro h0; rw [h0] at hl; simp at hl
  obtain ⟨bb, o, rfl, hbN, hcell⟩ := hB.2.resolve_left hne
  have c0' := hcell 0 _ (List.getElem?_eq_getElem (by omega))
  have hc1 := cutL_one (List.getElem?_eq_getElem (l := b) (i := 0) (by omega))
  rw [h1] at hc1
  rw [← hc1, Nat.add_zero] at c0'
  have c0 : w.cell? ⟨bb, o, none⟩ = some (.int .u8 2) := c0'
  obtain ⟨ac, hBc, hsc', _⟩ := hB.cut 512 cap 1 3 hl.symm (by omega) (by omega) hcap
  have hsc : ∀ W, (Instr.slice 27 (.slice (some ⟨bb, o, none⟩) 512 cap) (some (.int .i64 1)) (some (.int .i64 3)) none).run Try.prog W = .ok (.slice ac 2 (cap - 1)) W := hsc'
  have hcnt := valL_lt (cutL b 1 2) (cutL_lt hB.1 1 2)
  rw [cutL_len (by omega)] at hcnt
  have HVc : Hid (∀ W, Below w.heap.size w W → Calls Try.prog 42 #[.slice ac 2 (cap - 1)] W fun e w' => e = .returned (.int .i64 ((valL (cutL b 1 2) : Nat) : Int)) ∧ W = w') :=
    fun W hW => rval_any (cutL b 1 2) ac 2 (cap - 1) W ((hBc.below hW).mono hW.size) (cutL_len (by omega)).symm (by omega)
  have HRp : Hid (∀ W at_, at_ ≤ 512 → Below w.heap.size w W → Calls Try.prog 43 #[.slice (some ⟨bb, o, none⟩) 512 cap, .int .i64 ((at_ : Nat) : Int), .bool false] W (RetPart W false b at_)) :=
    fun W at_ hat hW => rpart_any false b _ cap at_ W ((hB.below hW).mono hW.size) hl hcap hcm hat
  have HConv : Hid (∀ W, Below w.heap.size w W → (convert 27 9 (.slice (some ⟨bb, o, none⟩) 512 cap)).run Try.prog W = .ok (.string (strN b)) W) :=
    fun W hW => (hB.below hW).conv 27 5 Try.underlying27 Try.underlying5 9 Try.underlying9 512 cap hl.symm
  have HNo : Hid (∀ W, decN b = none → Below w.heap.size w W → RetRR w b (.returned (.tuple #[.agg #[.bool false, .int .i64 0, .slice none 0 0], .int .i64 3])) W) := fun W h hb => RetRR.no h hb
  have HGone : Hid (∀ i, i ≤ valL (cutL b 1 2) → decs false b 7 i = none → decN b = none) := by
    intro i hi hd
    refine read_gone ?_
    rintro leaf st (⟨rfl, rfl, _⟩ | ⟨rfl, rfl, _⟩)
    · omega
    · exact decs_none hd _ hi
  have HYes : Hid (∀ (l : List Pt) (la : Option Addr) (lc q : Nat) W, decs false b 7 (valL (cutL b 1 2)) = some (l, q) → (⟨false, ((valL (cutL b 3 4) : Nat) : Int), l⟩ : Rn).Ok → (encN ⟨false, ((valL (cutL b 3 4) : Nat) : Int), l⟩).length ≤ 512 → pageN ⟨false, ((valL (cutL b 3 4) : Nat) : Int), l⟩ = b → RAt W ⟨false, ((valL (cutL b 3 4) : Nat) : Int), l⟩ ⟨la, valL (cutL b 1 2), lc⟩ → Below w.heap.size w W → RetRR w b (.returned (.tuple #[.agg #[.bool false, .int .i64 ((valL (cutL b 3 4) : Nat) : Int), .slice la (valL (cutL b 1 2)) lc], .int .i64 0])) W) :=
    fun l la lc q W hd g1 g2 g3 g4 g5 => RetRR.yes (m := ⟨la, valL (cutL b 1 2), lc⟩) (read_yes g1 g2 g3) g4 (by have := decs_small hB.1 hl (by omega) hd; simp only; omega) g5
  have HFail : Hid (∀ (l : List Pt) (q : Nat), decs false b 7 (valL (cutL b 1 2)) = some (l, q) → ¬ ((⟨false, ((valL (cutL b 3 4) : Nat) : Int), l⟩ : Rn).Ok ∧ (encN ⟨false, ((valL (cutL b 3 4) : Nat) : Int), l⟩).length ≤ 512 ∧ pageN ⟨false, ((valL (cutL b 3 4) : Nat) : Int), l⟩ = b) → decN b = none) := fun l q hd hno => read_noI hB.1 hl h1 hd hno
  have HF256 := Lib.hid hB.1
  have HL := Lib.hid hl
  obtain ⟨ak, hBk, hsk', _⟩ := hB.cut 512 cap 3 7 hl.symm (by omega) (by omega) hcap
  have hsk : ∀ W, (Instr.slice 27 (.slice (some ⟨bb, o, none⟩) 512 cap) (some (.int .i64 3)) (some (.int .i64 7)) none).run Try.prog W = .ok (.slice ak 4 (cap - 3)) W := hsk'
  have HVk : Hid (∀ W, Below w.heap.size w W → Calls Try.prog 42 #[.slice ak 4 (cap - 3)] W fun e w' => e = .returned (.int .i64 ((valL (cutL b 3 4) : Nat) : Int)) ∧ W = w') :=
    fun W hW => rval_any (cutL b 3 4) ak 4 (cap - 3) W ((hBk.below hW).mono hW.size) (cutL_len (by omega)).symm (by omega)
  have hkd := valL_lt (cutL b 3 4) (cutL_lt hB.1 3 4)
  rw [cutL_len (by omega)] at hkd
  clear hBk hsk'
  obtain ⟨kd, hkdd⟩ : ∃ kd, valL (cutL b 3 4) = kd := ⟨_, rfl⟩
  rw [hkdd] at HVk HYes HFail hkd
  clear hkdd
  obtain ⟨cnt, hcn⟩ : ∃ cnt, valL (cutL b 1 2) = cnt := ⟨_, rfl⟩
  rw [hcn] at HVc HGone HYes HFail hcnt
  clear hcn hB hBc hsc' hcell c0' hc1 hne h1 hl
  generalize RetRR w b = RR at *
  have HI0 : Hid (RdInv w ((w.alloc (.cells #[.bool false, .int .i64 0, .slice none 0 0] 32)).alloc (.cells #[.bool false, .int .i64 (kd : Int), .slice none 0 0] 32)) false (kd : Int) [] 0 none 0) := by
    have hk1 := Blk.new (w.alloc (.cells #[.bool false, .int .i64 0, .slice none 0 0] 32)) 32 #[.bool false, .int .i64 (kd : Int), .slice none 0 0]
    rw [show (w.alloc (.cells #[.bool false, .int .i64 0, .slice none 0 0] 32)).heap.size = w.heap.size + 1 by simp] at hk1
    exact ⟨(Blk.new w _ _).alloc _, hk1, World.ownsRow_nil _ _ _ _, ((Below.refl _ _).alloc (Nat.le_refl _) _).alloc (by simp) _, by simp⟩
  go_enter Try.func18, Try.ntmps18
  go_wp2_with fail
  refine (HVk.out _ ?_).mono ?_
  · exact ((Below.refl _ _).alloc (Nat.le_refl _) _).alloc (by simp) _
  rintro e w1 ⟨rfl, rfl⟩
  clear HVk hsk
  go_wp2
  go_loopw [5, 6] (fun pv iv wr => ∃ (i p : Nat) (la : Option Addr) (lc : Nat) (l : List Pt), pv = .int .i64 p ∧ iv = .int .i64 i ∧ i ≤ cnt ∧ p ≤ 512 ∧ Hid (decs false b 7 i = some (l, p)) ∧ Hid (RdInv w wr false (kd : Int) l i la lc)) (fun _ iv _ => cnt - (intOf iv).toNat)
  case atStart => exact ⟨0, 7, none, 0, [], rfl, rfl, by omega, by omega, rfl, HI0⟩
  case round =>
    obtain ⟨i, p, la, lc, l, rfl, rfl, hi, hp, HD, HI⟩ := hrel
    have hwlt : w.heap.size + 1 < wr.heap.size := HI.out.nod.lt
    go_wp2_with fail
    refine (HVc.out _ HI.out.bel).mono ?_
    rintro e v1 ⟨rfl, rfl⟩
    have y0 : wr.cell? ⟨w.heap.size + 1, 0, none⟩ = some (.bool false) := HI.out.nod.cell 0
    have y1 : wr.cell? ⟨w.heap.size + 1, 1, none⟩ = some (.int .i64 (kd : Int)) := HI.out.nod.cell 1
    have y2 : wr.cell? ⟨w.heap.size + 1, 2, none⟩ = some (.slice la i lc) := HI.out.nod.cell 2
    by_cases hlt : i < cnt
    · clear y1 y2
      have q1 : decide ((i : Int) < (cnt : Int)) = true := by simp; omega
      go_wp2_with fail
      clear y0 q1
      refine (HRp.out wr p hp HI.out.bel).mono ?_
      rintro e v2 ⟨x, q, r, rfl, hr, hb2⟩
      replace HI := Lib.hid (HI.out.later hb2)
      clear hb2 hwlt
      rcases hr with ⟨rfl, hd⟩ | ⟨rfl, hd⟩
      · have hfq := decP_fair HF256.out HL.out hd
        obtain ⟨hfx, hq⟩ := hfq
        have HFx := Lib.hid hfx
        have HDn : Hid (decs false b 7 (i + 1) = some (l ++ [x], q)) := by
          show _ = _
          unfold decs
          rw [HD.out]
          simp only
          rw [hd]
        clear hd hfx HD
        obtain ⟨xk, xl, xd, xp⟩ := x
        simp only
        have y2 : v2.cell? ⟨w.heap.size + 1, 2, none⟩ = some (.slice la i lc) := HI.out.nod.cell 2
        have hwlt : w.heap.size + 1 < v2.heap.size := HI.out.nod.lt
        have hAl := (Below.refl v2.heap.size v2).alloc (Nat.le_refl _) (.cells #[.string xk, .int .i64 xl, .string xd, .int .i64 xp] 65)
        have HV := Lib.hid (HI.out.later hAl)
        clear hAl
        have hszV : (v2.alloc (.cells #[.string xk, .int .i64 xl, .string xd, .int .i64 xp] 65)).heap.size = v2.heap.size + 1 := by simp
        go_wp2_with (at_builtin; refine wpList_appN rfl (.tmp 60) (.tmp 62) 30 rfl (w.heap.size + 1 + 1) 65 iP (.agg #[.string ⟨#[]⟩, .int .i64 0, .string ⟨#[]⟩, .int .i64 0]) 4 48 Try.underlying30 hiP hzP rfl hsP (by omega) hbP (by omega) (.slice la i lc) i _ [.string xk, .int .i64 xl, .string xd, .int .i64 xp] (v2.alloc (.cells #[.string xk, .int .i64 xl, .string xd, .int .i64 xp] 65)) HV.out.row rfl _ rfl rfl (by simp [Value.oneCell']) (by rw [hszV]; rfl) (by omega) (by rw [hszV]; omega) ?_; intro v6 x6 h6 hb6 hs6; obtain ⟨la2, lc2, rfl, _, _, _⟩ := own_slice h6; obtain ⟨hn, f0, f1, f2⟩ := HV.out.add (x := ⟨xk, xl, xd, xp⟩) HFx.out h6 hb6; have HN := Lib.hid hn; clear hn h6 hb6 hs6)
        go_roundw
        case rel => exact ⟨i + 1, q, la2, lc2, l ++ [⟨xk, xl, xd, xp⟩], rfl, by go_num, by omega, hq, HDn, HN⟩
        case measure => simp [intOf]; omega
      · have hn : decN b = none := by
          refine HGone.out (i + 1) (by omega) ?_
          unfold decs
          rw [HD.out]
          simp only
          rw [hd]
        have HN := Lib.hid hn
        clear hn hd HD
        have r0 : v2.cell? ⟨w.heap.size, 0, none⟩ = some (.bool false) := HI.out.res.cell 0
        have rf0 : v2.frozen? ⟨w.heap.size, 0, none⟩ = false := HI.out.res.frozen 0
        have r1 : v2.cell? ⟨w.heap.size, 1, none⟩ = some (.int .i64 0) := HI.out.res.cell 1
        have rf1 : v2.frozen? ⟨w.heap.size, 1, none⟩ = false := HI.out.res.frozen 1
        have r2 : v2.cell? ⟨w.heap.size, 2, none⟩ = some (.slice none 0 0) := HI.out.res.cell 2
        have rf2 : v2.frozen? ⟨w.heap.size, 2, none⟩ = false := HI.out.res.frozen 2
        have rlt : w.heap.size < v2.heap.size := HI.out.res.lt
        go_wp2
        refine bodyPost_ret (v := .tuple #[.agg #[.bool false, .int .i64 0, .slice none 0 0], .int .i64 3]) (by simp [results, Try.results18, go_sem, r0, r1, r2, rlt]) rfl (HNo.out _ HN.out ?_)
        repeat (first | (refine Below.setCell ?_ (by first | exact Nat.le_refl _ | (simp; done) | (simp; omega)) _) | (refine Below.alloc ?_ (by first | omega | (simp; omega)) _))
        exact HI.out.bel
    · obtain rfl : i = cnt := by omega
      have hsm := decs_small HF256.out HL.out (show 7 ≤ 512 by omega) HD.out
      have hcap := own_slice HI.out.row
      obtain ⟨_, _, e1, k1, k2, k3⟩ := hcap
      simp only [Value.slice.injEq, true_and] at e1
      obtain ⟨rfl, rfl⟩ := e1
      have hRA : RAt wr ⟨false, (kd : Int), l⟩ ⟨la, i, lc⟩ := ⟨(decs_len HD.out).symm, k1, by simp only; omega, k3, by simp only; omega, HI.out.fair⟩
      have HRA := Lib.hid hRA
      have HWr := rWrite_any ⟨false, (kd : Int), l⟩ ⟨la, i, lc⟩ wr hRA (by simp only; omega)
      clear hRA k1 k2 k3
      have q1 : decide ((i : Int) < (i : Int)) = false := by simp
      rcases writeR_cases ⟨false, (kd : Int), l⟩ with ⟨hw, g1, g2⟩ | ⟨er, hw, hne⟩
      · rw [hw] at HWr
        have HWr := Lib.hid HWr
        have HG1 := Lib.hid g1
        have HG2 := Lib.hid g2
        have hpl := pageN_len g2
        have HPl := Lib.hid hpl
        obtain ⟨pg, hpg⟩ : ∃ pg, pageN ⟨false, (kd : Int), l⟩ = pg := ⟨_, rfl⟩
        rw [hpg] at HWr HPl
        have HPg := Lib.hid hpg
        clear hpl hpg g1 g2 hw
        go_wp2_with fail
        clear y0 y1 y2
        refine HWr.out.mono ?_
        rintro e v2 ⟨wa, wc, rfl, hwc, hwm, hBw, hb2⟩
        simp only at hwc hBw ⊢
        rw [HPl.out] at hwc ⊢
        replace HRA := Lib.hid (HRA.out.later hb2)
        replace HI := Lib.hid (HI.out.later hb2)
        have hcv1 := (hBw.conv 27 5 Try.underlying27 Try.underlying5 9 Try.underlying9 512 wc HPl.out.symm)
        have hcv2 := HConv.out v2 HI.out.bel
        have HPw := Lib.hid hBw.1
        clear hb2 hBw HWr
        have r0 : v2.cell? ⟨w.heap.size, 0, none⟩ = some (.bool false) := HI.out.res.cell 0
        have rf0 : v2.frozen? ⟨w.heap.size, 0, none⟩ = false := HI.out.res.frozen 0
        have r1 : v2.cell? ⟨w.heap.size, 1, none⟩ = some (.int .i64 0) := HI.out.res.cell 1
        have rf1 : v2.frozen? ⟨w.heap.size, 1, none⟩ = false := HI.out.res.frozen 1
        have r2 : v2.cell? ⟨w.heap.size, 2, none⟩ = some (.slice none 0 0) := HI.out.res.cell 2
        have rf2 : v2.frozen? ⟨w.heap.size, 2, none⟩ = false := HI.out.res.frozen 2
        have rlt : w.heap.size < v2.heap.size := HI.out.res.lt
        have y0 : v2.cell? ⟨w.heap.size + 1, 0, none⟩ = some (.bool false) := HI.out.nod.cell 0
        have y1 : v2.cell? ⟨w.heap.size + 1, 1, none⟩ = some (.int .i64 (kd : Int)) := HI.out.nod.cell 1
        have y2 : v2.cell? ⟨w.heap.size + 1, 2, none⟩ = some (.slice la i lc) := HI.out.nod.cell 2
        have hwl2 : w.heap.size + 1 < v2.heap.size := HI.out.nod.lt
        by_cases hpb : pg = b
        · subst hpb
          go_wp2
          refine bodyPost_ret (v := .tuple #[.agg #[.bool false, .int .i64 (kd : Int), .slice la i lc], .int .i64 0]) (by simp [results, Try.results18, go_sem, r0, r1, r2, rlt]) rfl (HYes.out l la lc _ _ HD.out HG1.out HG2.out HPg.out ?_ ?_)
          · exact ⟨HRA.out.hl, HRA.out.cap, HRA.out.max, HRA.out.arr.set3 (own_far HI.out.row) (by omega) _ _ _, HRA.out.kid, HRA.out.fair⟩
          · repeat (refine Below.setCell ?_ (by first | exact Nat.le_refl _ | (simp; done) | (simp; omega)) _)
            exact HI.out.bel
        · have HN : Hid (decN b = none) := HFail.out l _ HD.out (fun h => hpb (HPg.out.symm.trans h.2.2))
          have hsq := str_ne HPw.out HF256.out hpb
          go_wp2
          refine bodyPost_ret (v := .tuple #[.agg #[.bool false, .int .i64 0, .slice none 0 0], .int .i64 3]) (by simp [results, Try.results18, go_sem, r0, r1, r2, rlt]) rfl (HNo.out _ HN.out ?_)
          repeat (first | (refine Below.setCell ?_ (by first | exact Nat.le_refl _ | (simp; done) | (simp; omega)) _) | (refine Below.alloc ?_ (by first | omega | (simp; omega)) _))
          exact HI.out.bel
      · rw [hw] at HWr
        have HWr := Lib.hid HWr
        have HN : Hid (decN b = none) := HFail.out l _ HD.out (fun h => by have h2 : writeR ⟨false, (kd : Int), l⟩ = (pageN ⟨false, (kd : Int), l⟩, 0) := writeR_ok h.1 h.2.1; rw [hw] at h2; exact hne (by simpa using congrArg Prod.snd h2))
        clear hw
        go_wp2_with fail
        clear y0 y1 y2
        refine HWr.out.mono ?_
        rintro e v2 ⟨wa, wc, rfl, hwc, hwm, hBw, hb2⟩
        simp only [List.length_nil]
        replace HI := Lib.hid (HI.out.later hb2)
        have q2 : (er != 0) = true := by simpa using hne
        clear hb2 hBw HWr hne
        have r0 : v2.cell? ⟨w.heap.size, 0, none⟩ = some (.bool false) := HI.out.res.cell 0
        have rf0 : v2.frozen? ⟨w.heap.size, 0, none⟩ = false := HI.out.res.frozen 0
        have r1 : v2.cell? ⟨w.heap.size, 1, none⟩ = some (.int .i64 0) := HI.out.res.cell 1
        have rf1 : v2.frozen? ⟨w.heap.size, 1, none⟩ = false := HI.out.res.frozen 1
        have r2 : v2.cell? ⟨w.heap.size, 2, none⟩ = some (.slice none 0 0) := HI.out.res.cell 2
        have rf2 : v2.frozen? ⟨w.heap.size, 2, none⟩ = false := HI.out.res.frozen 2
        have rlt : w.heap.size < v2.heap.size := HI.out.res.lt
        go_wp2
        refine bodyPost_ret (v := .tuple #[.agg #[.bool false, .int .i64 0, .slice none 0 0], .int .i64 3]) (by simp [results, Try.results18, go_sem, r0, r1, r2, rlt]) rfl (HNo.out _ HN.out ?_)
        repeat (first | (refine Below.setCell ?_ (by first | exact Nat.le_refl _ | (simp; done) | (simp; omega)) _) | (refine Below.alloc ?_ (by first | omega | (simp; omega)) _))
        exact HI.out.bel

set_option maxRecDepth 100000 in
theorem rread_len (b : List Nat) (a : Option Addr) (n cap : Nat) (w : World) (hn : n = b.length) (hno : b.length ≠ 512) (hmax : n ≤ 9223372036854775807) :
    Calls Try.prog 18 #[.slice a n cap] w (RetRR w b) := by
  have hd : decN b = none := by unfold decN; rw [if_neg hno]
  have HN : Hid (∀ W, Below w.heap.size w W → RetRR w b (.returned (.tuple #[.agg #[.bool false, .int .i64 0, .slice none 0 0], .int .i64 3])) W) := fun W hb => RetRR.no hd hb
  have q1 : ((n : Int) != 512) = true := by simp; omega
  have q2 : (n != 512) = true := by simp; omega
  generalize RetRR w b = RR at *
  clear hd hn hno
  go_enter Try.func18, Try.ntmps18
  go_wp2
  refine bodyPost_ret (v := .tuple #[.agg #[.bool false, .int .i64 0, .slice none 0 0], .int .i64 3]) (by simp [results, Try.results18, go_sem]) rfl (HN.out _ ?_)
  repeat (refine Below.setCell ?_ (by first | exact Nat.le_refl _ | (simp; done) | (simp; omega)) _)
  first | exact ((Below.refl _ _).alloc (Nat.le_refl _) _).alloc (by simp) _ | exact (Below.refl _ _).alloc (Nat.le_refl _) _ | exact (((Below.refl _ _).alloc (Nat.le_refl _) _).alloc (by simp) _).alloc (by simp; omega) _

set_option maxRecDepth 100000 in
theorem rread_other (b : List Nat) (a : Option Addr) (cap : Nat) (w : World) (hB : Bs w.heap.size w a b) (hl : b.length = 512) (h1 : valL (cutL b 0 1) ≠ 1) (h2 : valL (cutL b 0 1) ≠ 2) :
    Calls Try.prog 18 #[.slice a 512 cap] w (RetRR w b) := by
  have hd : decN b = none := by unfold decN; rw [if_pos hl, if_neg h1, if_neg h2]
  have HN : Hid (∀ W, Below w.heap.size w W → RetRR w b (.returned (.tuple #[.agg #[.bool false, .int .i64 0, .slice none 0 0], .int .i64 3])) W) := fun W hb => RetRR.no hd hb
  have hne : b ≠ [] := by intro h0; rw [h0] at hl; simp at hl
  obtain ⟨bb, o, rfl, hbN, hcell⟩ := hB.2.resolve_left hne
  have c0' := hcell 0 _ (List.getElem?_eq_getElem (by omega))
  have hc1 := cutL_one (List.getElem?_eq_getElem (l := b) (i := 0) (by omega))
  obtain ⟨c, hc⟩ : ∃ c, c = valL (cutL b 0 1) := ⟨_, rfl⟩
  rw [← hc1, Nat.add_zero, ← hc] at c0'
  rw [← hc] at h1 h2
  have c0 : w.cell? ⟨bb, o, none⟩ = some (.int .u8 (c : Int)) := c0'
  have q1 : ((c : Int) != 1) = true := by simp; omega
  have q2 : ((c : Int) != 2) = true := by simp; omega
  have q3 : (c != 1) = true := by simpa using h1
  have q4 : (c != 2) = true := by simpa using h2
  generalize RetRR w b = RR at *
  clear hd hcell c0' hc1 hc hB hne h1 h2 hl
  go_enter Try.func18, Try.ntmps18
  go_wp2
  refine bodyPost_ret (v := .tuple #[.agg #[.bool false, .int .i64 0, .slice none 0 0], .int .i64 3]) (by simp [results, Try.results18, go_sem]) rfl (HN.out _ ?_)
  repeat (refine Below.setCell ?_ (by first | exact Nat.le_refl _ | (simp; done) | (simp; omega)) _)
  first | exact ((Below.refl _ _).alloc (Nat.le_refl _) _).alloc (by simp) _ | exact (Below.refl _ _).alloc (Nat.le_refl _) _ | exact (((Below.refl _ _).alloc (Nat.le_refl _) _).alloc (by simp) _).alloc (by simp; omega) _

theorem rRead_any (b : List Nat) (a : Option Addr) (n cap : Nat) (w : World) (hB : Bs w.heap.size w a b) (hn : n = b.length) (hcap : n ≤ cap) (hcm : cap ≤ 9223372036854775807) :
    Calls Try.prog 18 #[.slice a n cap] w (RetRR w b) := by
  by_cases hl : b.length = 512
  · obtain rfl : n = 512 := by omega
    by_cases h1 : valL (cutL b 0 1) = 1
    · exact rreadL b a cap w hB hl hcap hcm h1
    · by_cases h2 : valL (cutL b 0 1) = 2
      · exact rreadI b a cap w hB hl hcap hcm h2
      · exact rread_other b a cap w hB hl h1 h2
  · exact rread_len b a n cap w hn hl (by omega)
end Go.Proofs.Ytlcphgomhhejbaa

/- The walk of the law's same. -/
namespace Go.Proofs.Ytlcphgomhhejbaa
open Go.RowKit

set_option maxRecDepth 100000 in
set_option maxHeartbeats 4000000 in
theorem lsame_any (n : Nd) (m : NB) (y : Rn) (mb : RB) (w : World) (h : NAt w n m) (h' : RAt w y mb) (hbig : m.kl ≤ 100000000) :
    Calls Try.prog 19 #[m.v n.leaf, mb.v y.leaf y.kid] w fun e w' => e = .returned (.bool (n.shaped && decide (n.asR = y))) ∧ Below w.heap.size w w' := by
  have hB0 : Below w.heap.size w ((w.alloc (.cells #[.bool n.leaf, .slice m.ka m.kl m.kc, .slice m.ca m.cl m.cc, .slice m.da m.dl m.dc] 26)).alloc (.cells #[.bool y.leaf, .int .i64 y.kid, .slice mb.la mb.ll mb.lc] 32)) := ((Below.refl _ w).alloc (Nat.le_refl _) _).alloc (by simp) _
  have HAs := Lib.hid (NAs_any n m _ (h.later hB0) hbig)
  have HB0 := Lib.hid hB0
  have HRy := Lib.hid (h'.later hB0)
  have HBy : Hid (Blk ((w.alloc (.cells #[.bool n.leaf, .slice m.ka m.kl m.kc, .slice m.ca m.cl m.cc, .slice m.da m.dl m.dc] 26)).alloc (.cells #[.bool y.leaf, .int .i64 y.kid, .slice mb.la mb.ll mb.lc] 32)) (w.heap.size + 1) 32 #[.bool y.leaf, .int .i64 y.kid, .slice mb.la mb.ll mb.lc]) := by
    have h1 := Blk.new (w.alloc (.cells #[.bool n.leaf, .slice m.ka m.kl m.kc, .slice m.ca m.cl m.cc, .slice m.da m.dl m.dc] 26)) 32 #[.bool y.leaf, .int .i64 y.kid, .slice mb.la mb.ll mb.lc]
    have e : (w.alloc (.cells #[.bool n.leaf, .slice m.ka m.kl m.kc, .slice m.ca m.cl m.cc, .slice m.da m.dl m.dc] 26)).heap.size = w.heap.size + 1 := by simp
    rw [e] at h1
    exact h1
  clear h h' hB0
  obtain ⟨lf, hlf⟩ : ∃ lf, n.leaf = lf := ⟨_, rfl⟩
  rw [hlf] at HAs HB0 HRy HBy ⊢
  obtain ⟨ka, kl, kc, ca, cl, cc, da, dl, dc⟩ := m
  obtain ⟨ya, yl, yc⟩ := mb
  obtain ⟨yf, hyf⟩ : ∃ yf, y.leaf = yf := ⟨_, rfl⟩
  obtain ⟨yk, hyk⟩ : ∃ yk, y.kid = yk := ⟨_, rfl⟩
  rw [hyf, hyk] at HAs HB0 HRy HBy ⊢
  have HYf := Lib.hid hyf
  have HYk := Lib.hid hyk
  simp only at *
  clear hlf hyf hyk
  go_enter Try.func19, Try.ntmps19
  go_wp2_with fail
  refine HAs.out.mono ?_
  rintro e w1 ⟨x, mx, rfl, hx, hRA, L01⟩
  have HB1 : Hid (Below w.heap.size w w1) := HB0.out.trans (Below.mono L01 HB0.out.size)
  obtain ⟨xa, xl, xc⟩ := mx
  obtain ⟨xf, hxf⟩ : ∃ xf, x.leaf = xf := ⟨_, rfl⟩
  obtain ⟨xk, hxk⟩ : ∃ xk, x.kid = xk := ⟨_, rfl⟩
  rw [hxf, hxk]
  have L12 : Later w1 (w1.alloc (.cells #[.bool xf, .int .i64 xk, .slice xa xl xc] 32)) := Below.box _ _
  have HB2 : Hid (Below w.heap.size w _) := HB1.out.trans (Below.mono L12 HB1.out.size)
  have HSm := rSame_any x y ⟨xa, xl, xc⟩ ⟨ya, yl, yc⟩ _ (hRA.later L12) ((HRy.out.later L01).later L12)
  rw [hxf, hxk, HYf.out, HYk.out] at HSm
  have HSm := Lib.hid HSm
  have hby := HBy.out.bel L01 HBy.out.lt
  have y0 : w1.cell? ⟨w.heap.size + 1, 0, none⟩ = some (.bool yf) := hby.cell 0
  have y1 : w1.cell? ⟨w.heap.size + 1, 1, none⟩ = some (.int .i64 yk) := hby.cell 1
  have y2 : w1.cell? ⟨w.heap.size + 1, 2, none⟩ = some (.slice ya yl yc) := hby.cell 2
  have ylt := hby.lt
  obtain ⟨sh, hsh⟩ : ∃ sh, n.shaped = sh := ⟨_, rfl⟩
  rw [hsh] at hx ⊢
  have HX := Lib.hid hx
  have HSh := Lib.hid hsh
  clear hsh hx hRA L01 hxf hxk hby L12
  cases sh with
  | false =>
    go_wp2
    go_ret
    exact ⟨by simp [HSh.out], HB2.out⟩
  | true =>
    have hxe := HX.out rfl
    subst hxe
    go_wp2_with fail
    refine HSm.out.mono ?_
    rintro e w3 ⟨rfl, L23⟩
    have HB3 : Hid (Below w.heap.size w w3) := HB2.out.trans (Below.mono L23 HB2.out.size)
    clear L23 y0 y1 y2 ylt
    go_wp2
    go_ret
    exact ⟨by simp [HSh.out], HB3.out⟩
end Go.Proofs.Ytlcphgomhhejbaa

/- The walk of the law NodeBack. -/
namespace Go.Proofs.Ytlcphgomhhejbaa
open Go.RowKit

theorem Bs.later {w w' : World} {a : Option Addr} {l : List Nat} (h : Bs w.heap.size w a l) (hb : Below w.heap.size w w') : Bs w'.heap.size w' a l := (h.below hb).mono hb.size
theorem writeN_ok {n : Nd} (h : n.ok = true) (h5 : (encN n.asR).length ≤ 512) : writeN n = (pageN n.asR, 0) := by unfold writeN; rw [h, if_pos rfl, if_pos h5]
theorem writeN_long {n : Nd} (h : n.ok = true) (h5 : ¬ (encN n.asR).length ≤ 512) : writeN n = ([], 2) := by unfold writeN; rw [h, if_pos rfl, if_neg h5]
theorem writeN_no {n : Nd} (h : n.ok = false) : writeN n = ([], 3) := by unfold writeN; rw [h]; rfl
/-- What was read is a right node of at most a page. -/
theorem read_write {b : List Nat} {x : Rn} (hb : ∀ c ∈ b, c < 256) (h : decN b = some x) : writeN x.asN = (b, 0) := by
  obtain ⟨h1, h2, h3⟩ := page_decN hb h
  have h4 := asR_asN h1.plain
  have h5 : x.asN.ok = true := by rw [ok_asN h1.plain]; exact Rn.ok_yes h1
  rw [writeN_ok h5 (by rw [h4.1]; exact h2), h4.1, h3]

set_option maxRecDepth 100000 in
set_option maxHeartbeats 8000000 in
theorem nodeBack_walk (n : Nd) (m : NB) (a : Option Addr) (len cap : Nat) (z : List Int) (w : World) (hin : NIn w n m) (hr : IsRow .u8 w a len cap z) :
    Calls Try.prog 6 #[m.v n.leaf, .slice a len cap] w fun e w' => e = .returned (.bool true) ∧ Below w.heap.size w w' := by
  obtain ⟨b, rfl, hbs, hlc, hcm⟩ := hr.bs
  have hbx := Below.box w (.cells #[.bool n.leaf, .slice m.ka m.kl m.kc, .slice m.ca m.cl m.cc, .slice m.da m.dl m.dc] 26)
  have HGr := Lib.hid (NGreat_any n m _ (hin.later hbx))
  have HAl := Lib.hid alive_any10
  have HIn := Lib.hid hin
  have HBs := Lib.hid hbs
  have HBx := Lib.hid hbx
  have hblk0 := Blk.new w 26 #[.bool n.leaf, .slice m.ka m.kl m.kc, .slice m.ca m.cl m.cc, .slice m.da m.dl m.dc]
  have HBlk0 := Lib.hid hblk0
  obtain ⟨lf, hlf⟩ : ∃ lf, n.leaf = lf := ⟨_, rfl⟩
  rw [hlf] at HGr HBx HBlk0 ⊢
  have HLf := Lib.hid hlf
  clear hin hr hbs hbx hblk0 hlf
  obtain ⟨ka, kl, kc, ca, cl, cc, da, dl, dc⟩ := m
  simp only at *
  go_enter Try.func6, Try.ntmps6
  go_wp2_with fail
  refine HGr.out.mono ?_
  rintro e w1 ⟨r, rfl, hfit, hb1⟩
  have L01 : Later _ w1 := hb1
  have HB1 : Hid (Below w.heap.size w w1) := HBx.out.trans (Below.mono L01 HBx.out.size)
  cases r with
  | true =>
    clear hfit hb1 L01
    go_wp2_with fail
    refine (HAl.out _).mono ?_
    rintro e w2 ⟨rfl, hb2⟩
    go_wp2
    go_ret
    exact ⟨rfl, HB1.out.trans (Below.mono hb2 HB1.out.size)⟩
  | false =>
    have HF := Lib.hid (hfit rfl)
    have HNA := Lib.hid (HIn.out.at_ HF.out)
    by_cases h600 : 600 < b.length
    · have q : decide ((600 : Int) < (b.length : Int)) = true := by simp; omega
      clear hfit hb1 L01
      go_wp2_with fail
      refine (HAl.out _).mono ?_
      rintro e w2 ⟨rfl, hb2⟩
      go_wp2
      go_ret
      exact ⟨rfl, HB1.out.trans (Below.mono hb2 HB1.out.size)⟩
    · have q : decide ((600 : Int) < (b.length : Int)) = false := by simp; omega
      have HBk1 : Hid (Blk w1 w.heap.size 26 #[.bool lf, .slice ka kl kc, .slice ca cl cc, .slice da dl dc]) := HBlk0.out.bel L01 HBlk0.out.lt
      have hkl : kl ≤ 60 := by have := HF.out.kn; have := HNA.out.hk; simp only at this; omega
      clear hfit hb1 L01
      have x0 : w1.cell? ⟨w.heap.size, 0, none⟩ = some (.bool lf) := Blk.cell HBk1.out 0
      have x1 : w1.cell? ⟨w.heap.size, 1, none⟩ = some (.slice ka kl kc) := Blk.cell HBk1.out 1
      have x2 : w1.cell? ⟨w.heap.size, 2, none⟩ = some (.slice ca cl cc) := Blk.cell HBk1.out 2
      have x3 : w1.cell? ⟨w.heap.size, 3, none⟩ = some (.slice da dl dc) := Blk.cell HBk1.out 3
      have xlt : w.heap.size < w1.heap.size := Blk.lt HBk1.out
      have HW := fun X (hb : Below w.heap.size w X) => NWrite_any n ⟨ka, kl, kc, ca, cl, cc, da, dl, dc⟩ X (HNA.out.later hb) (by simp only; omega)
      rw [HLf.out] at HW
      have HRt := fun X (hb : Below w.heap.size w X) => NRight_any n ⟨ka, kl, kc, ca, cl, cc, da, dl, dc⟩ X (HNA.out.later hb)
      rw [HLf.out] at HRt
      have HRt := Lib.hid HRt
      have HSz := fun X (hb : Below w.heap.size w X) => NSize_any n ⟨ka, kl, kc, ca, cl, cc, da, dl, dc⟩ X (HNA.out.later hb) (by simp only; omega)
      rw [HLf.out] at HSz
      have HRd := Lib.hid (fun X (hb : Below w.heap.size w X) => NRead_any b a b.length cap X (HBs.out.later hb) rfl hlc (by omega))
      cases hok : n.ok with
      | false =>
        rw [writeN_no hok] at HW
        have HW := Lib.hid HW
        rw [hok] at HRt
        have HSz := Lib.hid HSz
        clear hok
        go_wp2_with fail
        refine (HW.out w1 HB1.out).mono ?_
        rintro e w2 ⟨a2, c2, rfl, _, _, _, L12⟩
        have HB2 : Hid (Below w.heap.size w w2) := HB1.out.trans (Below.mono L12 HB1.out.size)
        have HBk2 := Lib.hid (HBk1.out.bel L12 HBk1.out.lt)
        clear L12 x0 x1 x2 x3 xlt
        cases hdec : decN b with
        | none =>
          have HRd2 := HRd.out w2 HB2.out
          have hrd : rdNd b = (zeroN, 3) := rdNd_no hdec
          have HRD := Lib.hid hrd
          clear hrd hdec
          go_wp2_with fail
          refine HRd2.mono ?_
          rintro e w5 ⟨m5, rfl, hN5, hm5, L5⟩
          rw [HRD.out] at hN5 ⊢
          rw [show (((zeroN, (3 : Int)) : Nd × Int).1).leaf = false from rfl]
          replace hN5 : NAt w5 zeroN m5 := hN5
          have HB5 : Hid (Below w.heap.size w w5) := HB2.out.trans (Below.mono L5 HB2.out.size)
          have L56 : Later w5 (w5.alloc (.cells #[.bool false, .slice m5.ka m5.kl m5.kc, .slice m5.ca m5.cl m5.cc, .slice m5.da m5.dl m5.dc] 26)) := Below.box _ _
          have HW6 := NWrite_any zeroN m5 _ (hN5.later L56) (by omega)
          rw [zeroN_write] at HW6
          rw [show zeroN.leaf = false from rfl] at HW6
          have HW6 := Lib.hid HW6
          have HB6 : Hid (Below w.heap.size w _) := HB5.out.trans (Below.mono L56 HB5.out.size)
          have HBk6 := Lib.hid ((HBk2.out.bel L5 HBk2.out.lt).alloc (.cells #[.bool false, .slice m5.ka m5.kl m5.kc, .slice m5.ca m5.cl m5.cc, .slice m5.da m5.dl m5.dc] 26))
          clear HRd2 hN5 L5 L56
          go_wp2_with fail
          refine HW6.out.mono ?_
          rintro e w7 ⟨a7, c7, rfl, hc7, hm7, hbs7, L67⟩
          have HB7 : Hid (Below w.heap.size w w7) := HB6.out.trans (Below.mono L67 HB6.out.size)
          have HBk7 := Lib.hid (HBk6.out.bel L67 HBk6.out.lt)
          have HBs7 := Lib.hid hbs7
          clear L67 hbs7 HW6 HB6 HBk6
          go_wp2_with fail
          refine (HAl.out _).mono ?_
          rintro e w8 ⟨rfl, L78⟩
          have HB8 : Hid (Below w.heap.size w w8) := HB7.out.trans (Below.mono L78 HB7.out.size)
          have HBk8 := Lib.hid (HBk7.out.bel L78 HBk7.out.lt)
          have HBs8 := Lib.hid (HBs7.out.later L78)
          have x0 : w8.cell? ⟨w.heap.size, 0, none⟩ = some (.bool lf) := Blk.cell HBk8.out 0
          have x1 : w8.cell? ⟨w.heap.size, 1, none⟩ = some (.slice ka kl kc) := Blk.cell HBk8.out 1
          have x2 : w8.cell? ⟨w.heap.size, 2, none⟩ = some (.slice ca cl cc) := Blk.cell HBk8.out 2
          have x3 : w8.cell? ⟨w.heap.size, 3, none⟩ = some (.slice da dl dc) := Blk.cell HBk8.out 3
          have xlt : w.heap.size < w8.heap.size := Blk.lt HBk8.out
          clear L78 HBk7 HBs7
          go_wp2_with fail
          refine (HRt.out w8 HB8.out).mono ?_
          rintro e w9 ⟨rfl, L89⟩
          have HB9 : Hid (Below w.heap.size w w9) := HB8.out.trans (Below.mono L89 HB8.out.size)
          have HBk9 := Lib.hid (HBk8.out.bel L89 HBk8.out.lt)
          have HBs9 := Lib.hid (HBs8.out.later L89)
          clear L89
          go_wp2
          go_ret
          exact ⟨rfl, HB9.out⟩
        | some x =>
          have HRd2 := HRd.out w2 HB2.out
          have hrd : rdNd b = (x.asN, 0) := rdNd_yes hdec
          have HWr : Hid (writeN x.asN = (b, 0)) := read_write HBs.out.1 hdec
          have HRD := Lib.hid hrd
          clear hrd hdec
          go_wp2_with fail
          refine HRd2.mono ?_
          rintro e w5 ⟨m5, rfl, hN5, hm5, L5⟩
          rw [HRD.out] at hN5 ⊢
          rw [show (((x.asN, (0 : Int)) : Nd × Int).1).leaf = x.asN.leaf from rfl]
          replace hN5 : NAt w5 x.asN m5 := hN5
          have HB5 : Hid (Below w.heap.size w w5) := HB2.out.trans (Below.mono L5 HB2.out.size)
          have L56 : Later w5 (w5.alloc (.cells #[.bool x.asN.leaf, .slice m5.ka m5.kl m5.kc, .slice m5.ca m5.cl m5.cc, .slice m5.da m5.dl m5.dc] 26)) := Below.box _ _
          have HW6 := NWrite_any x.asN m5 _ (hN5.later L56) (by omega)
          rw [HWr.out] at HW6
          have HW6 := Lib.hid HW6
          have HB6 : Hid (Below w.heap.size w _) := HB5.out.trans (Below.mono L56 HB5.out.size)
          have HBk6 := Lib.hid ((HBk2.out.bel L5 HBk2.out.lt).alloc (.cells #[.bool x.asN.leaf, .slice m5.ka m5.kl m5.kc, .slice m5.ca m5.cl m5.cc, .slice m5.da m5.dl m5.dc] 26))
          clear HRd2 hN5 L5 L56
          go_wp2_with fail
          refine HW6.out.mono ?_
          rintro e w7 ⟨a7, c7, rfl, hc7, hm7, hbs7, L67⟩
          have HB7 : Hid (Below w.heap.size w w7) := HB6.out.trans (Below.mono L67 HB6.out.size)
          have HBk7 := Lib.hid (HBk6.out.bel L67 HBk6.out.lt)
          have HBs7 := Lib.hid hbs7
          clear L67 hbs7 HW6 HB6 HBk6
          go_wp2_with fail
          refine (HAl.out _).mono ?_
          rintro e w8 ⟨rfl, L78⟩
          have HB8 : Hid (Below w.heap.size w w8) := HB7.out.trans (Below.mono L78 HB7.out.size)
          have HBk8 := Lib.hid (HBk7.out.bel L78 HBk7.out.lt)
          have HBs8 := Lib.hid (HBs7.out.later L78)
          have x0 : w8.cell? ⟨w.heap.size, 0, none⟩ = some (.bool lf) := Blk.cell HBk8.out 0
          have x1 : w8.cell? ⟨w.heap.size, 1, none⟩ = some (.slice ka kl kc) := Blk.cell HBk8.out 1
          have x2 : w8.cell? ⟨w.heap.size, 2, none⟩ = some (.slice ca cl cc) := Blk.cell HBk8.out 2
          have x3 : w8.cell? ⟨w.heap.size, 3, none⟩ = some (.slice da dl dc) := Blk.cell HBk8.out 3
          have xlt : w.heap.size < w8.heap.size := Blk.lt HBk8.out
          clear L78 HBk7 HBs7
          go_wp2_with fail
          refine (HRt.out w8 HB8.out).mono ?_
          rintro e w9 ⟨rfl, L89⟩
          have HB9 : Hid (Below w.heap.size w w9) := HB8.out.trans (Below.mono L89 HB8.out.size)
          have HBk9 := Lib.hid (HBk8.out.bel L89 HBk8.out.lt)
          have HBs9 := Lib.hid (HBs8.out.later L89)
          clear L89
          have cv1 := HBs9.out.conv 27 5 Try.underlying27 Try.underlying5 9 Try.underlying9 b.length c7 rfl
          have cv2 := (HBs.out.later HB9.out).conv 27 5 Try.underlying27 Try.underlying5 9 Try.underlying9 b.length cap rfl
          go_wp2
          go_ret
          exact ⟨rfl, HB9.out⟩
      | true =>
        rw [hok] at HRt HSz
        by_cases h5 : (encN n.asR).length ≤ 512
        · rw [writeN_ok hok h5] at HW
          have hrd : rdNd (pageN n.asR) = (n, 0) := by rw [rdNd_yes (decN_page (Nd.ok_true hok).asR h5), (asN_asR (Nd.ok_true hok).shaped).1]
          have hpl := pageN_len h5
          have HW := Lib.hid HW
          rw [if_pos rfl] at HSz
          generalize (encN n.asR).length = E at HSz h5
          have HSz := Lib.hid HSz
          have q5 : decide ((E : Int) ≤ 512) = true := by simp; omega
          have HRDn := Lib.hid hrd
          have HPl := Lib.hid hpl
          clear hok hrd hpl
          go_wp2_with fail
          refine (HW.out w1 HB1.out).mono ?_
          rintro e w2 ⟨a2, c2, rfl, hcap2, hcm2, hbs2, L12⟩
          rw [show (((pageN n.asR, (0 : Int)) : List Nat × Int).1).length = 512 from HPl.out] at hcap2 ⊢
          have HB2 : Hid (Below w.heap.size w w2) := HB1.out.trans (Below.mono L12 HB1.out.size)
          have HBk2 := Lib.hid (HBk1.out.bel L12 HBk1.out.lt)
          have HRd1 := Lib.hid (NRead_any (pageN n.asR) a2 512 c2 w2 hbs2 HPl.out.symm hcap2 (by omega))
          clear L12 x0 x1 x2 x3 xlt hbs2
          go_wp2_with fail
          refine HRd1.out.mono ?_
          rintro e w3 ⟨m3, rfl, hN3, hm3, L23⟩
          rw [HRDn.out] at hN3 ⊢
          rw [show (((n, (0 : Int)) : Nd × Int).1).leaf = lf from HLf.out]
          replace hN3 : NAt w3 n m3 := hN3
          have HB3 : Hid (Below w.heap.size w w3) := HB2.out.trans (Below.mono L23 HB2.out.size)
          have L34 : Later w3 (w3.alloc (.cells #[.bool lf, .slice m3.ka m3.kl m3.kc, .slice m3.ca m3.cl m3.cc, .slice m3.da m3.dl m3.dc] 26)) := Below.box _ _
          have HB34 : Hid (Below w.heap.size w _) := HB3.out.trans (Below.mono L34 HB3.out.size)
          have HBk3 := Lib.hid (HBk2.out.bel L23 HBk2.out.lt)
          have HBk34 := Lib.hid (HBk3.out.alloc (.cells #[.bool lf, .slice m3.ka m3.kl m3.kc, .slice m3.ca m3.cl m3.cc, .slice m3.da m3.dl m3.dc] 26))
          have HSm := NSame_any n n m3 ⟨ka, kl, kc, ca, cl, cc, da, dl, dc⟩ _ (hN3.later L34) (HNA.out.later HB34.out)
          rw [decide_eq_true rfl, HLf.out] at HSm
          have HSm := Lib.hid HSm
          have x0 : w3.cell? ⟨w.heap.size, 0, none⟩ = some (.bool lf) := Blk.cell HBk3.out 0
          have x1 : w3.cell? ⟨w.heap.size, 1, none⟩ = some (.slice ka kl kc) := Blk.cell HBk3.out 1
          have x2 : w3.cell? ⟨w.heap.size, 2, none⟩ = some (.slice ca cl cc) := Blk.cell HBk3.out 2
          have x3 : w3.cell? ⟨w.heap.size, 3, none⟩ = some (.slice da dl dc) := Blk.cell HBk3.out 3
          have xlt : w.heap.size < w3.heap.size := Blk.lt HBk3.out
          clear hN3 L23 L34 HRd1
          go_wp2_with fail
          refine HSm.out.mono ?_
          rintro e w4 ⟨rfl, L4⟩
          have HB4 : Hid (Below w.heap.size w w4) := HB34.out.trans (Below.mono L4 HB34.out.size)
          have HBk4 := Lib.hid (HBk34.out.bel L4 HBk34.out.lt)
          clear L4 x0 x1 x2 x3 xlt HSm
          cases hdec : decN b with
          | none =>
            have HRd2 := HRd.out w4 HB4.out
            have hrd : rdNd b = (zeroN, 3) := rdNd_no hdec
            have HRD := Lib.hid hrd
            clear hrd hdec
            go_wp2_with fail
            refine HRd2.mono ?_
            rintro e w5 ⟨m5, rfl, hN5, hm5, L5⟩
            rw [HRD.out] at hN5 ⊢
            rw [show (((zeroN, (3 : Int)) : Nd × Int).1).leaf = false from rfl]
            replace hN5 : NAt w5 zeroN m5 := hN5
            have HB5 : Hid (Below w.heap.size w w5) := HB4.out.trans (Below.mono L5 HB4.out.size)
            have L56 : Later w5 (w5.alloc (.cells #[.bool false, .slice m5.ka m5.kl m5.kc, .slice m5.ca m5.cl m5.cc, .slice m5.da m5.dl m5.dc] 26)) := Below.box _ _
            have HW6 := NWrite_any zeroN m5 _ (hN5.later L56) (by omega)
            rw [zeroN_write] at HW6
            rw [show zeroN.leaf = false from rfl] at HW6
            have HW6 := Lib.hid HW6
            have HB6 : Hid (Below w.heap.size w _) := HB5.out.trans (Below.mono L56 HB5.out.size)
            have HBk6 := Lib.hid ((HBk4.out.bel L5 HBk4.out.lt).alloc (.cells #[.bool false, .slice m5.ka m5.kl m5.kc, .slice m5.ca m5.cl m5.cc, .slice m5.da m5.dl m5.dc] 26))
            clear HRd2 hN5 L5 L56
            go_wp2_with fail
            refine HW6.out.mono ?_
            rintro e w7 ⟨a7, c7, rfl, hc7, hm7, hbs7, L67⟩
            have HB7 : Hid (Below w.heap.size w w7) := HB6.out.trans (Below.mono L67 HB6.out.size)
            have HBk7 := Lib.hid (HBk6.out.bel L67 HBk6.out.lt)
            have HBs7 := Lib.hid hbs7
            clear L67 hbs7 HW6 HB6 HBk6
            go_wp2_with fail
            refine (HAl.out _).mono ?_
            rintro e w8 ⟨rfl, L78⟩
            have HB8 : Hid (Below w.heap.size w w8) := HB7.out.trans (Below.mono L78 HB7.out.size)
            have HBk8 := Lib.hid (HBk7.out.bel L78 HBk7.out.lt)
            have HBs8 := Lib.hid (HBs7.out.later L78)
            have x0 : w8.cell? ⟨w.heap.size, 0, none⟩ = some (.bool lf) := Blk.cell HBk8.out 0
            have x1 : w8.cell? ⟨w.heap.size, 1, none⟩ = some (.slice ka kl kc) := Blk.cell HBk8.out 1
            have x2 : w8.cell? ⟨w.heap.size, 2, none⟩ = some (.slice ca cl cc) := Blk.cell HBk8.out 2
            have x3 : w8.cell? ⟨w.heap.size, 3, none⟩ = some (.slice da dl dc) := Blk.cell HBk8.out 3
            have xlt : w.heap.size < w8.heap.size := Blk.lt HBk8.out
            clear L78 HBk7 HBs7
            go_wp2_with fail
            refine (HRt.out w8 HB8.out).mono ?_
            rintro e w9 ⟨rfl, L89⟩
            have HB9 : Hid (Below w.heap.size w w9) := HB8.out.trans (Below.mono L89 HB8.out.size)
            have HBk9 := Lib.hid (HBk8.out.bel L89 HBk8.out.lt)
            have HBs9 := Lib.hid (HBs8.out.later L89)
            clear L89
            have x0 : w9.cell? ⟨w.heap.size, 0, none⟩ = some (.bool lf) := Blk.cell HBk9.out 0
            have x1 : w9.cell? ⟨w.heap.size, 1, none⟩ = some (.slice ka kl kc) := Blk.cell HBk9.out 1
            have x2 : w9.cell? ⟨w.heap.size, 2, none⟩ = some (.slice ca cl cc) := Blk.cell HBk9.out 2
            have x3 : w9.cell? ⟨w.heap.size, 3, none⟩ = some (.slice da dl dc) := Blk.cell HBk9.out 3
            have xlt : w.heap.size < w9.heap.size := Blk.lt HBk9.out
            go_wp2_with fail
            refine (HSz.out w9 HB9.out).mono ?_
            rintro e w10 ⟨rfl, L9⟩
            have HB10 : Hid (Below w.heap.size w w10) := HB9.out.trans (Below.mono L9 HB9.out.size)
            have HBs10 := Lib.hid (HBs9.out.later L9)
            clear L9
            go_wp2
            go_ret
            exact ⟨rfl, HB10.out⟩
          | some x =>
            have HRd2 := HRd.out w4 HB4.out
            have hrd : rdNd b = (x.asN, 0) := rdNd_yes hdec
            have HWr : Hid (writeN x.asN = (b, 0)) := read_write HBs.out.1 hdec
            have HRD := Lib.hid hrd
            clear hrd hdec
            go_wp2_with fail
            refine HRd2.mono ?_
            rintro e w5 ⟨m5, rfl, hN5, hm5, L5⟩
            rw [HRD.out] at hN5 ⊢
            rw [show (((x.asN, (0 : Int)) : Nd × Int).1).leaf = x.asN.leaf from rfl]
            replace hN5 : NAt w5 x.asN m5 := hN5
            have HB5 : Hid (Below w.heap.size w w5) := HB4.out.trans (Below.mono L5 HB4.out.size)
            have L56 : Later w5 (w5.alloc (.cells #[.bool x.asN.leaf, .slice m5.ka m5.kl m5.kc, .slice m5.ca m5.cl m5.cc, .slice m5.da m5.dl m5.dc] 26)) := Below.box _ _
            have HW6 := NWrite_any x.asN m5 _ (hN5.later L56) (by omega)
            rw [HWr.out] at HW6
            have HW6 := Lib.hid HW6
            have HB6 : Hid (Below w.heap.size w _) := HB5.out.trans (Below.mono L56 HB5.out.size)
            have HBk6 := Lib.hid ((HBk4.out.bel L5 HBk4.out.lt).alloc (.cells #[.bool x.asN.leaf, .slice m5.ka m5.kl m5.kc, .slice m5.ca m5.cl m5.cc, .slice m5.da m5.dl m5.dc] 26))
            clear HRd2 hN5 L5 L56
            go_wp2_with fail
            refine HW6.out.mono ?_
            rintro e w7 ⟨a7, c7, rfl, hc7, hm7, hbs7, L67⟩
            have HB7 : Hid (Below w.heap.size w w7) := HB6.out.trans (Below.mono L67 HB6.out.size)
            have HBk7 := Lib.hid (HBk6.out.bel L67 HBk6.out.lt)
            have HBs7 := Lib.hid hbs7
            clear L67 hbs7 HW6 HB6 HBk6
            go_wp2_with fail
            refine (HAl.out _).mono ?_
            rintro e w8 ⟨rfl, L78⟩
            have HB8 : Hid (Below w.heap.size w w8) := HB7.out.trans (Below.mono L78 HB7.out.size)
            have HBk8 := Lib.hid (HBk7.out.bel L78 HBk7.out.lt)
            have HBs8 := Lib.hid (HBs7.out.later L78)
            have x0 : w8.cell? ⟨w.heap.size, 0, none⟩ = some (.bool lf) := Blk.cell HBk8.out 0
            have x1 : w8.cell? ⟨w.heap.size, 1, none⟩ = some (.slice ka kl kc) := Blk.cell HBk8.out 1
            have x2 : w8.cell? ⟨w.heap.size, 2, none⟩ = some (.slice ca cl cc) := Blk.cell HBk8.out 2
            have x3 : w8.cell? ⟨w.heap.size, 3, none⟩ = some (.slice da dl dc) := Blk.cell HBk8.out 3
            have xlt : w.heap.size < w8.heap.size := Blk.lt HBk8.out
            clear L78 HBk7 HBs7
            go_wp2_with fail
            refine (HRt.out w8 HB8.out).mono ?_
            rintro e w9 ⟨rfl, L89⟩
            have HB9 : Hid (Below w.heap.size w w9) := HB8.out.trans (Below.mono L89 HB8.out.size)
            have HBk9 := Lib.hid (HBk8.out.bel L89 HBk8.out.lt)
            have HBs9 := Lib.hid (HBs8.out.later L89)
            clear L89
            have x0 : w9.cell? ⟨w.heap.size, 0, none⟩ = some (.bool lf) := Blk.cell HBk9.out 0
            have x1 : w9.cell? ⟨w.heap.size, 1, none⟩ = some (.slice ka kl kc) := Blk.cell HBk9.out 1
            have x2 : w9.cell? ⟨w.heap.size, 2, none⟩ = some (.slice ca cl cc) := Blk.cell HBk9.out 2
            have x3 : w9.cell? ⟨w.heap.size, 3, none⟩ = some (.slice da dl dc) := Blk.cell HBk9.out 3
            have xlt : w.heap.size < w9.heap.size := Blk.lt HBk9.out
            go_wp2_with fail
            refine (HSz.out w9 HB9.out).mono ?_
            rintro e w10 ⟨rfl, L9⟩
            have HB10 : Hid (Below w.heap.size w w10) := HB9.out.trans (Below.mono L9 HB9.out.size)
            have HBs10 := Lib.hid (HBs9.out.later L9)
            clear L9
            have cv1 := HBs10.out.conv 27 5 Try.underlying27 Try.underlying5 9 Try.underlying9 b.length c7 rfl
            have cv2 := (HBs.out.later HB10.out).conv 27 5 Try.underlying27 Try.underlying5 9 Try.underlying9 b.length cap rfl
            go_wp2
            go_ret
            exact ⟨rfl, HB10.out⟩
        · rw [writeN_long hok h5] at HW
          have HW := Lib.hid HW
          rw [if_pos rfl] at HSz
          generalize (encN n.asR).length = E at HSz h5
          have HSz := Lib.hid HSz
          have q5 : decide ((E : Int) ≤ 512) = false := by simp; omega
          clear hok
          go_wp2_with fail
          refine (HW.out w1 HB1.out).mono ?_
          rintro e w2 ⟨a2, c2, rfl, _, _, _, L12⟩
          have HB2 : Hid (Below w.heap.size w w2) := HB1.out.trans (Below.mono L12 HB1.out.size)
          have HBk2 := Lib.hid (HBk1.out.bel L12 HBk1.out.lt)
          clear L12 x0 x1 x2 x3 xlt
          cases hdec : decN b with
          | none =>
            have HRd2 := HRd.out w2 HB2.out
            have hrd : rdNd b = (zeroN, 3) := rdNd_no hdec
            have HRD := Lib.hid hrd
            clear hrd hdec
            go_wp2_with fail
            refine HRd2.mono ?_
            rintro e w5 ⟨m5, rfl, hN5, hm5, L5⟩
            rw [HRD.out] at hN5 ⊢
            rw [show (((zeroN, (3 : Int)) : Nd × Int).1).leaf = false from rfl]
            replace hN5 : NAt w5 zeroN m5 := hN5
            have HB5 : Hid (Below w.heap.size w w5) := HB2.out.trans (Below.mono L5 HB2.out.size)
            have L56 : Later w5 (w5.alloc (.cells #[.bool false, .slice m5.ka m5.kl m5.kc, .slice m5.ca m5.cl m5.cc, .slice m5.da m5.dl m5.dc] 26)) := Below.box _ _
            have HW6 := NWrite_any zeroN m5 _ (hN5.later L56) (by omega)
            rw [zeroN_write] at HW6
            rw [show zeroN.leaf = false from rfl] at HW6
            have HW6 := Lib.hid HW6
            have HB6 : Hid (Below w.heap.size w _) := HB5.out.trans (Below.mono L56 HB5.out.size)
            have HBk6 := Lib.hid ((HBk2.out.bel L5 HBk2.out.lt).alloc (.cells #[.bool false, .slice m5.ka m5.kl m5.kc, .slice m5.ca m5.cl m5.cc, .slice m5.da m5.dl m5.dc] 26))
            clear HRd2 hN5 L5 L56
            go_wp2_with fail
            refine HW6.out.mono ?_
            rintro e w7 ⟨a7, c7, rfl, hc7, hm7, hbs7, L67⟩
            have HB7 : Hid (Below w.heap.size w w7) := HB6.out.trans (Below.mono L67 HB6.out.size)
            have HBk7 := Lib.hid (HBk6.out.bel L67 HBk6.out.lt)
            have HBs7 := Lib.hid hbs7
            clear L67 hbs7 HW6 HB6 HBk6
            go_wp2_with fail
            refine (HAl.out _).mono ?_
            rintro e w8 ⟨rfl, L78⟩
            have HB8 : Hid (Below w.heap.size w w8) := HB7.out.trans (Below.mono L78 HB7.out.size)
            have HBk8 := Lib.hid (HBk7.out.bel L78 HBk7.out.lt)
            have HBs8 := Lib.hid (HBs7.out.later L78)
            have x0 : w8.cell? ⟨w.heap.size, 0, none⟩ = some (.bool lf) := Blk.cell HBk8.out 0
            have x1 : w8.cell? ⟨w.heap.size, 1, none⟩ = some (.slice ka kl kc) := Blk.cell HBk8.out 1
            have x2 : w8.cell? ⟨w.heap.size, 2, none⟩ = some (.slice ca cl cc) := Blk.cell HBk8.out 2
            have x3 : w8.cell? ⟨w.heap.size, 3, none⟩ = some (.slice da dl dc) := Blk.cell HBk8.out 3
            have xlt : w.heap.size < w8.heap.size := Blk.lt HBk8.out
            clear L78 HBk7 HBs7
            go_wp2_with fail
            refine (HRt.out w8 HB8.out).mono ?_
            rintro e w9 ⟨rfl, L89⟩
            have HB9 : Hid (Below w.heap.size w w9) := HB8.out.trans (Below.mono L89 HB8.out.size)
            have HBk9 := Lib.hid (HBk8.out.bel L89 HBk8.out.lt)
            have HBs9 := Lib.hid (HBs8.out.later L89)
            clear L89
            have x0 : w9.cell? ⟨w.heap.size, 0, none⟩ = some (.bool lf) := Blk.cell HBk9.out 0
            have x1 : w9.cell? ⟨w.heap.size, 1, none⟩ = some (.slice ka kl kc) := Blk.cell HBk9.out 1
            have x2 : w9.cell? ⟨w.heap.size, 2, none⟩ = some (.slice ca cl cc) := Blk.cell HBk9.out 2
            have x3 : w9.cell? ⟨w.heap.size, 3, none⟩ = some (.slice da dl dc) := Blk.cell HBk9.out 3
            have xlt : w.heap.size < w9.heap.size := Blk.lt HBk9.out
            go_wp2_with fail
            refine (HSz.out w9 HB9.out).mono ?_
            rintro e w10 ⟨rfl, L9⟩
            have HB10 : Hid (Below w.heap.size w w10) := HB9.out.trans (Below.mono L9 HB9.out.size)
            have HBs10 := Lib.hid (HBs9.out.later L9)
            clear L9
            go_wp2
            go_ret
            exact ⟨rfl, HB10.out⟩
          | some x =>
            have HRd2 := HRd.out w2 HB2.out
            have hrd : rdNd b = (x.asN, 0) := rdNd_yes hdec
            have HWr : Hid (writeN x.asN = (b, 0)) := read_write HBs.out.1 hdec
            have HRD := Lib.hid hrd
            clear hrd hdec
            go_wp2_with fail
            refine HRd2.mono ?_
            rintro e w5 ⟨m5, rfl, hN5, hm5, L5⟩
            rw [HRD.out] at hN5 ⊢
            rw [show (((x.asN, (0 : Int)) : Nd × Int).1).leaf = x.asN.leaf from rfl]
            replace hN5 : NAt w5 x.asN m5 := hN5
            have HB5 : Hid (Below w.heap.size w w5) := HB2.out.trans (Below.mono L5 HB2.out.size)
            have L56 : Later w5 (w5.alloc (.cells #[.bool x.asN.leaf, .slice m5.ka m5.kl m5.kc, .slice m5.ca m5.cl m5.cc, .slice m5.da m5.dl m5.dc] 26)) := Below.box _ _
            have HW6 := NWrite_any x.asN m5 _ (hN5.later L56) (by omega)
            rw [HWr.out] at HW6
            have HW6 := Lib.hid HW6
            have HB6 : Hid (Below w.heap.size w _) := HB5.out.trans (Below.mono L56 HB5.out.size)
            have HBk6 := Lib.hid ((HBk2.out.bel L5 HBk2.out.lt).alloc (.cells #[.bool x.asN.leaf, .slice m5.ka m5.kl m5.kc, .slice m5.ca m5.cl m5.cc, .slice m5.da m5.dl m5.dc] 26))
            clear HRd2 hN5 L5 L56
            go_wp2_with fail
            refine HW6.out.mono ?_
            rintro e w7 ⟨a7, c7, rfl, hc7, hm7, hbs7, L67⟩
            have HB7 : Hid (Below w.heap.size w w7) := HB6.out.trans (Below.mono L67 HB6.out.size)
            have HBk7 := Lib.hid (HBk6.out.bel L67 HBk6.out.lt)
            have HBs7 := Lib.hid hbs7
            clear L67 hbs7 HW6 HB6 HBk6
            go_wp2_with fail
            refine (HAl.out _).mono ?_
            rintro e w8 ⟨rfl, L78⟩
            have HB8 : Hid (Below w.heap.size w w8) := HB7.out.trans (Below.mono L78 HB7.out.size)
            have HBk8 := Lib.hid (HBk7.out.bel L78 HBk7.out.lt)
            have HBs8 := Lib.hid (HBs7.out.later L78)
            have x0 : w8.cell? ⟨w.heap.size, 0, none⟩ = some (.bool lf) := Blk.cell HBk8.out 0
            have x1 : w8.cell? ⟨w.heap.size, 1, none⟩ = some (.slice ka kl kc) := Blk.cell HBk8.out 1
            have x2 : w8.cell? ⟨w.heap.size, 2, none⟩ = some (.slice ca cl cc) := Blk.cell HBk8.out 2
            have x3 : w8.cell? ⟨w.heap.size, 3, none⟩ = some (.slice da dl dc) := Blk.cell HBk8.out 3
            have xlt : w.heap.size < w8.heap.size := Blk.lt HBk8.out
            clear L78 HBk7 HBs7
            go_wp2_with fail
            refine (HRt.out w8 HB8.out).mono ?_
            rintro e w9 ⟨rfl, L89⟩
            have HB9 : Hid (Below w.heap.size w w9) := HB8.out.trans (Below.mono L89 HB8.out.size)
            have HBk9 := Lib.hid (HBk8.out.bel L89 HBk8.out.lt)
            have HBs9 := Lib.hid (HBs8.out.later L89)
            clear L89
            have x0 : w9.cell? ⟨w.heap.size, 0, none⟩ = some (.bool lf) := Blk.cell HBk9.out 0
            have x1 : w9.cell? ⟨w.heap.size, 1, none⟩ = some (.slice ka kl kc) := Blk.cell HBk9.out 1
            have x2 : w9.cell? ⟨w.heap.size, 2, none⟩ = some (.slice ca cl cc) := Blk.cell HBk9.out 2
            have x3 : w9.cell? ⟨w.heap.size, 3, none⟩ = some (.slice da dl dc) := Blk.cell HBk9.out 3
            have xlt : w.heap.size < w9.heap.size := Blk.lt HBk9.out
            go_wp2_with fail
            refine (HSz.out w9 HB9.out).mono ?_
            rintro e w10 ⟨rfl, L9⟩
            have HB10 : Hid (Below w.heap.size w w10) := HB9.out.trans (Below.mono L9 HB9.out.size)
            have HBs10 := Lib.hid (HBs9.out.later L9)
            clear L9
            have cv1 := HBs10.out.conv 27 5 Try.underlying27 Try.underlying5 9 Try.underlying9 b.length c7 rfl
            have cv2 := (HBs.out.later HB10.out).conv 27 5 Try.underlying27 Try.underlying5 9 Try.underlying9 b.length cap rfl
            go_wp2
            go_ret
            exact ⟨rfl, HB10.out⟩
end Go.Proofs.Ytlcphgomhhejbaa

/- The walk of the law NodePages. (Made by wip/gen/gennpg.py.) -/
namespace Go.Proofs.Ytlcphgomhhejbaa
open Go.RowKit

/-- As RetAs, with a bound for the parts. -/
def RetAsB (w : World) (n : Nd) (e : Ending) (w' : World) : Prop :=
  ∃ (x : Rn) (mb : RB), e = .returned (.tuple #[mb.v x.leaf x.kid, .bool n.shaped]) ∧ (n.shaped = true → x = n.asR) ∧ RAt w' x mb ∧ Below w.heap.size w w' ∧ mb.ll ≤ n.keys.length

set_option maxRecDepth 100000 in
set_option maxHeartbeats 2000000 in
theorem as_noB (n : Nd) (m : NB) (w : World) (h : NAt w n m) (hs : n.shaped = false) :
    Calls Try.prog 10 #[m.v n.leaf] w (RetAsB w n) := by
  have HX : Hid (∀ W, Below w.heap.size w W → RetAsB w n (.returned (.tuple #[.agg #[.bool n.leaf, .int .i64 0, .slice none 0 0], .bool false])) W) := fun W hb =>
    ⟨⟨n.leaf, 0, []⟩, ⟨none, 0, 0⟩, by rw [hs], by rw [hs]; simp, RAt_empty _ _ _ (by omega), hb, Nat.zero_le _⟩
  have hk := h.hk
  have hc := h.hc
  have hd := h.hd
  have kmax := h.kmax
  have cmax := h.cmax
  have dmax := h.dmax
  clear h
  obtain ⟨ka, kl, kc, ca, cl, cc, da, dl, dc⟩ := m
  obtain ⟨leaf, ks, cs, ps⟩ := n
  have hways : (leaf = true ∧ (cl ≠ kl ∨ (cl = kl ∧ 0 < dl))) ∨ (leaf = false ∧ (dl ≠ kl + 1 ∨ (dl = kl + 1 ∧ 0 < cl))) := by
    unfold Nd.shaped at hs
    simp only at hs hk hc hd
    cases leaf with
    | true =>
      simp only [if_true, decide_eq_false_iff_not] at hs
      left; refine ⟨rfl, ?_⟩; omega
    | false =>
      simp only [Bool.false_eq_true, if_false, decide_eq_false_iff_not] at hs
      right; refine ⟨rfl, ?_⟩; omega
  simp only at *
  clear hk hc hd hs
  generalize hRR : RetAsB w ⟨leaf, ks, cs, ps⟩ = RR at *
  clear hRR
  rcases hways with ⟨rfl, h1 | ⟨h1, h2⟩⟩ | ⟨rfl, h1 | ⟨h1, h2⟩⟩
  · have q1 : ((cl : Int) != (kl : Int)) = true := by simp; omega
    go_enter Try.func10, Try.ntmps10
    go_wp2
    refine bodyPost_ret (v := .tuple #[.agg #[.bool true, .int .i64 0, .slice none 0 0], .bool false]) (by simp [results, Try.results10, go_sem]) rfl (HX.out _ ?_)
    exact (((Below.refl _ w).alloc (Nat.le_refl _) _).alloc (by simp) _).alloc (by simp; omega) _
  · have q1 : ((cl : Int) != (kl : Int)) = false := by simp; omega
    go_enter Try.func10, Try.ntmps10
    go_wp2
    refine bodyPost_ret (v := .tuple #[.agg #[.bool true, .int .i64 0, .slice none 0 0], .bool false]) (by simp [results, Try.results10, go_sem]) rfl (HX.out _ ?_)
    exact (((Below.refl _ w).alloc (Nat.le_refl _) _).alloc (by simp) _).alloc (by simp; omega) _
  · have q1 : ((dl : Int) != (kl : Int) + 1) = true := by simp; omega
    go_enter Try.func10, Try.ntmps10
    go_wp2
    refine bodyPost_ret (v := .tuple #[.agg #[.bool false, .int .i64 0, .slice none 0 0], .bool false]) (by simp [results, Try.results10, go_sem]) rfl (HX.out _ ?_)
    exact (((Below.refl _ w).alloc (Nat.le_refl _) _).alloc (by simp) _).alloc (by simp; omega) _
  · have q1 : ((dl : Int) != (kl : Int) + 1) = false := by simp; omega
    go_enter Try.func10, Try.ntmps10
    go_wp2
    refine bodyPost_ret (v := .tuple #[.agg #[.bool false, .int .i64 0, .slice none 0 0], .bool false]) (by simp [results, Try.results10, go_sem]) rfl (HX.out _ ?_)
    exact (((Below.refl _ w).alloc (Nat.le_refl _) _).alloc (by simp) _).alloc (by simp; omega) _

theorem NAsB_any (n : Nd) (m : NB) (w : World) (h : NAt w n m) (hbig : m.kl ≤ 100000000) :
    Calls Try.prog 10 #[m.v n.leaf] w (RetAsB w n) := by
  cases hs : n.shaped with
  | false => exact as_noB n m w h hs
  | true =>
    refine (NAs_any n m w h hbig).mono ?_
    rintro e w' ⟨x, mb, h1, h2, h3, h4⟩
    refine ⟨x, mb, h1, h2, h3, h4, ?_⟩
    have h5 := h2 hs
    subst h5
    rw [h3.hl, asR_len hs]
    exact Nat.le_refl _
theorem ok_same {n : Nd} (h : n.shaped = true) : n.asR.ok = n.ok := by
  cases h2 : n.ok with
  | true => exact Rn.ok_yes (Nd.ok_true h2).asR
  | false =>
    refine Rn.ok_no fun h3 => ?_
    have := Nd.ok_eq (n := n) (b := true) ⟨fun _ => rfl, fun _ => (ok_iff n).2 ⟨h, h3⟩⟩
    rw [h2] at this; cases this
theorem ok_not {n : Nd} (h : n.shaped = false) : n.ok = false := by
  cases h2 : n.ok with
  | false => rfl
  | true => have := (Nd.ok_true h2).shaped; rw [h] at this; cases this
theorem asR_inj {n m : Nd} (hn : n.shaped = true) (hm : m.shaped = true) : (decide (n = m)) = decide (n.asR = m.asR) := by
  rw [Bool.eq_iff_iff]
  simp only [decide_eq_true_eq]
  constructor
  · rintro rfl; rfl
  · intro h; rw [← (asN_asR hn).1, ← (asN_asR hm).1, h]

/-- The law's two nodes, the document's of each, and the bytes. -/
structure PG (w : World) (lf mf : Bool) (nb mb : NB) (n m : Nd) (x y : Rn) (mx my : RB) (gx gy : Nat) (ba : Option Addr) (b : List Nat) (W : World) : Prop where
  n0 : Blk W w.heap.size 26 #[.bool lf, .slice nb.ka nb.kl nb.kc, .slice nb.ca nb.cl nb.cc, .slice nb.da nb.dl nb.dc]
  m0 : Blk W (w.heap.size + 1) 26 #[.bool mf, .slice mb.ka mb.kl mb.kc, .slice mb.ca mb.cl mb.cc, .slice mb.da mb.dl mb.dc]
  x0 : Blk W gx 32 #[.bool x.leaf, .int .i64 x.kid, .slice mx.la mx.ll mx.lc]
  y0 : Blk W gy 32 #[.bool y.leaf, .int .i64 y.kid, .slice my.la my.ll my.lc]
  nn : NAt W n nb
  nm : NAt W m mb
  ax : RAt W x mx
  ay : RAt W y my
  bs : Bs W.heap.size W ba b
  bel : Below w.heap.size w W
theorem PG.go {w : World} {lf mf : Bool} {nb mb : NB} {n m : Nd} {x y : Rn} {mx my : RB} {gx gy : Nat} {ba : Option Addr} {b : List Nat} {W W' : World} (h : PG w lf mf nb mb n m x y mx my gx gy ba b W) (hb : Below W.heap.size W W') : PG w lf mf nb mb n m x y mx my gx gy ba b W' :=
  ⟨h.n0.bel hb h.n0.lt, h.m0.bel hb h.m0.lt, h.x0.bel hb h.x0.lt, h.y0.bel hb h.y0.lt, h.nn.later hb, h.nm.later hb, h.ax.later hb, h.ay.later hb, (h.bs.below hb).mono hb.size, h.bel.trans (hb.mono h.bel.size)⟩

set_option maxRecDepth 100000 in
set_option maxHeartbeats 16000000 in
theorem nodePages_walk (n m : Nd) (nb mb : NB) (ba : Option Addr) (len cap : Nat) (z : List Int) (w : World) (hin : NIn w n nb) (him : NIn w m mb) (hr : IsRow .u8 w ba len cap z) :
    Calls Try.prog 3 #[nb.v n.leaf, mb.v m.leaf, .slice ba len cap] w fun e w' => e = .returned (.bool true) ∧ Below w.heap.size w w' := by
  obtain ⟨b, rfl, hbs, hlc, hcm⟩ := hr.bs
  obtain ⟨W0, hW0⟩ : ∃ W0, (w.alloc (.cells #[.bool n.leaf, .slice nb.ka nb.kl nb.kc, .slice nb.ca nb.cl nb.cc, .slice nb.da nb.dl nb.dc] 26)).alloc (.cells #[.bool m.leaf, .slice mb.ka mb.kl mb.kc, .slice mb.ca mb.cl mb.cc, .slice mb.da mb.dl mb.dc] 26) = W0 := ⟨_, rfl⟩
  have hb0 : Below w.heap.size w W0 := by rw [← hW0]; exact ((Below.refl _ w).alloc (Nat.le_refl _) _).alloc (by simp) _
  have hk0 : Blk W0 w.heap.size 26 #[.bool n.leaf, .slice nb.ka nb.kl nb.kc, .slice nb.ca nb.cl nb.cc, .slice nb.da nb.dl nb.dc] := by rw [← hW0]; exact (Blk.new w _ _).alloc _
  have hk1 : Blk W0 (w.heap.size + 1) 26 #[.bool m.leaf, .slice mb.ka mb.kl mb.kc, .slice mb.ca mb.cl mb.cc, .slice mb.da mb.dl mb.dc] := by
    have h1 := Blk.new (w.alloc (.cells #[.bool n.leaf, .slice nb.ka nb.kl nb.kc, .slice nb.ca nb.cl nb.cc, .slice nb.da nb.dl nb.dc] 26)) 26 #[.bool m.leaf, .slice mb.ka mb.kl mb.kc, .slice mb.ca mb.cl mb.cc, .slice mb.da mb.dl mb.dc]
    rw [show (w.alloc (.cells #[.bool n.leaf, .slice nb.ka nb.kl nb.kc, .slice nb.ca nb.cl nb.cc, .slice nb.da nb.dl nb.dc] 26)).heap.size = w.heap.size + 1 by simp] at h1
    rw [← hW0]; exact h1
  have HAl := Lib.hid alive_any10
  have HIn := Lib.hid (hin.later hb0)
  have HIm := Lib.hid (him.later hb0)
  have HBs := Lib.hid ((hbs.below hb0).mono hb0.size)
  have HB0 := Lib.hid hb0
  have HGr := Lib.hid (NGreat_any n nb W0 HIn.out)
  have HGm := Lib.hid (fun W (h : Below W0.heap.size W0 W) => NGreat_any m mb W (HIm.out.later h))
  have HN0 := Lib.hid hk0
  have HM0 := Lib.hid hk1
  obtain ⟨lf, hlf⟩ : ∃ lf, n.leaf = lf := ⟨_, rfl⟩
  obtain ⟨mf, hmf⟩ : ∃ mf, m.leaf = mf := ⟨_, rfl⟩
  rw [hlf, hmf] at hW0
  rw [hlf] at HGr HN0
  rw [hmf] at HGm HM0
  rw [hlf, hmf]
  have HLf := Lib.hid hlf
  have HMf := Lib.hid hmf
  clear hin him hr hbs hb0 hk0 hk1 hlf hmf
  obtain ⟨ka, kl, kc, ca, cl, cc, da, dl, dc⟩ := nb
  obtain ⟨ka2, kl2, kc2, ca2, cl2, cc2, da2, dl2, dc2⟩ := mb
  simp only at *
  go_enter Try.func3, Try.ntmps3
  go_upto_region 1 with (fail)
  try rw [hW0]
  clear hW0
  have n0 : W0.cell? ⟨w.heap.size, 0, none⟩ = some (.bool lf) := Blk.cell HN0.out 0
  have n1 : W0.cell? ⟨w.heap.size, 1, none⟩ = some (.slice ka kl kc) := Blk.cell HN0.out 1
  have n2 : W0.cell? ⟨w.heap.size, 2, none⟩ = some (.slice ca cl cc) := Blk.cell HN0.out 2
  have n3 : W0.cell? ⟨w.heap.size, 3, none⟩ = some (.slice da dl dc) := Blk.cell HN0.out 3
  have nlt : w.heap.size < W0.heap.size := Blk.lt HN0.out
  go_wp2_with fail
  clear n0 n1 n2 n3 nlt
  refine HGr.out.mono ?_
  rintro e w1 ⟨r, rfl, hfit, hb1⟩
  have B1 := Lib.hid (HB0.out.trans (Below.mono hb1 HB0.out.size))
  cases r with
  | true =>
    go_wp2_with fail
    refine (HAl.out _).mono ?_
    rintro e w2 ⟨rfl, hb⟩
    go_wp2
    go_ret
    exact ⟨rfl, (B1.out).trans (Below.mono hb (B1.out).size)⟩
  | false =>
    have HF := Lib.hid (hfit rfl)
    have HN1 := Lib.hid (HN0.out.bel hb1 HN0.out.lt)
    have HM1 := Lib.hid (HM0.out.bel hb1 HM0.out.lt)
    have HG1 := Lib.hid (HGm.out w1 hb1)
    have L1 := Lib.hid hb1
    clear hfit hb1 HGr HGm
    have m0 : w1.cell? ⟨w.heap.size + 1, 0, none⟩ = some (.bool mf) := Blk.cell HM1.out 0
    have m1 : w1.cell? ⟨w.heap.size + 1, 1, none⟩ = some (.slice ka2 kl2 kc2) := Blk.cell HM1.out 1
    have m2 : w1.cell? ⟨w.heap.size + 1, 2, none⟩ = some (.slice ca2 cl2 cc2) := Blk.cell HM1.out 2
    have m3 : w1.cell? ⟨w.heap.size + 1, 3, none⟩ = some (.slice da2 dl2 dc2) := Blk.cell HM1.out 3
    have mlt : w.heap.size + 1 < w1.heap.size := Blk.lt HM1.out
    go_wp2_with fail
    clear m0 m1 m2 m3 mlt
    refine HG1.out.mono ?_
    rintro e w2 ⟨r, rfl, hfit, hb2⟩
    have B2 := Lib.hid (B1.out.trans (Below.mono hb2 B1.out.size))
    cases r with
    | true =>
      go_wp2_with fail
      refine (HAl.out _).mono ?_
      rintro e w3 ⟨rfl, hb⟩
      go_wp2
      go_ret
      exact ⟨rfl, (B2.out).trans (Below.mono hb (B2.out).size)⟩
    | false =>
      have HFm := Lib.hid (hfit rfl)
      have HN2 := Lib.hid (HN1.out.bel hb2 HN1.out.lt)
      have HM2 := Lib.hid (HM1.out.bel hb2 HM1.out.lt)
      have L2 := Lib.hid (L1.out.trans (Below.mono hb2 L1.out.size))
      clear hfit hb2 HG1 L1 HN1 HM1 HN0 HM0
      by_cases h600 : 600 < b.length
      · have q : decide ((600 : Int) < (b.length : Int)) = true := by simp; omega
        go_wp2_with fail
        refine (HAl.out _).mono ?_
        rintro e w3 ⟨rfl, hb⟩
        go_wp2
        go_ret
        exact ⟨rfl, (B2.out).trans (Below.mono hb (B2.out).size)⟩
      · have q : decide ((600 : Int) < (b.length : Int)) = false := by simp; omega
        have HNA := Lib.hid ((HIn.out.later L2.out).at_ HF.out)
        have HMA := Lib.hid ((HIm.out.later L2.out).at_ HFm.out)
        have HBs2 := Lib.hid ((HBs.out.below L2.out).mono L2.out.size)
        have hkl : kl ≤ 60 := by have := HF.out.kn; have := HNA.out.hk; simp only at this; omega
        have hkl2 : kl2 ≤ 60 := by have := HFm.out.kn; have := HMA.out.hk; simp only at this; omega
        clear h600 HIn HIm HBs L2
        have HAs := NAsB_any n ⟨ka, kl, kc, ca, cl, cc, da, dl, dc⟩ w2 HNA.out (by simp only; omega)
        rw [HLf.out] at HAs
        have HAs := Lib.hid HAs
        have n0 : w2.cell? ⟨w.heap.size, 0, none⟩ = some (.bool lf) := Blk.cell HN2.out 0
        have n1 : w2.cell? ⟨w.heap.size, 1, none⟩ = some (.slice ka kl kc) := Blk.cell HN2.out 1
        have n2 : w2.cell? ⟨w.heap.size, 2, none⟩ = some (.slice ca cl cc) := Blk.cell HN2.out 2
        have n3 : w2.cell? ⟨w.heap.size, 3, none⟩ = some (.slice da dl dc) := Blk.cell HN2.out 3
        have nlt : w.heap.size < w2.heap.size := Blk.lt HN2.out
        go_wp2_with fail
        clear n0 n1 n2 n3 nlt
        refine HAs.out.mono ?_
        rintro e w3 ⟨x, mx, rfl, hx, hRA, L3, hmx⟩
        have LX : Below w2.heap.size w2 (w3.alloc (.cells #[.bool x.leaf, .int .i64 x.kid, .slice mx.la mx.ll mx.lc] 32)) := Below.trans L3 (((Below.refl w3.heap.size w3).alloc (Nat.le_refl _) (.cells #[.bool x.leaf, .int .i64 x.kid, .slice mx.la mx.ll mx.lc] 32)).mono L3.size)
        have HX := Lib.hid hx
        have hmx60 : mx.ll ≤ 60 := Nat.le_trans hmx HF.out.kn
        have HNX := Lib.hid (HN2.out.bel LX HN2.out.lt)
        have HMX := Lib.hid (HM2.out.bel LX HM2.out.lt)
        have HNAX := Lib.hid (HNA.out.later LX)
        have HMAX := Lib.hid (HMA.out.later LX)
        have HBsX := Lib.hid ((HBs2.out.below LX).mono LX.size)
        have BX := Lib.hid (B2.out.trans (Below.mono LX B2.out.size))
        have HXK := Lib.hid (Blk.new w3 32 #[.bool x.leaf, .int .i64 x.kid, .slice mx.la mx.ll mx.lc])
        have HRX := Lib.hid (hRA.later ((Below.refl w3.heap.size w3).alloc (Nat.le_refl _) (.cells #[.bool x.leaf, .int .i64 x.kid, .slice mx.la mx.ll mx.lc] 32)))
        clear hx hRA L3 hmx LX HAs HN2 HM2 HNA HMA HBs2 B1 B2 HB0
        have HAs := NAsB_any m ⟨ka2, kl2, kc2, ca2, cl2, cc2, da2, dl2, dc2⟩ (w3.alloc (.cells #[.bool x.leaf, .int .i64 x.kid, .slice mx.la mx.ll mx.lc] 32)) HMAX.out (by simp only; omega)
        rw [HMf.out] at HAs
        have HAs := Lib.hid HAs
        have m0 : (w3.alloc (.cells #[.bool x.leaf, .int .i64 x.kid, .slice mx.la mx.ll mx.lc] 32)).cell? ⟨w.heap.size + 1, 0, none⟩ = some (.bool mf) := Blk.cell HMX.out 0
        have m1 : (w3.alloc (.cells #[.bool x.leaf, .int .i64 x.kid, .slice mx.la mx.ll mx.lc] 32)).cell? ⟨w.heap.size + 1, 1, none⟩ = some (.slice ka2 kl2 kc2) := Blk.cell HMX.out 1
        have m2 : (w3.alloc (.cells #[.bool x.leaf, .int .i64 x.kid, .slice mx.la mx.ll mx.lc] 32)).cell? ⟨w.heap.size + 1, 2, none⟩ = some (.slice ca2 cl2 cc2) := Blk.cell HMX.out 2
        have m3 : (w3.alloc (.cells #[.bool x.leaf, .int .i64 x.kid, .slice mx.la mx.ll mx.lc] 32)).cell? ⟨w.heap.size + 1, 3, none⟩ = some (.slice da2 dl2 dc2) := Blk.cell HMX.out 3
        have mlt : w.heap.size + 1 < (w3.alloc (.cells #[.bool x.leaf, .int .i64 x.kid, .slice mx.la mx.ll mx.lc] 32)).heap.size := Blk.lt HMX.out
        obtain ⟨sh, hsh⟩ : ∃ sh, n.shaped = sh := ⟨_, rfl⟩
        rw [hsh] at HX ⊢
        have HSh := Lib.hid hsh
        clear hsh
        go_upto_region 4 with (fail)
        obtain ⟨V3, hV3⟩ : ∃ V3, (w3.alloc (.cells #[.bool x.leaf, .int .i64 x.kid, .slice mx.la mx.ll mx.lc] 32)) = V3 := ⟨_, rfl⟩
        rw [hV3] at HNX HMX HNAX HMAX HBsX BX HXK HRX HAs m0 m1 m2 m3 mlt
        rw [hV3]
        clear hV3
        generalize w3.heap.size = gx at *
        go_wp2_with fail
        clear m0 m1 m2 m3 mlt
        refine HAs.out.mono ?_
        rintro e w4 ⟨y, my, rfl, hy, hRB, L4, hmy⟩
        have hA4 := (Below.refl w4.heap.size w4).alloc (Nat.le_refl _) (.cells #[.bool y.leaf, .int .i64 y.kid, .slice my.la my.ll my.lc] 32)
        have LY : Below V3.heap.size V3 (w4.alloc (.cells #[.bool y.leaf, .int .i64 y.kid, .slice my.la my.ll my.lc] 32)) := Below.trans L4 (hA4.mono L4.size)
        have HP : Hid (PG w lf mf ⟨ka, kl, kc, ca, cl, cc, da, dl, dc⟩ ⟨ka2, kl2, kc2, ca2, cl2, cc2, da2, dl2, dc2⟩ n m x y mx my gx w4.heap.size ba b (w4.alloc (.cells #[.bool y.leaf, .int .i64 y.kid, .slice my.la my.ll my.lc] 32))) :=
          ⟨HNX.out.bel LY HNX.out.lt, HMX.out.bel LY HMX.out.lt, HXK.out.bel LY HXK.out.lt, Blk.new w4 32 #[.bool y.leaf, .int .i64 y.kid, .slice my.la my.ll my.lc], HNAX.out.later LY, HMAX.out.later LY, HRX.out.later LY, hRB.later hA4, (HBsX.out.below LY).mono LY.size, BX.out.trans (Below.mono LY BX.out.size)⟩
        have HY := Lib.hid hy
        clear hy hRB L4 hmy hA4 LY HAs HNX HMX HNAX HMAX HBsX BX HXK HRX
        obtain ⟨fi, hfi⟩ : ∃ fi, m.shaped = fi := ⟨_, rfl⟩
        rw [hfi] at HY ⊢
        have HFi := Lib.hid hfi
        clear hfi
        go_upto_region 5 with (fail)
        obtain ⟨V4, hV4⟩ : ∃ V4, (w4.alloc (.cells #[.bool y.leaf, .int .i64 y.kid, .slice my.la my.ll my.lc] 32)) = V4 := ⟨_, rfl⟩
        rw [hV4] at HP
        rw [hV4]
        clear hV4
        generalize w4.heap.size = gy at *
        cases sh with
        | false =>
          have HOk : Hid (n.ok = false) := ok_not HSh.out
          have HW := NWrite_any n ⟨ka, kl, kc, ca, cl, cc, da, dl, dc⟩ V4 HP.out.nn (by simp only; omega)
          rw [HLf.out] at HW
          rw [writeN_no HOk.out] at HW
          have HW := Lib.hid HW
          have n0 : V4.cell? ⟨w.heap.size, 0, none⟩ = some (.bool lf) := Blk.cell HP.out.n0 0
          have n1 : V4.cell? ⟨w.heap.size, 1, none⟩ = some (.slice ka kl kc) := Blk.cell HP.out.n0 1
          have n2 : V4.cell? ⟨w.heap.size, 2, none⟩ = some (.slice ca cl cc) := Blk.cell HP.out.n0 2
          have n3 : V4.cell? ⟨w.heap.size, 3, none⟩ = some (.slice da dl dc) := Blk.cell HP.out.n0 3
          have nlt : w.heap.size < V4.heap.size := Blk.lt HP.out.n0
          go_wp2_with fail
          clear n0 n1 n2 n3 nlt
          refine (HW.out).mono ?_
          rintro e u1 ⟨wa, wc, rfl, hwc, hwm, hBw, hb⟩
          replace HP := Lib.hid (HP.out.go hb)
          simp only [List.length_nil]
          have HBw := Lib.hid hBw
          clear hb hBw HW
          have HV := rWrite_any x mx u1 HP.out.ax (by omega)
          obtain ⟨⟨vl, ve⟩, hvr⟩ : ∃ r, writeR x = r := ⟨_, rfl⟩
          rw [hvr] at HV
          clear hvr
          have HV := Lib.hid HV
          have x0 : u1.cell? ⟨gx, 0, none⟩ = some (.bool x.leaf) := Blk.cell HP.out.x0 0
          have x1 : u1.cell? ⟨gx, 1, none⟩ = some (.int .i64 x.kid) := Blk.cell HP.out.x0 1
          have x2 : u1.cell? ⟨gx, 2, none⟩ = some (.slice mx.la mx.ll mx.lc) := Blk.cell HP.out.x0 2
          have xlt : gx < u1.heap.size := Blk.lt HP.out.x0
          go_wp2_with fail
          clear x0 x1 x2 xlt
          refine (HV.out).mono ?_
          rintro e u2 ⟨va, vc, rfl, hvc, hvm, hBv, hb⟩
          replace HP := Lib.hid (HP.out.go hb)
          replace HBw := Lib.hid ((HBw.out.below hb).mono hb.size)
          simp only at hBv ⊢
          have HBv := Lib.hid hBv
          clear hb hBv HV
          have HRt := NRight_any n ⟨ka, kl, kc, ca, cl, cc, da, dl, dc⟩ u2 HP.out.nn
          rw [HLf.out, HOk.out] at HRt
          have HRt := Lib.hid HRt
          have n0 : u2.cell? ⟨w.heap.size, 0, none⟩ = some (.bool lf) := Blk.cell HP.out.n0 0
          have n1 : u2.cell? ⟨w.heap.size, 1, none⟩ = some (.slice ka kl kc) := Blk.cell HP.out.n0 1
          have n2 : u2.cell? ⟨w.heap.size, 2, none⟩ = some (.slice ca cl cc) := Blk.cell HP.out.n0 2
          have n3 : u2.cell? ⟨w.heap.size, 3, none⟩ = some (.slice da dl dc) := Blk.cell HP.out.n0 3
          have nlt : w.heap.size < u2.heap.size := Blk.lt HP.out.n0
          go_wp2_with fail
          clear n0 n1 n2 n3 nlt
          refine (HRt.out).mono ?_
          rintro e u4 ⟨rfl, hb⟩
          replace HP := Lib.hid (HP.out.go hb)
          replace HBw := Lib.hid ((HBw.out.below hb).mono hb.size)
          replace HBv := Lib.hid ((HBv.out.below hb).mono hb.size)
          clear hb HRt
          have HSz := NSize_any n ⟨ka, kl, kc, ca, cl, cc, da, dl, dc⟩ u4 HP.out.nn (by simp only; omega)
          rw [HLf.out, HOk.out] at HSz
          simp only [Bool.false_eq_true, if_false] at HSz
          have HSz := Lib.hid HSz
          have n0 : u4.cell? ⟨w.heap.size, 0, none⟩ = some (.bool lf) := Blk.cell HP.out.n0 0
          have n1 : u4.cell? ⟨w.heap.size, 1, none⟩ = some (.slice ka kl kc) := Blk.cell HP.out.n0 1
          have n2 : u4.cell? ⟨w.heap.size, 2, none⟩ = some (.slice ca cl cc) := Blk.cell HP.out.n0 2
          have n3 : u4.cell? ⟨w.heap.size, 3, none⟩ = some (.slice da dl dc) := Blk.cell HP.out.n0 3
          have nlt : w.heap.size < u4.heap.size := Blk.lt HP.out.n0
          go_wp2_with fail
          clear n0 n1 n2 n3 nlt
          refine (HSz.out).mono ?_
          rintro e u5 ⟨rfl, hb⟩
          replace HP := Lib.hid (HP.out.go hb)
          replace HBw := Lib.hid ((HBw.out.below hb).mono hb.size)
          replace HBv := Lib.hid ((HBv.out.below hb).mono hb.size)
          clear hb HSz
          have HRd := NRead_any b ba b.length cap u5 HP.out.bs rfl hlc (by omega)
          have HRd := Lib.hid HRd
          cases hdec : decN b with
          | none =>
            have hrd : rdNd b = (zeroN, 3) := rdNd_no hdec
            have HDec := Lib.hid hdec
            have HRD := Lib.hid hrd
            clear hrd hdec
            go_wp2_with fail
            clear HBw HBv
            refine (HRd.out).mono ?_
            rintro e u6 ⟨mp, rfl, hNp, hmp, hb⟩
            rw [HRD.out] at hNp ⊢
            rw [show (((zeroN, (3 : Int)) : Nd × Int).1).leaf = false from rfl]
            replace hNp : NAt u6 zeroN mp := hNp
            replace HP := Lib.hid (HP.out.go hb)
            have hAp := (Below.refl u6.heap.size u6).alloc (Nat.le_refl _) (.cells #[.bool false, .slice mp.ka mp.kl mp.kc, .slice mp.ca mp.cl mp.cc, .slice mp.da mp.dl mp.dc] 26)
            replace HP := Lib.hid (HP.out.go hAp)
            have HPk := Lib.hid (Blk.new u6 26 #[.bool false, .slice mp.ka mp.kl mp.kc, .slice mp.ca mp.cl mp.cc, .slice mp.da mp.dl mp.dc])
            have HPn := Lib.hid (hNp.later hAp)
            clear hb hNp hAp HRd
            have HRr := rRead_any b ba b.length cap (u6.alloc (.cells #[.bool false, .slice mp.ka mp.kl mp.kc, .slice mp.ca mp.cl mp.cc, .slice mp.da mp.dl mp.dc] 26)) HP.out.bs rfl hlc hcm
            have HRr := Lib.hid HRr
            go_upto_region 14 with (fail)
            obtain ⟨V6, hV6⟩ : ∃ V6, (u6.alloc (.cells #[.bool false, .slice mp.ka mp.kl mp.kc, .slice mp.ca mp.cl mp.cc, .slice mp.da mp.dl mp.dc] 26)) = V6 := ⟨_, rfl⟩
            rw [hV6] at HP HPk HPn HRr
            rw [hV6]
            clear hV6
            generalize u6.heap.size = gp at *
            go_wp2_with fail
            refine (HRr.out).mono ?_
            rintro e u7 ⟨xq, eq, mq, rfl, hq, hRq, hmq, hb⟩
            obtain ⟨rfl, rfl⟩ : eq = 3 ∧ xq = zeroR := by
              rcases hq with ⟨h1, h2⟩ | ⟨h1, h2, h3⟩
              · rw [HDec.out] at h2; cases h2
              · exact ⟨h1, h2⟩
            replace HP := Lib.hid (HP.out.go hb)
            replace HPk := Lib.hid (HPk.out.bel hb HPk.out.lt)
            replace HPn := Lib.hid (HPn.out.later hb)
            have hAq := (Below.refl u7.heap.size u7).alloc (Nat.le_refl _) (.cells #[.bool zeroR.leaf, .int .i64 zeroR.kid, .slice mq.la mq.ll mq.lc] 32)
            replace HP := Lib.hid (HP.out.go hAq)
            replace HPk := Lib.hid (HPk.out.bel hAq HPk.out.lt)
            replace HPn := Lib.hid (HPn.out.later hAq)
            have HQk := Lib.hid (Blk.new u7 32 #[.bool zeroR.leaf, .int .i64 zeroR.kid, .slice mq.la mq.ll mq.lc])
            have HQn := Lib.hid (hRq.later hAq)
            clear hb hRq hAq HRr hq
            go_upto_region 15 with (fail)
            obtain ⟨V7, hV7⟩ : ∃ V7, (u7.alloc (.cells #[.bool zeroR.leaf, .int .i64 zeroR.kid, .slice mq.la mq.ll mq.lc] 32)) = V7 := ⟨_, rfl⟩
            rw [hV7] at HP HPk HPn HQk HQn
            rw [hV7]
            clear hV7
            generalize u7.heap.size = gq at *
            have p0 : V7.cell? ⟨gp, 0, none⟩ = some (.bool false) := Blk.cell HPk.out 0
            have p1 : V7.cell? ⟨gp, 1, none⟩ = some (.slice mp.ka mp.kl mp.kc) := Blk.cell HPk.out 1
            have p2 : V7.cell? ⟨gp, 2, none⟩ = some (.slice mp.ca mp.cl mp.cc) := Blk.cell HPk.out 2
            have p3 : V7.cell? ⟨gp, 3, none⟩ = some (.slice mp.da mp.dl mp.dc) := Blk.cell HPk.out 3
            have plt : gp < V7.heap.size := Blk.lt HPk.out
            have HSm := NSame_any zeroN zeroN mp zeroNB V7 HPn.out (NAt_zero _)
            rw [decide_eq_true (rfl : zeroN = zeroN)] at HSm
            have HSm := Lib.hid HSm
            go_wp2_with fail
            clear p0 p1 p2 p3 plt
            refine (HSm.out).mono ?_
            rintro e u8 ⟨rfl, hb⟩
            replace HP := Lib.hid (HP.out.go hb)
            clear hb HSm HPk HPn HQk HQn
            go_wp2_with fail
            refine wp_region_ord [(0, false), (1, true), (2, true), (3, true), (4, true), (5, true), (6, true), (7, true), (8, true), (9, true), (10, true), (12, true), (13, true), (11, false), (14, false), (15, true), (16, true), (17, true), (18, true)] (by kernel_rfl) (by kernel_rfl) (by kernel_rfl) (by kernel_rfl) ?_
            refine wpO_C rfl (by rfl) ?_
            go_simp
            refine (HAl.out _).mono ?_
            rintro e a1 ⟨rfl, hb⟩
            refine ⟨hb, ?_⟩
            try simp only [Act.put, List.setIfInBounds_toArray, List.set_cons_zero, List.set_cons_succ]
            replace HP := Lib.hid (HP.out.go (show Below u8.heap.size u8 a1 from undrewL hb))
            clear hb
            repeat (first | (refine wpO_F (v := ?_) rfl (by rfl) (fun w' hL => ?_) ?_; rotate_left; (solve | (go_simp; with_reducible rfl) | go_simp); try simp only [Act.put, List.setIfInBounds_toArray, List.set_cons_zero, List.set_cons_succ]) | (refine wpO_G rfl (by rfl) ?_; try simp only [Act.put, List.setIfInBounds_toArray, List.set_cons_zero, List.set_cons_succ]))
            refine wpO_nil ?_
            go_wp2
            go_ret
            exact ⟨rfl, HP.out.bel⟩
          | some zr =>
            have hrd : rdNd b = (zr.asN, 0) := rdNd_yes hdec
            have HDec := Lib.hid hdec
            have HRD := Lib.hid hrd
            clear hrd hdec
            go_wp2_with fail
            clear HBw HBv
            refine (HRd.out).mono ?_
            rintro e u6 ⟨mp, rfl, hNp, hmp, hb⟩
            rw [HRD.out] at hNp ⊢
            rw [show (((zr.asN, (0 : Int)) : Nd × Int).1).leaf = zr.leaf from asN_leaf zr]
            replace hNp : NAt u6 zr.asN mp := hNp
            replace HP := Lib.hid (HP.out.go hb)
            have hAp := (Below.refl u6.heap.size u6).alloc (Nat.le_refl _) (.cells #[.bool zr.leaf, .slice mp.ka mp.kl mp.kc, .slice mp.ca mp.cl mp.cc, .slice mp.da mp.dl mp.dc] 26)
            replace HP := Lib.hid (HP.out.go hAp)
            have HPk := Lib.hid (Blk.new u6 26 #[.bool zr.leaf, .slice mp.ka mp.kl mp.kc, .slice mp.ca mp.cl mp.cc, .slice mp.da mp.dl mp.dc])
            have HPn := Lib.hid (hNp.later hAp)
            clear hb hNp hAp HRd
            have HRr := rRead_any b ba b.length cap (u6.alloc (.cells #[.bool zr.leaf, .slice mp.ka mp.kl mp.kc, .slice mp.ca mp.cl mp.cc, .slice mp.da mp.dl mp.dc] 26)) HP.out.bs rfl hlc hcm
            have HRr := Lib.hid HRr
            go_upto_region 14 with (fail)
            obtain ⟨V6, hV6⟩ : ∃ V6, (u6.alloc (.cells #[.bool zr.leaf, .slice mp.ka mp.kl mp.kc, .slice mp.ca mp.cl mp.cc, .slice mp.da mp.dl mp.dc] 26)) = V6 := ⟨_, rfl⟩
            rw [hV6] at HP HPk HPn HRr
            rw [hV6]
            clear hV6
            generalize u6.heap.size = gp at *
            go_wp2_with fail
            refine (HRr.out).mono ?_
            rintro e u7 ⟨xq, eq, mq, rfl, hq, hRq, hmq, hb⟩
            obtain ⟨rfl, rfl⟩ : eq = 0 ∧ zr = xq := by
              rcases hq with ⟨h1, h2⟩ | ⟨h1, h2, h3⟩
              · rw [HDec.out] at h2; exact ⟨h1, Option.some.inj h2⟩
              · rw [HDec.out] at h3; cases h3
            replace HP := Lib.hid (HP.out.go hb)
            replace HPk := Lib.hid (HPk.out.bel hb HPk.out.lt)
            replace HPn := Lib.hid (HPn.out.later hb)
            have hAq := (Below.refl u7.heap.size u7).alloc (Nat.le_refl _) (.cells #[.bool zr.leaf, .int .i64 zr.kid, .slice mq.la mq.ll mq.lc] 32)
            replace HP := Lib.hid (HP.out.go hAq)
            replace HPk := Lib.hid (HPk.out.bel hAq HPk.out.lt)
            replace HPn := Lib.hid (HPn.out.later hAq)
            have HQk := Lib.hid (Blk.new u7 32 #[.bool zr.leaf, .int .i64 zr.kid, .slice mq.la mq.ll mq.lc])
            have HQn := Lib.hid (hRq.later hAq)
            clear hb hRq hAq HRr hq
            go_upto_region 15 with (fail)
            obtain ⟨V7, hV7⟩ : ∃ V7, (u7.alloc (.cells #[.bool zr.leaf, .int .i64 zr.kid, .slice mq.la mq.ll mq.lc] 32)) = V7 := ⟨_, rfl⟩
            rw [hV7] at HP HPk HPn HQk HQn
            rw [hV7]
            clear hV7
            generalize u7.heap.size = gq at *
            have p0 : V7.cell? ⟨gp, 0, none⟩ = some (.bool zr.leaf) := Blk.cell HPk.out 0
            have p1 : V7.cell? ⟨gp, 1, none⟩ = some (.slice mp.ka mp.kl mp.kc) := Blk.cell HPk.out 1
            have p2 : V7.cell? ⟨gp, 2, none⟩ = some (.slice mp.ca mp.cl mp.cc) := Blk.cell HPk.out 2
            have p3 : V7.cell? ⟨gp, 3, none⟩ = some (.slice mp.da mp.dl mp.dc) := Blk.cell HPk.out 3
            have plt : gp < V7.heap.size := Blk.lt HPk.out
            have k0 : V7.cell? ⟨gq, 0, none⟩ = some (.bool zr.leaf) := Blk.cell HQk.out 0
            have k1 : V7.cell? ⟨gq, 1, none⟩ = some (.int .i64 zr.kid) := Blk.cell HQk.out 1
            have k2 : V7.cell? ⟨gq, 2, none⟩ = some (.slice mq.la mq.ll mq.lc) := Blk.cell HQk.out 2
            have klt : gq < V7.heap.size := Blk.lt HQk.out
            have HSm := lsame_any zr.asN mp zr mq V7 HPn.out HQn.out (by omega)
            have hpl := asR_asN (page_decN HP.out.bs.1 HDec.out).1.plain
            rw [hpl.1, hpl.2, decide_eq_true (rfl : zr = zr), Bool.and_self, asN_leaf] at HSm
            have HSm := Lib.hid HSm
            clear hpl
            go_wp2_with fail
            clear p0 p1 p2 p3 plt
            clear k0 k1 k2 klt
            refine (HSm.out).mono ?_
            rintro e u8 ⟨rfl, hb⟩
            replace HP := Lib.hid (HP.out.go hb)
            clear hb HSm HPk HPn HQk HQn
            go_wp2_with fail
            refine wp_region_ord [(0, false), (1, true), (2, true), (3, true), (4, true), (5, true), (6, true), (7, true), (8, true), (9, true), (10, true), (12, true), (13, true), (11, false), (14, false), (15, true), (16, true), (17, true), (18, true)] (by kernel_rfl) (by kernel_rfl) (by kernel_rfl) (by kernel_rfl) ?_
            refine wpO_C rfl (by rfl) ?_
            go_simp
            refine (HAl.out _).mono ?_
            rintro e a1 ⟨rfl, hb⟩
            refine ⟨hb, ?_⟩
            try simp only [Act.put, List.setIfInBounds_toArray, List.set_cons_zero, List.set_cons_succ]
            replace HP := Lib.hid (HP.out.go (show Below u8.heap.size u8 a1 from undrewL hb))
            clear hb
            repeat (first | (refine wpO_F (v := ?_) rfl (by rfl) (fun w' hL => ?_) ?_; rotate_left; (solve | (go_simp; with_reducible rfl) | go_simp); try simp only [Act.put, List.setIfInBounds_toArray, List.set_cons_zero, List.set_cons_succ]) | (refine wpO_G rfl (by rfl) ?_; try simp only [Act.put, List.setIfInBounds_toArray, List.set_cons_zero, List.set_cons_succ]))
            refine wpO_nil ?_
            go_wp2
            go_ret
            exact ⟨rfl, HP.out.bel⟩
        | true =>
          have HXe : Hid (x = n.asR) := HX.out (by trivial)
          have HRx := rRight_any x mx V4 HP.out.ax
          rw [show x.ok = n.ok by rw [HXe.out]; exact ok_same HSh.out] at HRx
          have HRx := Lib.hid HRx
          have x0 : V4.cell? ⟨gx, 0, none⟩ = some (.bool x.leaf) := Blk.cell HP.out.x0 0
          have x1 : V4.cell? ⟨gx, 1, none⟩ = some (.int .i64 x.kid) := Blk.cell HP.out.x0 1
          have x2 : V4.cell? ⟨gx, 2, none⟩ = some (.slice mx.la mx.ll mx.lc) := Blk.cell HP.out.x0 2
          have xlt : gx < V4.heap.size := Blk.lt HP.out.x0
          go_wp2_with fail
          clear x0 x1 x2 xlt
          refine (HRx.out).mono ?_
          rintro e w5 ⟨rfl, hb⟩
          replace HP := Lib.hid (HP.out.go hb)
          clear hb HRx
          obtain ⟨ok, hok⟩ : ∃ ok, n.ok = ok := ⟨_, rfl⟩
          rw [hok]
          have HOk := Lib.hid hok
          clear hok
          cases ok with
          | false =>
            have HW := NWrite_any n ⟨ka, kl, kc, ca, cl, cc, da, dl, dc⟩ w5 HP.out.nn (by simp only; omega)
            rw [HLf.out] at HW
            rw [writeN_no HOk.out] at HW
            have HW := Lib.hid HW
            have n0 : w5.cell? ⟨w.heap.size, 0, none⟩ = some (.bool lf) := Blk.cell HP.out.n0 0
            have n1 : w5.cell? ⟨w.heap.size, 1, none⟩ = some (.slice ka kl kc) := Blk.cell HP.out.n0 1
            have n2 : w5.cell? ⟨w.heap.size, 2, none⟩ = some (.slice ca cl cc) := Blk.cell HP.out.n0 2
            have n3 : w5.cell? ⟨w.heap.size, 3, none⟩ = some (.slice da dl dc) := Blk.cell HP.out.n0 3
            have nlt : w.heap.size < w5.heap.size := Blk.lt HP.out.n0
            go_wp2_with fail
            clear n0 n1 n2 n3 nlt
            refine (HW.out).mono ?_
            rintro e u1 ⟨wa, wc, rfl, hwc, hwm, hBw, hb⟩
            replace HP := Lib.hid (HP.out.go hb)
            simp only [List.length_nil]
            have HBw := Lib.hid hBw
            clear hb hBw HW
            have HV := rWrite_any x mx u1 HP.out.ax (by omega)
            obtain ⟨⟨vl, ve⟩, hvr⟩ : ∃ r, writeR x = r := ⟨_, rfl⟩
            rw [hvr] at HV
            clear hvr
            have HV := Lib.hid HV
            have x0 : u1.cell? ⟨gx, 0, none⟩ = some (.bool x.leaf) := Blk.cell HP.out.x0 0
            have x1 : u1.cell? ⟨gx, 1, none⟩ = some (.int .i64 x.kid) := Blk.cell HP.out.x0 1
            have x2 : u1.cell? ⟨gx, 2, none⟩ = some (.slice mx.la mx.ll mx.lc) := Blk.cell HP.out.x0 2
            have xlt : gx < u1.heap.size := Blk.lt HP.out.x0
            go_wp2_with fail
            clear x0 x1 x2 xlt
            refine (HV.out).mono ?_
            rintro e u2 ⟨va, vc, rfl, hvc, hvm, hBv, hb⟩
            replace HP := Lib.hid (HP.out.go hb)
            replace HBw := Lib.hid ((HBw.out.below hb).mono hb.size)
            simp only at hBv ⊢
            have HBv := Lib.hid hBv
            clear hb hBv HV
            have HRt := NRight_any n ⟨ka, kl, kc, ca, cl, cc, da, dl, dc⟩ u2 HP.out.nn
            rw [HLf.out, HOk.out] at HRt
            have HRt := Lib.hid HRt
            have n0 : u2.cell? ⟨w.heap.size, 0, none⟩ = some (.bool lf) := Blk.cell HP.out.n0 0
            have n1 : u2.cell? ⟨w.heap.size, 1, none⟩ = some (.slice ka kl kc) := Blk.cell HP.out.n0 1
            have n2 : u2.cell? ⟨w.heap.size, 2, none⟩ = some (.slice ca cl cc) := Blk.cell HP.out.n0 2
            have n3 : u2.cell? ⟨w.heap.size, 3, none⟩ = some (.slice da dl dc) := Blk.cell HP.out.n0 3
            have nlt : w.heap.size < u2.heap.size := Blk.lt HP.out.n0
            go_wp2_with fail
            clear n0 n1 n2 n3 nlt
            refine (HRt.out).mono ?_
            rintro e u4 ⟨rfl, hb⟩
            replace HP := Lib.hid (HP.out.go hb)
            replace HBw := Lib.hid ((HBw.out.below hb).mono hb.size)
            replace HBv := Lib.hid ((HBv.out.below hb).mono hb.size)
            clear hb HRt
            have HSz := NSize_any n ⟨ka, kl, kc, ca, cl, cc, da, dl, dc⟩ u4 HP.out.nn (by simp only; omega)
            rw [HLf.out, HOk.out] at HSz
            simp only [Bool.false_eq_true, if_false] at HSz
            have HSz := Lib.hid HSz
            have n0 : u4.cell? ⟨w.heap.size, 0, none⟩ = some (.bool lf) := Blk.cell HP.out.n0 0
            have n1 : u4.cell? ⟨w.heap.size, 1, none⟩ = some (.slice ka kl kc) := Blk.cell HP.out.n0 1
            have n2 : u4.cell? ⟨w.heap.size, 2, none⟩ = some (.slice ca cl cc) := Blk.cell HP.out.n0 2
            have n3 : u4.cell? ⟨w.heap.size, 3, none⟩ = some (.slice da dl dc) := Blk.cell HP.out.n0 3
            have nlt : w.heap.size < u4.heap.size := Blk.lt HP.out.n0
            go_wp2_with fail
            clear n0 n1 n2 n3 nlt
            refine (HSz.out).mono ?_
            rintro e u5 ⟨rfl, hb⟩
            replace HP := Lib.hid (HP.out.go hb)
            replace HBw := Lib.hid ((HBw.out.below hb).mono hb.size)
            replace HBv := Lib.hid ((HBv.out.below hb).mono hb.size)
            clear hb HSz
            have HRd := NRead_any b ba b.length cap u5 HP.out.bs rfl hlc (by omega)
            have HRd := Lib.hid HRd
            cases hdec : decN b with
            | none =>
              have hrd : rdNd b = (zeroN, 3) := rdNd_no hdec
              have HDec := Lib.hid hdec
              have HRD := Lib.hid hrd
              clear hrd hdec
              go_wp2_with fail
              clear HBw HBv
              refine (HRd.out).mono ?_
              rintro e u6 ⟨mp, rfl, hNp, hmp, hb⟩
              rw [HRD.out] at hNp ⊢
              rw [show (((zeroN, (3 : Int)) : Nd × Int).1).leaf = false from rfl]
              replace hNp : NAt u6 zeroN mp := hNp
              replace HP := Lib.hid (HP.out.go hb)
              have hAp := (Below.refl u6.heap.size u6).alloc (Nat.le_refl _) (.cells #[.bool false, .slice mp.ka mp.kl mp.kc, .slice mp.ca mp.cl mp.cc, .slice mp.da mp.dl mp.dc] 26)
              replace HP := Lib.hid (HP.out.go hAp)
              have HPk := Lib.hid (Blk.new u6 26 #[.bool false, .slice mp.ka mp.kl mp.kc, .slice mp.ca mp.cl mp.cc, .slice mp.da mp.dl mp.dc])
              have HPn := Lib.hid (hNp.later hAp)
              clear hb hNp hAp HRd
              have HRr := rRead_any b ba b.length cap (u6.alloc (.cells #[.bool false, .slice mp.ka mp.kl mp.kc, .slice mp.ca mp.cl mp.cc, .slice mp.da mp.dl mp.dc] 26)) HP.out.bs rfl hlc hcm
              have HRr := Lib.hid HRr
              go_upto_region 14 with (fail)
              obtain ⟨V6, hV6⟩ : ∃ V6, (u6.alloc (.cells #[.bool false, .slice mp.ka mp.kl mp.kc, .slice mp.ca mp.cl mp.cc, .slice mp.da mp.dl mp.dc] 26)) = V6 := ⟨_, rfl⟩
              rw [hV6] at HP HPk HPn HRr
              rw [hV6]
              clear hV6
              generalize u6.heap.size = gp at *
              go_wp2_with fail
              refine (HRr.out).mono ?_
              rintro e u7 ⟨xq, eq, mq, rfl, hq, hRq, hmq, hb⟩
              obtain ⟨rfl, rfl⟩ : eq = 3 ∧ xq = zeroR := by
                rcases hq with ⟨h1, h2⟩ | ⟨h1, h2, h3⟩
                · rw [HDec.out] at h2; cases h2
                · exact ⟨h1, h2⟩
              replace HP := Lib.hid (HP.out.go hb)
              replace HPk := Lib.hid (HPk.out.bel hb HPk.out.lt)
              replace HPn := Lib.hid (HPn.out.later hb)
              have hAq := (Below.refl u7.heap.size u7).alloc (Nat.le_refl _) (.cells #[.bool zeroR.leaf, .int .i64 zeroR.kid, .slice mq.la mq.ll mq.lc] 32)
              replace HP := Lib.hid (HP.out.go hAq)
              replace HPk := Lib.hid (HPk.out.bel hAq HPk.out.lt)
              replace HPn := Lib.hid (HPn.out.later hAq)
              have HQk := Lib.hid (Blk.new u7 32 #[.bool zeroR.leaf, .int .i64 zeroR.kid, .slice mq.la mq.ll mq.lc])
              have HQn := Lib.hid (hRq.later hAq)
              clear hb hRq hAq HRr hq
              go_upto_region 15 with (fail)
              obtain ⟨V7, hV7⟩ : ∃ V7, (u7.alloc (.cells #[.bool zeroR.leaf, .int .i64 zeroR.kid, .slice mq.la mq.ll mq.lc] 32)) = V7 := ⟨_, rfl⟩
              rw [hV7] at HP HPk HPn HQk HQn
              rw [hV7]
              clear hV7
              generalize u7.heap.size = gq at *
              have p0 : V7.cell? ⟨gp, 0, none⟩ = some (.bool false) := Blk.cell HPk.out 0
              have p1 : V7.cell? ⟨gp, 1, none⟩ = some (.slice mp.ka mp.kl mp.kc) := Blk.cell HPk.out 1
              have p2 : V7.cell? ⟨gp, 2, none⟩ = some (.slice mp.ca mp.cl mp.cc) := Blk.cell HPk.out 2
              have p3 : V7.cell? ⟨gp, 3, none⟩ = some (.slice mp.da mp.dl mp.dc) := Blk.cell HPk.out 3
              have plt : gp < V7.heap.size := Blk.lt HPk.out
              have HSm := NSame_any zeroN zeroN mp zeroNB V7 HPn.out (NAt_zero _)
              rw [decide_eq_true (rfl : zeroN = zeroN)] at HSm
              have HSm := Lib.hid HSm
              go_wp2_with fail
              clear p0 p1 p2 p3 plt
              refine (HSm.out).mono ?_
              rintro e u8 ⟨rfl, hb⟩
              replace HP := Lib.hid (HP.out.go hb)
              clear hb HSm HPk HPn HQk HQn
              cases fi with
              | false =>
                go_wp2_with fail
                refine wp_region_ord [(0, false), (1, true), (2, true), (3, true), (4, true), (5, true), (6, true), (7, true), (8, true), (9, true), (10, true), (12, true), (13, true), (11, false), (14, false), (15, true), (16, true), (17, true), (18, true)] (by kernel_rfl) (by kernel_rfl) (by kernel_rfl) (by kernel_rfl) ?_
                refine wpO_C rfl (by rfl) ?_
                go_simp
                refine (HAl.out _).mono ?_
                rintro e a1 ⟨rfl, hb⟩
                refine ⟨hb, ?_⟩
                try simp only [Act.put, List.setIfInBounds_toArray, List.set_cons_zero, List.set_cons_succ]
                replace HP := Lib.hid (HP.out.go (show Below u8.heap.size u8 a1 from undrewL hb))
                clear hb
                repeat (first | (refine wpO_F (v := ?_) rfl (by rfl) (fun w' hL => ?_) ?_; rotate_left; (solve | (go_simp; with_reducible rfl) | go_simp); try simp only [Act.put, List.setIfInBounds_toArray, List.set_cons_zero, List.set_cons_succ]) | (refine wpO_G rfl (by rfl) ?_; try simp only [Act.put, List.setIfInBounds_toArray, List.set_cons_zero, List.set_cons_succ]))
                refine wpO_nil ?_
                go_wp2
                go_ret
                exact ⟨rfl, HP.out.bel⟩
              | true =>
                have HYe : Hid (y = m.asR) := HY.out (by trivial)
                have hEq : decide (n = m) = decide (x = y) := by rw [HXe.out, HYe.out]; exact asR_inj HSh.out HFi.out
                obtain ⟨sd, hsd⟩ : ∃ sd, decide (x = y) = sd := ⟨_, rfl⟩
                have HSd := Lib.hid hsd
                have HSd2 : Hid (decide (n = m) = sd) := hEq.trans hsd
                clear hEq hsd
                go_wp2_with fail
                refine wp_region_ord [(0, false), (1, true), (2, true), (3, true), (4, true), (5, true), (6, true), (7, true), (8, true), (9, true), (10, true), (12, true), (13, true), (11, false), (14, false), (15, true), (16, true), (17, true), (18, true)] (by kernel_rfl) (by kernel_rfl) (by kernel_rfl) (by kernel_rfl) ?_
                refine wpO_C rfl (by rfl) ?_
                go_simp
                refine (HAl.out _).mono ?_
                rintro e a1 ⟨rfl, hb⟩
                refine ⟨hb, ?_⟩
                try simp only [Act.put, List.setIfInBounds_toArray, List.set_cons_zero, List.set_cons_succ]
                replace HP := Lib.hid (HP.out.go (show Below u8.heap.size u8 a1 from undrewL hb))
                clear hb
                have n0 : ∀ W, Later a1 W → W.cell? ⟨w.heap.size, 0, none⟩ = some (.bool lf) := fun W hW => Blk.cell (HP.out.go hW).n0 0
                have n1 : ∀ W, Later a1 W → W.cell? ⟨w.heap.size, 1, none⟩ = some (.slice ka kl kc) := fun W hW => Blk.cell (HP.out.go hW).n0 1
                have n2 : ∀ W, Later a1 W → W.cell? ⟨w.heap.size, 2, none⟩ = some (.slice ca cl cc) := fun W hW => Blk.cell (HP.out.go hW).n0 2
                have n3 : ∀ W, Later a1 W → W.cell? ⟨w.heap.size, 3, none⟩ = some (.slice da dl dc) := fun W hW => Blk.cell (HP.out.go hW).n0 3
                have m0 : ∀ W, Later a1 W → W.cell? ⟨w.heap.size + 1, 0, none⟩ = some (.bool mf) := fun W hW => Blk.cell (HP.out.go hW).m0 0
                have m1 : ∀ W, Later a1 W → W.cell? ⟨w.heap.size + 1, 1, none⟩ = some (.slice ka2 kl2 kc2) := fun W hW => Blk.cell (HP.out.go hW).m0 1
                have m2 : ∀ W, Later a1 W → W.cell? ⟨w.heap.size + 1, 2, none⟩ = some (.slice ca2 cl2 cc2) := fun W hW => Blk.cell (HP.out.go hW).m0 2
                have m3 : ∀ W, Later a1 W → W.cell? ⟨w.heap.size + 1, 3, none⟩ = some (.slice da2 dl2 dc2) := fun W hW => Blk.cell (HP.out.go hW).m0 3
                have x0 : ∀ W, Later a1 W → W.cell? ⟨gx, 0, none⟩ = some (.bool x.leaf) := fun W hW => Blk.cell (HP.out.go hW).x0 0
                have x1 : ∀ W, Later a1 W → W.cell? ⟨gx, 1, none⟩ = some (.int .i64 x.kid) := fun W hW => Blk.cell (HP.out.go hW).x0 1
                have x2 : ∀ W, Later a1 W → W.cell? ⟨gx, 2, none⟩ = some (.slice mx.la mx.ll mx.lc) := fun W hW => Blk.cell (HP.out.go hW).x0 2
                have y0 : ∀ W, Later a1 W → W.cell? ⟨gy, 0, none⟩ = some (.bool y.leaf) := fun W hW => Blk.cell (HP.out.go hW).y0 0
                have y1 : ∀ W, Later a1 W → W.cell? ⟨gy, 1, none⟩ = some (.int .i64 y.kid) := fun W hW => Blk.cell (HP.out.go hW).y0 1
                have y2 : ∀ W, Later a1 W → W.cell? ⟨gy, 2, none⟩ = some (.slice my.la my.ll my.lc) := fun W hW => Blk.cell (HP.out.go hW).y0 2
                repeat (first | (refine wpO_F (v := ?_) rfl (by rfl) (fun w' hL => ?_) ?_; rotate_left; (solve | (go_simp; with_reducible rfl) | go_simp); try simp only [Act.put, List.setIfInBounds_toArray, List.set_cons_zero, List.set_cons_succ]) | (refine wpO_G rfl (by rfl) ?_; try simp only [Act.put, List.setIfInBounds_toArray, List.set_cons_zero, List.set_cons_succ]))
                clear n0 n1 n2 n3 m0 m1 m2 m3 x0 x1 x2 y0 y1 y2
                have HS1 := NSame_any n m ⟨ka, kl, kc, ca, cl, cc, da, dl, dc⟩ ⟨ka2, kl2, kc2, ca2, cl2, cc2, da2, dl2, dc2⟩ a1 HP.out.nn HP.out.nm
                rw [HLf.out, HMf.out, HSd2.out] at HS1
                refine wpO_C rfl (by rfl) ?_
                go_simp
                refine (HS1).mono ?_
                rintro e a2 ⟨rfl, hb⟩
                refine ⟨hb, ?_⟩
                try simp only [Act.put, List.setIfInBounds_toArray, List.set_cons_zero, List.set_cons_succ]
                replace HP := Lib.hid (HP.out.go hb)
                clear hb HS1
                repeat (first | (refine wpO_F (v := ?_) rfl (by rfl) (fun w' hL => ?_) ?_; rotate_left; (solve | (go_simp; with_reducible rfl) | go_simp); try simp only [Act.put, List.setIfInBounds_toArray, List.set_cons_zero, List.set_cons_succ]) | (refine wpO_G rfl (by rfl) ?_; try simp only [Act.put, List.setIfInBounds_toArray, List.set_cons_zero, List.set_cons_succ]))
                have HS2 := rSame_any x y mx my a2 HP.out.ax HP.out.ay
                rw [HSd.out] at HS2
                refine wpO_C rfl (by rfl) ?_
                go_simp
                refine (HS2).mono ?_
                rintro e a3 ⟨rfl, hb⟩
                refine ⟨hb, ?_⟩
                try simp only [Act.put, List.setIfInBounds_toArray, List.set_cons_zero, List.set_cons_succ]
                replace HP := Lib.hid (HP.out.go hb)
                clear hb HS2
                cases sd
                all_goals
                  repeat (first | (refine wpO_F (v := ?_) rfl (by rfl) (fun w' hL => ?_) ?_; rotate_left; (solve | (go_simp; with_reducible rfl) | go_simp); try simp only [Act.put, List.setIfInBounds_toArray, List.set_cons_zero, List.set_cons_succ]) | (refine wpO_G rfl (by rfl) ?_; try simp only [Act.put, List.setIfInBounds_toArray, List.set_cons_zero, List.set_cons_succ]))
                  refine wpO_nil ?_
                  go_wp2
                  go_ret
                  exact ⟨rfl, HP.out.bel⟩
            | some zr =>
              have hrd : rdNd b = (zr.asN, 0) := rdNd_yes hdec
              have HDec := Lib.hid hdec
              have HRD := Lib.hid hrd
              clear hrd hdec
              go_wp2_with fail
              clear HBw HBv
              refine (HRd.out).mono ?_
              rintro e u6 ⟨mp, rfl, hNp, hmp, hb⟩
              rw [HRD.out] at hNp ⊢
              rw [show (((zr.asN, (0 : Int)) : Nd × Int).1).leaf = zr.leaf from asN_leaf zr]
              replace hNp : NAt u6 zr.asN mp := hNp
              replace HP := Lib.hid (HP.out.go hb)
              have hAp := (Below.refl u6.heap.size u6).alloc (Nat.le_refl _) (.cells #[.bool zr.leaf, .slice mp.ka mp.kl mp.kc, .slice mp.ca mp.cl mp.cc, .slice mp.da mp.dl mp.dc] 26)
              replace HP := Lib.hid (HP.out.go hAp)
              have HPk := Lib.hid (Blk.new u6 26 #[.bool zr.leaf, .slice mp.ka mp.kl mp.kc, .slice mp.ca mp.cl mp.cc, .slice mp.da mp.dl mp.dc])
              have HPn := Lib.hid (hNp.later hAp)
              clear hb hNp hAp HRd
              have HRr := rRead_any b ba b.length cap (u6.alloc (.cells #[.bool zr.leaf, .slice mp.ka mp.kl mp.kc, .slice mp.ca mp.cl mp.cc, .slice mp.da mp.dl mp.dc] 26)) HP.out.bs rfl hlc hcm
              have HRr := Lib.hid HRr
              go_upto_region 14 with (fail)
              obtain ⟨V6, hV6⟩ : ∃ V6, (u6.alloc (.cells #[.bool zr.leaf, .slice mp.ka mp.kl mp.kc, .slice mp.ca mp.cl mp.cc, .slice mp.da mp.dl mp.dc] 26)) = V6 := ⟨_, rfl⟩
              rw [hV6] at HP HPk HPn HRr
              rw [hV6]
              clear hV6
              generalize u6.heap.size = gp at *
              go_wp2_with fail
              refine (HRr.out).mono ?_
              rintro e u7 ⟨xq, eq, mq, rfl, hq, hRq, hmq, hb⟩
              obtain ⟨rfl, rfl⟩ : eq = 0 ∧ zr = xq := by
                rcases hq with ⟨h1, h2⟩ | ⟨h1, h2, h3⟩
                · rw [HDec.out] at h2; exact ⟨h1, Option.some.inj h2⟩
                · rw [HDec.out] at h3; cases h3
              replace HP := Lib.hid (HP.out.go hb)
              replace HPk := Lib.hid (HPk.out.bel hb HPk.out.lt)
              replace HPn := Lib.hid (HPn.out.later hb)
              have hAq := (Below.refl u7.heap.size u7).alloc (Nat.le_refl _) (.cells #[.bool zr.leaf, .int .i64 zr.kid, .slice mq.la mq.ll mq.lc] 32)
              replace HP := Lib.hid (HP.out.go hAq)
              replace HPk := Lib.hid (HPk.out.bel hAq HPk.out.lt)
              replace HPn := Lib.hid (HPn.out.later hAq)
              have HQk := Lib.hid (Blk.new u7 32 #[.bool zr.leaf, .int .i64 zr.kid, .slice mq.la mq.ll mq.lc])
              have HQn := Lib.hid (hRq.later hAq)
              clear hb hRq hAq HRr hq
              go_upto_region 15 with (fail)
              obtain ⟨V7, hV7⟩ : ∃ V7, (u7.alloc (.cells #[.bool zr.leaf, .int .i64 zr.kid, .slice mq.la mq.ll mq.lc] 32)) = V7 := ⟨_, rfl⟩
              rw [hV7] at HP HPk HPn HQk HQn
              rw [hV7]
              clear hV7
              generalize u7.heap.size = gq at *
              have p0 : V7.cell? ⟨gp, 0, none⟩ = some (.bool zr.leaf) := Blk.cell HPk.out 0
              have p1 : V7.cell? ⟨gp, 1, none⟩ = some (.slice mp.ka mp.kl mp.kc) := Blk.cell HPk.out 1
              have p2 : V7.cell? ⟨gp, 2, none⟩ = some (.slice mp.ca mp.cl mp.cc) := Blk.cell HPk.out 2
              have p3 : V7.cell? ⟨gp, 3, none⟩ = some (.slice mp.da mp.dl mp.dc) := Blk.cell HPk.out 3
              have plt : gp < V7.heap.size := Blk.lt HPk.out
              have k0 : V7.cell? ⟨gq, 0, none⟩ = some (.bool zr.leaf) := Blk.cell HQk.out 0
              have k1 : V7.cell? ⟨gq, 1, none⟩ = some (.int .i64 zr.kid) := Blk.cell HQk.out 1
              have k2 : V7.cell? ⟨gq, 2, none⟩ = some (.slice mq.la mq.ll mq.lc) := Blk.cell HQk.out 2
              have klt : gq < V7.heap.size := Blk.lt HQk.out
              have HSm := lsame_any zr.asN mp zr mq V7 HPn.out HQn.out (by omega)
              have hpl := asR_asN (page_decN HP.out.bs.1 HDec.out).1.plain
              rw [hpl.1, hpl.2, decide_eq_true (rfl : zr = zr), Bool.and_self, asN_leaf] at HSm
              have HSm := Lib.hid HSm
              clear hpl
              go_wp2_with fail
              clear p0 p1 p2 p3 plt
              clear k0 k1 k2 klt
              refine (HSm.out).mono ?_
              rintro e u8 ⟨rfl, hb⟩
              replace HP := Lib.hid (HP.out.go hb)
              clear hb HSm HPk HPn HQk HQn
              cases fi with
              | false =>
                go_wp2_with fail
                refine wp_region_ord [(0, false), (1, true), (2, true), (3, true), (4, true), (5, true), (6, true), (7, true), (8, true), (9, true), (10, true), (12, true), (13, true), (11, false), (14, false), (15, true), (16, true), (17, true), (18, true)] (by kernel_rfl) (by kernel_rfl) (by kernel_rfl) (by kernel_rfl) ?_
                refine wpO_C rfl (by rfl) ?_
                go_simp
                refine (HAl.out _).mono ?_
                rintro e a1 ⟨rfl, hb⟩
                refine ⟨hb, ?_⟩
                try simp only [Act.put, List.setIfInBounds_toArray, List.set_cons_zero, List.set_cons_succ]
                replace HP := Lib.hid (HP.out.go (show Below u8.heap.size u8 a1 from undrewL hb))
                clear hb
                repeat (first | (refine wpO_F (v := ?_) rfl (by rfl) (fun w' hL => ?_) ?_; rotate_left; (solve | (go_simp; with_reducible rfl) | go_simp); try simp only [Act.put, List.setIfInBounds_toArray, List.set_cons_zero, List.set_cons_succ]) | (refine wpO_G rfl (by rfl) ?_; try simp only [Act.put, List.setIfInBounds_toArray, List.set_cons_zero, List.set_cons_succ]))
                refine wpO_nil ?_
                go_wp2
                go_ret
                exact ⟨rfl, HP.out.bel⟩
              | true =>
                have HYe : Hid (y = m.asR) := HY.out (by trivial)
                have hEq : decide (n = m) = decide (x = y) := by rw [HXe.out, HYe.out]; exact asR_inj HSh.out HFi.out
                obtain ⟨sd, hsd⟩ : ∃ sd, decide (x = y) = sd := ⟨_, rfl⟩
                have HSd := Lib.hid hsd
                have HSd2 : Hid (decide (n = m) = sd) := hEq.trans hsd
                clear hEq hsd
                go_wp2_with fail
                refine wp_region_ord [(0, false), (1, true), (2, true), (3, true), (4, true), (5, true), (6, true), (7, true), (8, true), (9, true), (10, true), (12, true), (13, true), (11, false), (14, false), (15, true), (16, true), (17, true), (18, true)] (by kernel_rfl) (by kernel_rfl) (by kernel_rfl) (by kernel_rfl) ?_
                refine wpO_C rfl (by rfl) ?_
                go_simp
                refine (HAl.out _).mono ?_
                rintro e a1 ⟨rfl, hb⟩
                refine ⟨hb, ?_⟩
                try simp only [Act.put, List.setIfInBounds_toArray, List.set_cons_zero, List.set_cons_succ]
                replace HP := Lib.hid (HP.out.go (show Below u8.heap.size u8 a1 from undrewL hb))
                clear hb
                have n0 : ∀ W, Later a1 W → W.cell? ⟨w.heap.size, 0, none⟩ = some (.bool lf) := fun W hW => Blk.cell (HP.out.go hW).n0 0
                have n1 : ∀ W, Later a1 W → W.cell? ⟨w.heap.size, 1, none⟩ = some (.slice ka kl kc) := fun W hW => Blk.cell (HP.out.go hW).n0 1
                have n2 : ∀ W, Later a1 W → W.cell? ⟨w.heap.size, 2, none⟩ = some (.slice ca cl cc) := fun W hW => Blk.cell (HP.out.go hW).n0 2
                have n3 : ∀ W, Later a1 W → W.cell? ⟨w.heap.size, 3, none⟩ = some (.slice da dl dc) := fun W hW => Blk.cell (HP.out.go hW).n0 3
                have m0 : ∀ W, Later a1 W → W.cell? ⟨w.heap.size + 1, 0, none⟩ = some (.bool mf) := fun W hW => Blk.cell (HP.out.go hW).m0 0
                have m1 : ∀ W, Later a1 W → W.cell? ⟨w.heap.size + 1, 1, none⟩ = some (.slice ka2 kl2 kc2) := fun W hW => Blk.cell (HP.out.go hW).m0 1
                have m2 : ∀ W, Later a1 W → W.cell? ⟨w.heap.size + 1, 2, none⟩ = some (.slice ca2 cl2 cc2) := fun W hW => Blk.cell (HP.out.go hW).m0 2
                have m3 : ∀ W, Later a1 W → W.cell? ⟨w.heap.size + 1, 3, none⟩ = some (.slice da2 dl2 dc2) := fun W hW => Blk.cell (HP.out.go hW).m0 3
                have x0 : ∀ W, Later a1 W → W.cell? ⟨gx, 0, none⟩ = some (.bool x.leaf) := fun W hW => Blk.cell (HP.out.go hW).x0 0
                have x1 : ∀ W, Later a1 W → W.cell? ⟨gx, 1, none⟩ = some (.int .i64 x.kid) := fun W hW => Blk.cell (HP.out.go hW).x0 1
                have x2 : ∀ W, Later a1 W → W.cell? ⟨gx, 2, none⟩ = some (.slice mx.la mx.ll mx.lc) := fun W hW => Blk.cell (HP.out.go hW).x0 2
                have y0 : ∀ W, Later a1 W → W.cell? ⟨gy, 0, none⟩ = some (.bool y.leaf) := fun W hW => Blk.cell (HP.out.go hW).y0 0
                have y1 : ∀ W, Later a1 W → W.cell? ⟨gy, 1, none⟩ = some (.int .i64 y.kid) := fun W hW => Blk.cell (HP.out.go hW).y0 1
                have y2 : ∀ W, Later a1 W → W.cell? ⟨gy, 2, none⟩ = some (.slice my.la my.ll my.lc) := fun W hW => Blk.cell (HP.out.go hW).y0 2
                repeat (first | (refine wpO_F (v := ?_) rfl (by rfl) (fun w' hL => ?_) ?_; rotate_left; (solve | (go_simp; with_reducible rfl) | go_simp); try simp only [Act.put, List.setIfInBounds_toArray, List.set_cons_zero, List.set_cons_succ]) | (refine wpO_G rfl (by rfl) ?_; try simp only [Act.put, List.setIfInBounds_toArray, List.set_cons_zero, List.set_cons_succ]))
                clear n0 n1 n2 n3 m0 m1 m2 m3 x0 x1 x2 y0 y1 y2
                have HS1 := NSame_any n m ⟨ka, kl, kc, ca, cl, cc, da, dl, dc⟩ ⟨ka2, kl2, kc2, ca2, cl2, cc2, da2, dl2, dc2⟩ a1 HP.out.nn HP.out.nm
                rw [HLf.out, HMf.out, HSd2.out] at HS1
                refine wpO_C rfl (by rfl) ?_
                go_simp
                refine (HS1).mono ?_
                rintro e a2 ⟨rfl, hb⟩
                refine ⟨hb, ?_⟩
                try simp only [Act.put, List.setIfInBounds_toArray, List.set_cons_zero, List.set_cons_succ]
                replace HP := Lib.hid (HP.out.go hb)
                clear hb HS1
                repeat (first | (refine wpO_F (v := ?_) rfl (by rfl) (fun w' hL => ?_) ?_; rotate_left; (solve | (go_simp; with_reducible rfl) | go_simp); try simp only [Act.put, List.setIfInBounds_toArray, List.set_cons_zero, List.set_cons_succ]) | (refine wpO_G rfl (by rfl) ?_; try simp only [Act.put, List.setIfInBounds_toArray, List.set_cons_zero, List.set_cons_succ]))
                have HS2 := rSame_any x y mx my a2 HP.out.ax HP.out.ay
                rw [HSd.out] at HS2
                refine wpO_C rfl (by rfl) ?_
                go_simp
                refine (HS2).mono ?_
                rintro e a3 ⟨rfl, hb⟩
                refine ⟨hb, ?_⟩
                try simp only [Act.put, List.setIfInBounds_toArray, List.set_cons_zero, List.set_cons_succ]
                replace HP := Lib.hid (HP.out.go hb)
                clear hb HS2
                cases sd
                all_goals
                  repeat (first | (refine wpO_F (v := ?_) rfl (by rfl) (fun w' hL => ?_) ?_; rotate_left; (solve | (go_simp; with_reducible rfl) | go_simp); try simp only [Act.put, List.setIfInBounds_toArray, List.set_cons_zero, List.set_cons_succ]) | (refine wpO_G rfl (by rfl) ?_; try simp only [Act.put, List.setIfInBounds_toArray, List.set_cons_zero, List.set_cons_succ]))
                  refine wpO_nil ?_
                  go_wp2
                  go_ret
                  exact ⟨rfl, HP.out.bel⟩
          | true =>
            have HW := NWrite_any n ⟨ka, kl, kc, ca, cl, cc, da, dl, dc⟩ w5 HP.out.nn (by simp only; omega)
            rw [HLf.out] at HW
            obtain ⟨⟨wl, we⟩, hwn⟩ : ∃ r, writeN n = r := ⟨_, rfl⟩
            rw [hwn] at HW
            have HW := Lib.hid HW
            have n0 : w5.cell? ⟨w.heap.size, 0, none⟩ = some (.bool lf) := Blk.cell HP.out.n0 0
            have n1 : w5.cell? ⟨w.heap.size, 1, none⟩ = some (.slice ka kl kc) := Blk.cell HP.out.n0 1
            have n2 : w5.cell? ⟨w.heap.size, 2, none⟩ = some (.slice ca cl cc) := Blk.cell HP.out.n0 2
            have n3 : w5.cell? ⟨w.heap.size, 3, none⟩ = some (.slice da dl dc) := Blk.cell HP.out.n0 3
            have nlt : w.heap.size < w5.heap.size := Blk.lt HP.out.n0
            go_wp2_with fail
            clear n0 n1 n2 n3 nlt
            refine (HW.out).mono ?_
            rintro e u1 ⟨wa, wc, rfl, hwc, hwm, hBw, hb⟩
            replace HP := Lib.hid (HP.out.go hb)
            simp only at hBw ⊢
            have HBw := Lib.hid hBw
            clear hb hBw HW
            have HV := rWrite_any x mx u1 HP.out.ax (by omega)
            rw [show writeR x = (wl, we) by rw [← hwn, HXe.out]; unfold writeR writeN; rw [ok_same HSh.out]] at HV
            have HWn := Lib.hid hwn
            clear hwn
            have HV := Lib.hid HV
            have x0 : u1.cell? ⟨gx, 0, none⟩ = some (.bool x.leaf) := Blk.cell HP.out.x0 0
            have x1 : u1.cell? ⟨gx, 1, none⟩ = some (.int .i64 x.kid) := Blk.cell HP.out.x0 1
            have x2 : u1.cell? ⟨gx, 2, none⟩ = some (.slice mx.la mx.ll mx.lc) := Blk.cell HP.out.x0 2
            have xlt : gx < u1.heap.size := Blk.lt HP.out.x0
            go_wp2_with fail
            clear x0 x1 x2 xlt
            refine (HV.out).mono ?_
            rintro e u2 ⟨va, vc, rfl, hvc, hvm, hBv, hb⟩
            replace HP := Lib.hid (HP.out.go hb)
            replace HBw := Lib.hid ((HBw.out.below hb).mono hb.size)
            simp only at hBv ⊢
            have HBv := Lib.hid hBv
            clear hb hBv HV
            have HByt := rBytes_any x mx u2 HP.out.ax (by rw [HXe.out]; exact (Nd.ok_true HOk.out).asR) (by omega)
            have HByt := Lib.hid HByt
            have x0 : u2.cell? ⟨gx, 0, none⟩ = some (.bool x.leaf) := Blk.cell HP.out.x0 0
            have x1 : u2.cell? ⟨gx, 1, none⟩ = some (.int .i64 x.kid) := Blk.cell HP.out.x0 1
            have x2 : u2.cell? ⟨gx, 2, none⟩ = some (.slice mx.la mx.ll mx.lc) := Blk.cell HP.out.x0 2
            have xlt : gx < u2.heap.size := Blk.lt HP.out.x0
            go_wp2_with fail
            clear x0 x1 x2 xlt
            refine (HByt.out).mono ?_
            rintro e u3 ⟨bv, rfl, _, hown, hb⟩
            obtain ⟨ya, yc, rfl, _, _, _⟩ := own_slice hown
            replace HP := Lib.hid (HP.out.go hb)
            replace HBw := Lib.hid ((HBw.out.below hb).mono hb.size)
            replace HBv := Lib.hid ((HBv.out.below hb).mono hb.size)
            obtain ⟨T, hT⟩ : ∃ T, (encN x).length = T := ⟨_, rfl⟩
            rw [hT]
            have HT : Hid ((encN n.asR).length = T) := by show _ = _; rw [← hT, HXe.out]
            clear hb hown hT HByt
            have HRt := NRight_any n ⟨ka, kl, kc, ca, cl, cc, da, dl, dc⟩ u3 HP.out.nn
            rw [HLf.out, HOk.out] at HRt
            have HRt := Lib.hid HRt
            have n0 : u3.cell? ⟨w.heap.size, 0, none⟩ = some (.bool lf) := Blk.cell HP.out.n0 0
            have n1 : u3.cell? ⟨w.heap.size, 1, none⟩ = some (.slice ka kl kc) := Blk.cell HP.out.n0 1
            have n2 : u3.cell? ⟨w.heap.size, 2, none⟩ = some (.slice ca cl cc) := Blk.cell HP.out.n0 2
            have n3 : u3.cell? ⟨w.heap.size, 3, none⟩ = some (.slice da dl dc) := Blk.cell HP.out.n0 3
            have nlt : w.heap.size < u3.heap.size := Blk.lt HP.out.n0
            go_wp2_with fail
            clear n0 n1 n2 n3 nlt
            refine (HRt.out).mono ?_
            rintro e u4 ⟨rfl, hb⟩
            replace HP := Lib.hid (HP.out.go hb)
            replace HBw := Lib.hid ((HBw.out.below hb).mono hb.size)
            replace HBv := Lib.hid ((HBv.out.below hb).mono hb.size)
            clear hb HRt
            have HSz := NSize_any n ⟨ka, kl, kc, ca, cl, cc, da, dl, dc⟩ u4 HP.out.nn (by simp only; omega)
            rw [HLf.out, HOk.out] at HSz
            rw [if_pos rfl, HT.out] at HSz
            have HSz := Lib.hid HSz
            have n0 : u4.cell? ⟨w.heap.size, 0, none⟩ = some (.bool lf) := Blk.cell HP.out.n0 0
            have n1 : u4.cell? ⟨w.heap.size, 1, none⟩ = some (.slice ka kl kc) := Blk.cell HP.out.n0 1
            have n2 : u4.cell? ⟨w.heap.size, 2, none⟩ = some (.slice ca cl cc) := Blk.cell HP.out.n0 2
            have n3 : u4.cell? ⟨w.heap.size, 3, none⟩ = some (.slice da dl dc) := Blk.cell HP.out.n0 3
            have nlt : w.heap.size < u4.heap.size := Blk.lt HP.out.n0
            go_wp2_with fail
            clear n0 n1 n2 n3 nlt
            refine (HSz.out).mono ?_
            rintro e u5 ⟨rfl, hb⟩
            replace HP := Lib.hid (HP.out.go hb)
            replace HBw := Lib.hid ((HBw.out.below hb).mono hb.size)
            replace HBv := Lib.hid ((HBv.out.below hb).mono hb.size)
            clear hb HSz
            have hcvw := (HBw.out.conv 27 5 Try.underlying27 Try.underlying5 9 Try.underlying9 wl.length wc rfl)
            have hcvv := (HBv.out.conv 27 5 Try.underlying27 Try.underlying5 9 Try.underlying9 wl.length vc rfl)
            generalize strN wl = ws at hcvw hcvv
            have q1 : ((T : Int) != (T : Int)) = false := by simp
            have q2 : (we != we) = false := by simp
            have HRd := NRead_any b ba b.length cap u5 HP.out.bs rfl hlc (by omega)
            have HRd := Lib.hid HRd
            cases hdec : decN b with
            | none =>
              have hrd : rdNd b = (zeroN, 3) := rdNd_no hdec
              have HDec := Lib.hid hdec
              have HRD := Lib.hid hrd
              clear hrd hdec
              go_wp2_with fail
              clear hcvw hcvv q1 q2
              clear HBw HBv
              refine (HRd.out).mono ?_
              rintro e u6 ⟨mp, rfl, hNp, hmp, hb⟩
              rw [HRD.out] at hNp ⊢
              rw [show (((zeroN, (3 : Int)) : Nd × Int).1).leaf = false from rfl]
              replace hNp : NAt u6 zeroN mp := hNp
              replace HP := Lib.hid (HP.out.go hb)
              have hAp := (Below.refl u6.heap.size u6).alloc (Nat.le_refl _) (.cells #[.bool false, .slice mp.ka mp.kl mp.kc, .slice mp.ca mp.cl mp.cc, .slice mp.da mp.dl mp.dc] 26)
              replace HP := Lib.hid (HP.out.go hAp)
              have HPk := Lib.hid (Blk.new u6 26 #[.bool false, .slice mp.ka mp.kl mp.kc, .slice mp.ca mp.cl mp.cc, .slice mp.da mp.dl mp.dc])
              have HPn := Lib.hid (hNp.later hAp)
              clear hb hNp hAp HRd
              have HRr := rRead_any b ba b.length cap (u6.alloc (.cells #[.bool false, .slice mp.ka mp.kl mp.kc, .slice mp.ca mp.cl mp.cc, .slice mp.da mp.dl mp.dc] 26)) HP.out.bs rfl hlc hcm
              have HRr := Lib.hid HRr
              go_upto_region 14 with (fail)
              obtain ⟨V6, hV6⟩ : ∃ V6, (u6.alloc (.cells #[.bool false, .slice mp.ka mp.kl mp.kc, .slice mp.ca mp.cl mp.cc, .slice mp.da mp.dl mp.dc] 26)) = V6 := ⟨_, rfl⟩
              rw [hV6] at HP HPk HPn HRr
              rw [hV6]
              clear hV6
              generalize u6.heap.size = gp at *
              go_wp2_with fail
              refine (HRr.out).mono ?_
              rintro e u7 ⟨xq, eq, mq, rfl, hq, hRq, hmq, hb⟩
              obtain ⟨rfl, rfl⟩ : eq = 3 ∧ xq = zeroR := by
                rcases hq with ⟨h1, h2⟩ | ⟨h1, h2, h3⟩
                · rw [HDec.out] at h2; cases h2
                · exact ⟨h1, h2⟩
              replace HP := Lib.hid (HP.out.go hb)
              replace HPk := Lib.hid (HPk.out.bel hb HPk.out.lt)
              replace HPn := Lib.hid (HPn.out.later hb)
              have hAq := (Below.refl u7.heap.size u7).alloc (Nat.le_refl _) (.cells #[.bool zeroR.leaf, .int .i64 zeroR.kid, .slice mq.la mq.ll mq.lc] 32)
              replace HP := Lib.hid (HP.out.go hAq)
              replace HPk := Lib.hid (HPk.out.bel hAq HPk.out.lt)
              replace HPn := Lib.hid (HPn.out.later hAq)
              have HQk := Lib.hid (Blk.new u7 32 #[.bool zeroR.leaf, .int .i64 zeroR.kid, .slice mq.la mq.ll mq.lc])
              have HQn := Lib.hid (hRq.later hAq)
              clear hb hRq hAq HRr hq
              go_upto_region 15 with (fail)
              obtain ⟨V7, hV7⟩ : ∃ V7, (u7.alloc (.cells #[.bool zeroR.leaf, .int .i64 zeroR.kid, .slice mq.la mq.ll mq.lc] 32)) = V7 := ⟨_, rfl⟩
              rw [hV7] at HP HPk HPn HQk HQn
              rw [hV7]
              clear hV7
              generalize u7.heap.size = gq at *
              have p0 : V7.cell? ⟨gp, 0, none⟩ = some (.bool false) := Blk.cell HPk.out 0
              have p1 : V7.cell? ⟨gp, 1, none⟩ = some (.slice mp.ka mp.kl mp.kc) := Blk.cell HPk.out 1
              have p2 : V7.cell? ⟨gp, 2, none⟩ = some (.slice mp.ca mp.cl mp.cc) := Blk.cell HPk.out 2
              have p3 : V7.cell? ⟨gp, 3, none⟩ = some (.slice mp.da mp.dl mp.dc) := Blk.cell HPk.out 3
              have plt : gp < V7.heap.size := Blk.lt HPk.out
              have HSm := NSame_any zeroN zeroN mp zeroNB V7 HPn.out (NAt_zero _)
              rw [decide_eq_true (rfl : zeroN = zeroN)] at HSm
              have HSm := Lib.hid HSm
              go_wp2_with fail
              clear p0 p1 p2 p3 plt
              refine (HSm.out).mono ?_
              rintro e u8 ⟨rfl, hb⟩
              replace HP := Lib.hid (HP.out.go hb)
              clear hb HSm HPk HPn HQk HQn
              cases fi with
              | false =>
                go_wp2_with fail
                refine wp_region_ord [(0, false), (1, true), (2, true), (3, true), (4, true), (5, true), (6, true), (7, true), (8, true), (9, true), (10, true), (12, true), (13, true), (11, false), (14, false), (15, true), (16, true), (17, true), (18, true)] (by kernel_rfl) (by kernel_rfl) (by kernel_rfl) (by kernel_rfl) ?_
                refine wpO_C rfl (by rfl) ?_
                go_simp
                refine (HAl.out _).mono ?_
                rintro e a1 ⟨rfl, hb⟩
                refine ⟨hb, ?_⟩
                try simp only [Act.put, List.setIfInBounds_toArray, List.set_cons_zero, List.set_cons_succ]
                replace HP := Lib.hid (HP.out.go (show Below u8.heap.size u8 a1 from undrewL hb))
                clear hb
                repeat (first | (refine wpO_F (v := ?_) rfl (by rfl) (fun w' hL => ?_) ?_; rotate_left; (solve | (go_simp; with_reducible rfl) | go_simp); try simp only [Act.put, List.setIfInBounds_toArray, List.set_cons_zero, List.set_cons_succ]) | (refine wpO_G rfl (by rfl) ?_; try simp only [Act.put, List.setIfInBounds_toArray, List.set_cons_zero, List.set_cons_succ]))
                refine wpO_nil ?_
                go_wp2
                go_ret
                exact ⟨rfl, HP.out.bel⟩
              | true =>
                have HYe : Hid (y = m.asR) := HY.out (by trivial)
                have hEq : decide (n = m) = decide (x = y) := by rw [HXe.out, HYe.out]; exact asR_inj HSh.out HFi.out
                obtain ⟨sd, hsd⟩ : ∃ sd, decide (x = y) = sd := ⟨_, rfl⟩
                have HSd := Lib.hid hsd
                have HSd2 : Hid (decide (n = m) = sd) := hEq.trans hsd
                clear hEq hsd
                go_wp2_with fail
                refine wp_region_ord [(0, false), (1, true), (2, true), (3, true), (4, true), (5, true), (6, true), (7, true), (8, true), (9, true), (10, true), (12, true), (13, true), (11, false), (14, false), (15, true), (16, true), (17, true), (18, true)] (by kernel_rfl) (by kernel_rfl) (by kernel_rfl) (by kernel_rfl) ?_
                refine wpO_C rfl (by rfl) ?_
                go_simp
                refine (HAl.out _).mono ?_
                rintro e a1 ⟨rfl, hb⟩
                refine ⟨hb, ?_⟩
                try simp only [Act.put, List.setIfInBounds_toArray, List.set_cons_zero, List.set_cons_succ]
                replace HP := Lib.hid (HP.out.go (show Below u8.heap.size u8 a1 from undrewL hb))
                clear hb
                have n0 : ∀ W, Later a1 W → W.cell? ⟨w.heap.size, 0, none⟩ = some (.bool lf) := fun W hW => Blk.cell (HP.out.go hW).n0 0
                have n1 : ∀ W, Later a1 W → W.cell? ⟨w.heap.size, 1, none⟩ = some (.slice ka kl kc) := fun W hW => Blk.cell (HP.out.go hW).n0 1
                have n2 : ∀ W, Later a1 W → W.cell? ⟨w.heap.size, 2, none⟩ = some (.slice ca cl cc) := fun W hW => Blk.cell (HP.out.go hW).n0 2
                have n3 : ∀ W, Later a1 W → W.cell? ⟨w.heap.size, 3, none⟩ = some (.slice da dl dc) := fun W hW => Blk.cell (HP.out.go hW).n0 3
                have m0 : ∀ W, Later a1 W → W.cell? ⟨w.heap.size + 1, 0, none⟩ = some (.bool mf) := fun W hW => Blk.cell (HP.out.go hW).m0 0
                have m1 : ∀ W, Later a1 W → W.cell? ⟨w.heap.size + 1, 1, none⟩ = some (.slice ka2 kl2 kc2) := fun W hW => Blk.cell (HP.out.go hW).m0 1
                have m2 : ∀ W, Later a1 W → W.cell? ⟨w.heap.size + 1, 2, none⟩ = some (.slice ca2 cl2 cc2) := fun W hW => Blk.cell (HP.out.go hW).m0 2
                have m3 : ∀ W, Later a1 W → W.cell? ⟨w.heap.size + 1, 3, none⟩ = some (.slice da2 dl2 dc2) := fun W hW => Blk.cell (HP.out.go hW).m0 3
                have x0 : ∀ W, Later a1 W → W.cell? ⟨gx, 0, none⟩ = some (.bool x.leaf) := fun W hW => Blk.cell (HP.out.go hW).x0 0
                have x1 : ∀ W, Later a1 W → W.cell? ⟨gx, 1, none⟩ = some (.int .i64 x.kid) := fun W hW => Blk.cell (HP.out.go hW).x0 1
                have x2 : ∀ W, Later a1 W → W.cell? ⟨gx, 2, none⟩ = some (.slice mx.la mx.ll mx.lc) := fun W hW => Blk.cell (HP.out.go hW).x0 2
                have y0 : ∀ W, Later a1 W → W.cell? ⟨gy, 0, none⟩ = some (.bool y.leaf) := fun W hW => Blk.cell (HP.out.go hW).y0 0
                have y1 : ∀ W, Later a1 W → W.cell? ⟨gy, 1, none⟩ = some (.int .i64 y.kid) := fun W hW => Blk.cell (HP.out.go hW).y0 1
                have y2 : ∀ W, Later a1 W → W.cell? ⟨gy, 2, none⟩ = some (.slice my.la my.ll my.lc) := fun W hW => Blk.cell (HP.out.go hW).y0 2
                repeat (first | (refine wpO_F (v := ?_) rfl (by rfl) (fun w' hL => ?_) ?_; rotate_left; (solve | (go_simp; with_reducible rfl) | go_simp); try simp only [Act.put, List.setIfInBounds_toArray, List.set_cons_zero, List.set_cons_succ]) | (refine wpO_G rfl (by rfl) ?_; try simp only [Act.put, List.setIfInBounds_toArray, List.set_cons_zero, List.set_cons_succ]))
                clear n0 n1 n2 n3 m0 m1 m2 m3 x0 x1 x2 y0 y1 y2
                have HS1 := NSame_any n m ⟨ka, kl, kc, ca, cl, cc, da, dl, dc⟩ ⟨ka2, kl2, kc2, ca2, cl2, cc2, da2, dl2, dc2⟩ a1 HP.out.nn HP.out.nm
                rw [HLf.out, HMf.out, HSd2.out] at HS1
                refine wpO_C rfl (by rfl) ?_
                go_simp
                refine (HS1).mono ?_
                rintro e a2 ⟨rfl, hb⟩
                refine ⟨hb, ?_⟩
                try simp only [Act.put, List.setIfInBounds_toArray, List.set_cons_zero, List.set_cons_succ]
                replace HP := Lib.hid (HP.out.go hb)
                clear hb HS1
                repeat (first | (refine wpO_F (v := ?_) rfl (by rfl) (fun w' hL => ?_) ?_; rotate_left; (solve | (go_simp; with_reducible rfl) | go_simp); try simp only [Act.put, List.setIfInBounds_toArray, List.set_cons_zero, List.set_cons_succ]) | (refine wpO_G rfl (by rfl) ?_; try simp only [Act.put, List.setIfInBounds_toArray, List.set_cons_zero, List.set_cons_succ]))
                have HS2 := rSame_any x y mx my a2 HP.out.ax HP.out.ay
                rw [HSd.out] at HS2
                refine wpO_C rfl (by rfl) ?_
                go_simp
                refine (HS2).mono ?_
                rintro e a3 ⟨rfl, hb⟩
                refine ⟨hb, ?_⟩
                try simp only [Act.put, List.setIfInBounds_toArray, List.set_cons_zero, List.set_cons_succ]
                replace HP := Lib.hid (HP.out.go hb)
                clear hb HS2
                cases sd
                all_goals
                  repeat (first | (refine wpO_F (v := ?_) rfl (by rfl) (fun w' hL => ?_) ?_; rotate_left; (solve | (go_simp; with_reducible rfl) | go_simp); try simp only [Act.put, List.setIfInBounds_toArray, List.set_cons_zero, List.set_cons_succ]) | (refine wpO_G rfl (by rfl) ?_; try simp only [Act.put, List.setIfInBounds_toArray, List.set_cons_zero, List.set_cons_succ]))
                  refine wpO_nil ?_
                  go_wp2
                  go_ret
                  exact ⟨rfl, HP.out.bel⟩
            | some zr =>
              have hrd : rdNd b = (zr.asN, 0) := rdNd_yes hdec
              have HDec := Lib.hid hdec
              have HRD := Lib.hid hrd
              clear hrd hdec
              go_wp2_with fail
              clear hcvw hcvv q1 q2
              clear HBw HBv
              refine (HRd.out).mono ?_
              rintro e u6 ⟨mp, rfl, hNp, hmp, hb⟩
              rw [HRD.out] at hNp ⊢
              rw [show (((zr.asN, (0 : Int)) : Nd × Int).1).leaf = zr.leaf from asN_leaf zr]
              replace hNp : NAt u6 zr.asN mp := hNp
              replace HP := Lib.hid (HP.out.go hb)
              have hAp := (Below.refl u6.heap.size u6).alloc (Nat.le_refl _) (.cells #[.bool zr.leaf, .slice mp.ka mp.kl mp.kc, .slice mp.ca mp.cl mp.cc, .slice mp.da mp.dl mp.dc] 26)
              replace HP := Lib.hid (HP.out.go hAp)
              have HPk := Lib.hid (Blk.new u6 26 #[.bool zr.leaf, .slice mp.ka mp.kl mp.kc, .slice mp.ca mp.cl mp.cc, .slice mp.da mp.dl mp.dc])
              have HPn := Lib.hid (hNp.later hAp)
              clear hb hNp hAp HRd
              have HRr := rRead_any b ba b.length cap (u6.alloc (.cells #[.bool zr.leaf, .slice mp.ka mp.kl mp.kc, .slice mp.ca mp.cl mp.cc, .slice mp.da mp.dl mp.dc] 26)) HP.out.bs rfl hlc hcm
              have HRr := Lib.hid HRr
              go_upto_region 14 with (fail)
              obtain ⟨V6, hV6⟩ : ∃ V6, (u6.alloc (.cells #[.bool zr.leaf, .slice mp.ka mp.kl mp.kc, .slice mp.ca mp.cl mp.cc, .slice mp.da mp.dl mp.dc] 26)) = V6 := ⟨_, rfl⟩
              rw [hV6] at HP HPk HPn HRr
              rw [hV6]
              clear hV6
              generalize u6.heap.size = gp at *
              go_wp2_with fail
              refine (HRr.out).mono ?_
              rintro e u7 ⟨xq, eq, mq, rfl, hq, hRq, hmq, hb⟩
              obtain ⟨rfl, rfl⟩ : eq = 0 ∧ zr = xq := by
                rcases hq with ⟨h1, h2⟩ | ⟨h1, h2, h3⟩
                · rw [HDec.out] at h2; exact ⟨h1, Option.some.inj h2⟩
                · rw [HDec.out] at h3; cases h3
              replace HP := Lib.hid (HP.out.go hb)
              replace HPk := Lib.hid (HPk.out.bel hb HPk.out.lt)
              replace HPn := Lib.hid (HPn.out.later hb)
              have hAq := (Below.refl u7.heap.size u7).alloc (Nat.le_refl _) (.cells #[.bool zr.leaf, .int .i64 zr.kid, .slice mq.la mq.ll mq.lc] 32)
              replace HP := Lib.hid (HP.out.go hAq)
              replace HPk := Lib.hid (HPk.out.bel hAq HPk.out.lt)
              replace HPn := Lib.hid (HPn.out.later hAq)
              have HQk := Lib.hid (Blk.new u7 32 #[.bool zr.leaf, .int .i64 zr.kid, .slice mq.la mq.ll mq.lc])
              have HQn := Lib.hid (hRq.later hAq)
              clear hb hRq hAq HRr hq
              go_upto_region 15 with (fail)
              obtain ⟨V7, hV7⟩ : ∃ V7, (u7.alloc (.cells #[.bool zr.leaf, .int .i64 zr.kid, .slice mq.la mq.ll mq.lc] 32)) = V7 := ⟨_, rfl⟩
              rw [hV7] at HP HPk HPn HQk HQn
              rw [hV7]
              clear hV7
              generalize u7.heap.size = gq at *
              have p0 : V7.cell? ⟨gp, 0, none⟩ = some (.bool zr.leaf) := Blk.cell HPk.out 0
              have p1 : V7.cell? ⟨gp, 1, none⟩ = some (.slice mp.ka mp.kl mp.kc) := Blk.cell HPk.out 1
              have p2 : V7.cell? ⟨gp, 2, none⟩ = some (.slice mp.ca mp.cl mp.cc) := Blk.cell HPk.out 2
              have p3 : V7.cell? ⟨gp, 3, none⟩ = some (.slice mp.da mp.dl mp.dc) := Blk.cell HPk.out 3
              have plt : gp < V7.heap.size := Blk.lt HPk.out
              have k0 : V7.cell? ⟨gq, 0, none⟩ = some (.bool zr.leaf) := Blk.cell HQk.out 0
              have k1 : V7.cell? ⟨gq, 1, none⟩ = some (.int .i64 zr.kid) := Blk.cell HQk.out 1
              have k2 : V7.cell? ⟨gq, 2, none⟩ = some (.slice mq.la mq.ll mq.lc) := Blk.cell HQk.out 2
              have klt : gq < V7.heap.size := Blk.lt HQk.out
              have HSm := lsame_any zr.asN mp zr mq V7 HPn.out HQn.out (by omega)
              have hpl := asR_asN (page_decN HP.out.bs.1 HDec.out).1.plain
              rw [hpl.1, hpl.2, decide_eq_true (rfl : zr = zr), Bool.and_self, asN_leaf] at HSm
              have HSm := Lib.hid HSm
              clear hpl
              go_wp2_with fail
              clear p0 p1 p2 p3 plt
              clear k0 k1 k2 klt
              refine (HSm.out).mono ?_
              rintro e u8 ⟨rfl, hb⟩
              replace HP := Lib.hid (HP.out.go hb)
              clear hb HSm HPk HPn HQk HQn
              cases fi with
              | false =>
                go_wp2_with fail
                refine wp_region_ord [(0, false), (1, true), (2, true), (3, true), (4, true), (5, true), (6, true), (7, true), (8, true), (9, true), (10, true), (12, true), (13, true), (11, false), (14, false), (15, true), (16, true), (17, true), (18, true)] (by kernel_rfl) (by kernel_rfl) (by kernel_rfl) (by kernel_rfl) ?_
                refine wpO_C rfl (by rfl) ?_
                go_simp
                refine (HAl.out _).mono ?_
                rintro e a1 ⟨rfl, hb⟩
                refine ⟨hb, ?_⟩
                try simp only [Act.put, List.setIfInBounds_toArray, List.set_cons_zero, List.set_cons_succ]
                replace HP := Lib.hid (HP.out.go (show Below u8.heap.size u8 a1 from undrewL hb))
                clear hb
                repeat (first | (refine wpO_F (v := ?_) rfl (by rfl) (fun w' hL => ?_) ?_; rotate_left; (solve | (go_simp; with_reducible rfl) | go_simp); try simp only [Act.put, List.setIfInBounds_toArray, List.set_cons_zero, List.set_cons_succ]) | (refine wpO_G rfl (by rfl) ?_; try simp only [Act.put, List.setIfInBounds_toArray, List.set_cons_zero, List.set_cons_succ]))
                refine wpO_nil ?_
                go_wp2
                go_ret
                exact ⟨rfl, HP.out.bel⟩
              | true =>
                have HYe : Hid (y = m.asR) := HY.out (by trivial)
                have hEq : decide (n = m) = decide (x = y) := by rw [HXe.out, HYe.out]; exact asR_inj HSh.out HFi.out
                obtain ⟨sd, hsd⟩ : ∃ sd, decide (x = y) = sd := ⟨_, rfl⟩
                have HSd := Lib.hid hsd
                have HSd2 : Hid (decide (n = m) = sd) := hEq.trans hsd
                clear hEq hsd
                go_wp2_with fail
                refine wp_region_ord [(0, false), (1, true), (2, true), (3, true), (4, true), (5, true), (6, true), (7, true), (8, true), (9, true), (10, true), (12, true), (13, true), (11, false), (14, false), (15, true), (16, true), (17, true), (18, true)] (by kernel_rfl) (by kernel_rfl) (by kernel_rfl) (by kernel_rfl) ?_
                refine wpO_C rfl (by rfl) ?_
                go_simp
                refine (HAl.out _).mono ?_
                rintro e a1 ⟨rfl, hb⟩
                refine ⟨hb, ?_⟩
                try simp only [Act.put, List.setIfInBounds_toArray, List.set_cons_zero, List.set_cons_succ]
                replace HP := Lib.hid (HP.out.go (show Below u8.heap.size u8 a1 from undrewL hb))
                clear hb
                have n0 : ∀ W, Later a1 W → W.cell? ⟨w.heap.size, 0, none⟩ = some (.bool lf) := fun W hW => Blk.cell (HP.out.go hW).n0 0
                have n1 : ∀ W, Later a1 W → W.cell? ⟨w.heap.size, 1, none⟩ = some (.slice ka kl kc) := fun W hW => Blk.cell (HP.out.go hW).n0 1
                have n2 : ∀ W, Later a1 W → W.cell? ⟨w.heap.size, 2, none⟩ = some (.slice ca cl cc) := fun W hW => Blk.cell (HP.out.go hW).n0 2
                have n3 : ∀ W, Later a1 W → W.cell? ⟨w.heap.size, 3, none⟩ = some (.slice da dl dc) := fun W hW => Blk.cell (HP.out.go hW).n0 3
                have m0 : ∀ W, Later a1 W → W.cell? ⟨w.heap.size + 1, 0, none⟩ = some (.bool mf) := fun W hW => Blk.cell (HP.out.go hW).m0 0
                have m1 : ∀ W, Later a1 W → W.cell? ⟨w.heap.size + 1, 1, none⟩ = some (.slice ka2 kl2 kc2) := fun W hW => Blk.cell (HP.out.go hW).m0 1
                have m2 : ∀ W, Later a1 W → W.cell? ⟨w.heap.size + 1, 2, none⟩ = some (.slice ca2 cl2 cc2) := fun W hW => Blk.cell (HP.out.go hW).m0 2
                have m3 : ∀ W, Later a1 W → W.cell? ⟨w.heap.size + 1, 3, none⟩ = some (.slice da2 dl2 dc2) := fun W hW => Blk.cell (HP.out.go hW).m0 3
                have x0 : ∀ W, Later a1 W → W.cell? ⟨gx, 0, none⟩ = some (.bool x.leaf) := fun W hW => Blk.cell (HP.out.go hW).x0 0
                have x1 : ∀ W, Later a1 W → W.cell? ⟨gx, 1, none⟩ = some (.int .i64 x.kid) := fun W hW => Blk.cell (HP.out.go hW).x0 1
                have x2 : ∀ W, Later a1 W → W.cell? ⟨gx, 2, none⟩ = some (.slice mx.la mx.ll mx.lc) := fun W hW => Blk.cell (HP.out.go hW).x0 2
                have y0 : ∀ W, Later a1 W → W.cell? ⟨gy, 0, none⟩ = some (.bool y.leaf) := fun W hW => Blk.cell (HP.out.go hW).y0 0
                have y1 : ∀ W, Later a1 W → W.cell? ⟨gy, 1, none⟩ = some (.int .i64 y.kid) := fun W hW => Blk.cell (HP.out.go hW).y0 1
                have y2 : ∀ W, Later a1 W → W.cell? ⟨gy, 2, none⟩ = some (.slice my.la my.ll my.lc) := fun W hW => Blk.cell (HP.out.go hW).y0 2
                repeat (first | (refine wpO_F (v := ?_) rfl (by rfl) (fun w' hL => ?_) ?_; rotate_left; (solve | (go_simp; with_reducible rfl) | go_simp); try simp only [Act.put, List.setIfInBounds_toArray, List.set_cons_zero, List.set_cons_succ]) | (refine wpO_G rfl (by rfl) ?_; try simp only [Act.put, List.setIfInBounds_toArray, List.set_cons_zero, List.set_cons_succ]))
                clear n0 n1 n2 n3 m0 m1 m2 m3 x0 x1 x2 y0 y1 y2
                have HS1 := NSame_any n m ⟨ka, kl, kc, ca, cl, cc, da, dl, dc⟩ ⟨ka2, kl2, kc2, ca2, cl2, cc2, da2, dl2, dc2⟩ a1 HP.out.nn HP.out.nm
                rw [HLf.out, HMf.out, HSd2.out] at HS1
                refine wpO_C rfl (by rfl) ?_
                go_simp
                refine (HS1).mono ?_
                rintro e a2 ⟨rfl, hb⟩
                refine ⟨hb, ?_⟩
                try simp only [Act.put, List.setIfInBounds_toArray, List.set_cons_zero, List.set_cons_succ]
                replace HP := Lib.hid (HP.out.go hb)
                clear hb HS1
                repeat (first | (refine wpO_F (v := ?_) rfl (by rfl) (fun w' hL => ?_) ?_; rotate_left; (solve | (go_simp; with_reducible rfl) | go_simp); try simp only [Act.put, List.setIfInBounds_toArray, List.set_cons_zero, List.set_cons_succ]) | (refine wpO_G rfl (by rfl) ?_; try simp only [Act.put, List.setIfInBounds_toArray, List.set_cons_zero, List.set_cons_succ]))
                have HS2 := rSame_any x y mx my a2 HP.out.ax HP.out.ay
                rw [HSd.out] at HS2
                refine wpO_C rfl (by rfl) ?_
                go_simp
                refine (HS2).mono ?_
                rintro e a3 ⟨rfl, hb⟩
                refine ⟨hb, ?_⟩
                try simp only [Act.put, List.setIfInBounds_toArray, List.set_cons_zero, List.set_cons_succ]
                replace HP := Lib.hid (HP.out.go hb)
                clear hb HS2
                cases sd
                all_goals
                  repeat (first | (refine wpO_F (v := ?_) rfl (by rfl) (fun w' hL => ?_) ?_; rotate_left; (solve | (go_simp; with_reducible rfl) | go_simp); try simp only [Act.put, List.setIfInBounds_toArray, List.set_cons_zero, List.set_cons_succ]) | (refine wpO_G rfl (by rfl) ?_; try simp only [Act.put, List.setIfInBounds_toArray, List.set_cons_zero, List.set_cons_succ]))
                  refine wpO_nil ?_
                  go_wp2
                  go_ret
                  exact ⟨rfl, HP.out.bel⟩
end Go.Proofs.Ytlcphgomhhejbaa
