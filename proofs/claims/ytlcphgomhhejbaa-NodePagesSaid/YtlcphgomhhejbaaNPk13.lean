/- Several texts of one proof, one behind the other. -/
import Derived.Test.YtlcphgomhhejbaaNPk12
import Derived.Deep.AppendLies
set_option linter.unusedSimpArgs false
set_option linter.unusedVariables false

/- The disk in memory; its small methods. -/
namespace Go.Proofs.Ytlcphgomhhejbaa
open Go.RowKit

/-- The cells of a write. -/
def Wr.cells (x : Wr) : List Value := .int .i64 (x.f : Int) :: .int .i64 (x.s : Int) :: x.b.map fun (c : Nat) => Value.int .u8 (c : Int)
def cellsW (l : List Wr) : List Value := l.flatMap Wr.cells

/-- What a map of sectors has at a key. -/
def Cont.key (c : Cont) (x : List Nat) : Option (List Nat) := match x with
  | [f, s] => c.get f s
  | _ => none

/-- The row of a disk. -/
def rowD (B : Nat) (d : DS) (Mv Md : Nat) (pv : Value) : Array Value :=
  #[.pointer (some ⟨B, 0, none⟩), .int .i64 (d.quota : Int), .map (some Mv), .int .i64 (d.vis.len 0 : Int), .int .i64 (d.vis.len 1 : Int), .map (some Md), .int .i64 (d.dur.len 0 : Int), .int .i64 (d.dur.len 1 : Int), pv,
    .int .i64 (d.calls : Int), .int .i64 (leftI d.left), .bool d.down]

def footD (B Mv Md : Nat) (pv : Value) : List Nat := B :: Mv :: Md :: pv.ownBlock.toList

theorem own_lt {w : World} {base : Nat} {e : TypeId} {size n : Nat} {v : Value} {xs : List Value} (h : w.ownsRow base e size v n xs) {g : Nat} (hg : v.ownBlock = some g) : g < w.heap.size := by
  rcases h.2 with ⟨rfl, _⟩ | ⟨g', cap, cur, rfl, _, hh, _⟩
  · simp [Value.ownBlock] at hg
  · have : g' = g := by simpa [Value.ownBlock] using hg
    subst this
    exact Blk.lt (t := e) hh
theorem own_keep {w w' : World} {base : Nat} {e : TypeId} {size n : Nat} {v : Value} {xs : List Value} (h : w.ownsRow base e size v n xs) (hk : ∀ g, v.ownBlock = some g → w'.heap[g]? = w.heap[g]?) : w'.ownsRow base e size v n xs := by
  refine ⟨h.1, ?_⟩
  rcases h.2 with h2 | ⟨g, cap, cur, hv, hg, hh, r⟩
  · exact .inl h2
  · exact .inr ⟨g, cap, cur, hv, hg, by rw [hk g (by rw [hv]; rfl)]; exact hh, r⟩
theorem own_chg {w w' : World} {base : Nat} {e : TypeId} {size n : Nat} {v : Value} {xs : List Value} {S : List Nat} (h : w.ownsRow base e size v n xs) (hc : Chg S w w') (hn : ∀ g, v.ownBlock = some g → g ∉ S) : w'.ownsRow base e size v n xs :=
  own_keep h fun g hg => hc.block g (own_lt h hg) (hn g hg)
theorem own_ne {w : World} {base : Nat} {e : TypeId} {size n : Nat} {v : Value} {xs : List Value} (h : w.ownsRow base e size v n xs) {g : Nat} {t : TypeId} {cs : Array Value} (hb : Blk w g t cs) (hne : e ≠ t) : v.ownBlock ≠ some g := by
  rcases h.2 with ⟨rfl, _⟩ | ⟨g', cap, cur, rfl, _, hh, _⟩
  · simp [Value.ownBlock]
  · intro he
    have : g' = g := by simpa [Value.ownBlock] using he
    subst this
    exact Blk.ne_ (t := e) hh hb hne rfl
theorem own_ne_map {w : World} {base : Nat} {e : TypeId} {size n : Nat} {v : Value} {xs : List Value} (h : w.ownsRow base e size v n xs) {k kv : IntKind} {m : Nat} {b : Nat} {g : List Nat → Option (List Nat)} (hb : MapA k kv m w b g) : v.ownBlock ≠ some b := by
  rcases h.2 with ⟨rfl, _⟩ | ⟨g', cap, cur, rfl, _, hh, _⟩
  · simp [Value.ownBlock]
  · intro he
    have : g' = b := by simpa [Value.ownBlock] using he
    subst this
    exact hb.ne_blk (t := e) hh rfl

/-! Equal pointers -/
theorem run_eql_same {P : Program} {t e : TypeId} {n : Nat} (a : Addr) (ht : P.underlying t = some (.pointer e)) (hi : (P.info? e).map (·.size) = some (n + 1)) (w : World) :
    (binOp .eql t (.pointer (some a)) (.pointer (some a))).run P w = .ok (.bool true) w := by
  cases hq : P.info? e with
  | none => simp [hq] at hi
  | some i =>
    have hs : i.size = n + 1 := by simpa [hq] using hi
    have : ∀ d, (Op.equalIn (d + 1) t (.pointer (some a)) (.pointer (some a))).run P w = .ok true w := by
      intro d
      simp [Op.equalIn, run_underlying ht, sizeOf, typeInfo, hq, hs, sameAddr]
    have h2 : (Op.equal t (.pointer (some a)) (.pointer (some a))).run P w = .ok true w := this 9999
    simp only [binOp]
    simp [h2]
theorem run_eql_none {P : Program} {t e : TypeId} (a : Addr) (ht : P.underlying t = some (.pointer e)) (w : World) :
    (binOp .eql t (.pointer none) (.pointer (some a))).run P w = .ok (.bool false) w := by
  have : ∀ d, (Op.equalIn (d + 1) t (.pointer none) (.pointer (some a))).run P w = .ok false w := by
    intro d
    simp [Op.equalIn, run_underlying ht]
  have h2 : (Op.equal t (.pointer none) (.pointer (some a))).run P w = .ok false w := this 9999
  simp only [binOp]
  simp [h2]

/-! made, isFile, isQuota -/
def isFileB (f : Int) : Bool := decide (0 ≤ f) && decide (f < 2)
def isQuotaB (q : Int) : Bool := decide (1 ≤ q) && decide (q ≤ 65536)
end Go.Proofs.Ytlcphgomhhejbaa

/- The walks of the reader's number and endsInZeros; appends as one operation. -/
namespace Go.Proofs.Ytlcphgomhhejbaa
open Go.RowKit

def rdN (s : ByteArray) (at_ : Nat) (ok : Bool) (k : Nat) : Nat × Nat × Bool := (valL (bytesOf (rdT s at_ ok k).1), (rdT s at_ ok k).2)
def RetNm (w : World) (rb : Nat) (s : ByteArray) (r : Nat × Nat × Bool) (e : Ending) (w' : World) : Prop := e = .returned (.int .i64 (r.1 : Int)) ∧ Rdr w' rb s r.2.1 r.2.2 ∧ Chg [rb] w w'

theorem rdT_size (s : ByteArray) (at_ : Nat) (ok : Bool) (k : Nat) : (rdT s at_ ok k).1.size ≤ k := by
  unfold rdT
  split
  · simp only; rw [strN_size, cutL_len (by rw [bytesOf_len]; assumption)]; exact Nat.le_refl _
  · simp [ByteArray.size]
theorem rdT_at (s : ByteArray) (at_ : Nat) (ok : Bool) (k : Nat) (h : at_ ≤ s.size) : (rdT s at_ ok k).2.1 ≤ s.size := by
  unfold rdT
  split
  · simpa using ‹_›
  · exact h
theorem rdN_at (s : ByteArray) (at_ : Nat) (ok : Bool) (k : Nat) (h : at_ ≤ s.size) : (rdN s at_ ok k).2.1 ≤ s.size := rdT_at s at_ ok k h
theorem rdN_lt (s : ByteArray) (at_ : Nat) (ok : Bool) (k : Nat) : (rdN s at_ ok k).1 < 256 ^ k := by
  have h1 := valL_lt _ (bytesOf_lt (rdT s at_ ok k).1)
  rw [bytesOf_len] at h1
  exact Nat.lt_of_lt_of_le h1 (Nat.pow_le_pow_right (by omega) (rdT_size s at_ ok k))

theorem rnumber_any (rb : Nat) (s : ByteArray) (at_ k : Nat) (ok : Bool) (ki : Int) (w : World) (hki : ki = (k : Int)) (h : Rdr w rb s at_ ok) (hat : at_ ≤ s.size) (hs : s.size ≤ 1000000) (hk : k ≤ 7) :
    Calls Try.prog 38 #[.pointer (some ⟨rb, 0, none⟩), .int .i64 ki] w (RetNm w rb s (rdN s at_ ok k)) := by
  have HT := Lib.hid (rtext_any rb s at_ k ok ki w hki h hat hs (by omega))
  clear hki
  have hsz := rdT_size s at_ ok k
  have HG := Lib.hid (fun W => get_any (rdT s at_ ok k).1 (by omega) W)
  have hr : rdN s at_ ok k = (valL (bytesOf (rdT s at_ ok k).1), (rdT s at_ ok k).2) := rfl
  rw [hr]
  clear hsz hr h
  generalize rdT s at_ ok k = r at *
  obtain ⟨tx, a2, ok2⟩ := r
  have HT2 : Hid (Calls Try.prog 60 #[.pointer (some ⟨rb, 0, none⟩), .int .i64 ki] w fun e w' => e = .returned (.string tx) ∧ Rdr w' rb s a2 ok2 ∧ Chg [rb] w w') := HT.out
  have HG2 : Hid (∀ W, Calls Try.prog 59 #[.string tx] W fun e w' => e = .returned (.int .i64 ((valL (bytesOf tx) : Nat) : Int)) ∧ W = w') := HG.out
  have HF : Hid (∀ w', Rdr w' rb s a2 ok2 → Chg [rb] w w' → RetNm w rb s (valL (bytesOf tx), a2, ok2) (.returned (.int .i64 ((valL (bytesOf tx) : Nat) : Int))) w') := fun w' h1 h2 => ⟨rfl, h1, h2⟩
  clear HT HG
  simp only
  generalize RetNm w rb s (valL (bytesOf tx), a2, ok2) = RR at *
  generalize valL (bytesOf tx) = vv at *
  go_enter Try.func38, Try.ntmps38
  go_wp2_with fail
  refine HT2.out.mono ?_
  rintro e w1 ⟨rfl, hR1, hC1⟩
  have HR1 := Lib.hid hR1
  clear hR1
  go_wp2_with fail
  refine (HG2.out _).mono ?_
  rintro e w2 ⟨rfl, rfl⟩
  go_wp2
  exact HF.out _ HR1.out hC1

/-- 'append(s, x)', x just laid in a block of its own: one operation. -/
theorem wp_appC {P : Program} {o : Oper} {a : Act} {K : Act → World → Prop} {Q : Exit → Act → World → Prop} (s x : Operand) (t : TypeId)
    (ho : o.op = .call { callee := .builtin .append, args := #[s, x], argTypes := #[t, t] })
    (base : Nat) (e : TypeId) (i : TypeInfo) (zr : Value) (z bytes : Nat) (ht : P.underlying t = some (.slice e)) (hi : P.info? e = some i) (hz : i.zero = some zr) (hzs : zr.cells.size = z)
    (hsize : i.size = z) (hz0 : 0 < z) (hby : i.bytes = bytes) (hb100 : bytes ≤ 100)
    (v : Value) (n : Nat) (l news : List Value) (w : World) (hown : w.ownsRow base e z v n l) (hs : a.eval s = v) (cs : Array Value) (hcs : cs = news.toArray) (hl : news.length = z) (h1 : ∀ u ∈ news, u.oneCell' = true)
    (hx : a.eval x = .slice (some ⟨w.heap.size, 0, none⟩) 1 1) (hlen : n < 1000000000000) (hbase : base ≤ w.heap.size)
    (h : ∀ v' w', w'.ownsRow base e z v' (n + 1) (l ++ news) → Chg v.ownBlock.toList (w.alloc (.cells cs e)) w' → w.heap.size < w'.heap.size → K (a.put o.dst v') w') :
    o.wp P a (w.alloc (.cells cs e)) K Q := by
  subst hcs
  refine wp_append_own (w.alloc (.cells news.toArray e)) s x t ho base e i zr z bytes ht hi hz hsize hby hzs hz0 v n _ hs (World.ownsRow.alloc hown _) ⟨w.heap.size, 0, none⟩ 1 1 news hx (by rw [hl]; omega) ?_ h1 ?_ ?_ ?_ ?_
  · intro j u hj
    have e0 : (⟨w.heap.size, 0, none⟩ : Addr).add j = ⟨w.heap.size, j, none⟩ := by
      unfold Addr.add; split <;> simp_all
    rw [e0, World.cell?_alloc_at _ _ _ _ rfl]
    simpa using hj
  · unfold maxLen; omega
  · have : (n + 1) * bytes ≤ 1000000000000 * 100 := Nat.mul_le_mul (by omega) hb100
    omega
  · simp; omega
  · intro v' w' hown' hgrow _
    have hsz := hgrow.size
    refine h v' w' hown' ⟨hgrow.os, hgrow.tape, hgrow.output, hsz, fun k hk hn => ?_⟩ (by simp at hsz; omega)
    exact hgrow.block k hk (by intro he; apply hn; rw [Option.mem_toList]; exact he.symm)
/-- The same in a list of operations. -/
theorem wpList_appC {P : Program} {ops : Array Oper} {rest : List Oper} {o : Oper} {a : Act} {Q : Exit → Act → World → Prop} (hgd : o.guard = none) (s x : Operand) (t : TypeId)
    (ho : o.op = .call { callee := .builtin .append, args := #[s, x], argTypes := #[t, t] })
    (base : Nat) (e : TypeId) (i : TypeInfo) (zr : Value) (z bytes : Nat) (ht : P.underlying t = some (.slice e)) (hi : P.info? e = some i) (hz : i.zero = some zr) (hzs : zr.cells.size = z)
    (hsize : i.size = z) (hz0 : 0 < z) (hby : i.bytes = bytes) (hb100 : bytes ≤ 100)
    (v : Value) (n : Nat) (l news : List Value) (w : World) (hown : w.ownsRow base e z v n l) (hs : a.eval s = v) (cs : Array Value) (hcs : cs = news.toArray) (hl : news.length = z) (h1 : ∀ u ∈ news, u.oneCell' = true)
    (hx : a.eval x = .slice (some ⟨w.heap.size, 0, none⟩) 1 1) (hlen : n < 1000000000000) (hbase : base ≤ w.heap.size)
    (h : ∀ v' w', w'.ownsRow base e z v' (n + 1) (l ++ news) → Chg v.ownBlock.toList (w.alloc (.cells cs e)) w' → w.heap.size < w'.heap.size → wpList P ops Q rest (a.put o.dst v') w') :
    wpList P ops Q (o :: rest) a (w.alloc (.cells cs e)) :=
  wpList_plain hgd fun _ hK => wp_appC s x t ho base e i zr z bytes ht hi hz hzs hsize hz0 hby hb100 v n l news w hown hs cs hcs hl h1 hx hlen hbase fun v' w' h2 h3 h4 => hK _ _ (h v' w' h2 h3 h4)
end Go.Proofs.Ytlcphgomhhejbaa

/- A round of the reader's leaf, and of its inner, as mathematics. -/
namespace Go.Proofs.Ytlcphgomhhejbaa
open Go.RowKit

/-- A part of a leaf. -/
def rdL (s : ByteArray) (at_ : Nat) (ok : Bool) : Pt × Nat × Bool :=
  let a := rdN s at_ ok 1
  let b := rdN s a.2.1 a.2.2 2
  let c := rdT s b.2.1 b.2.2 a.1
  if b.1 ≤ 120 then
    let d := rdT s c.2.1 c.2.2 b.1
    (⟨c.1, (b.1 : Int), d.1, 0⟩, d.2)
  else
    let d := rdN s c.2.1 c.2.2 4
    (⟨c.1, (b.1 : Int), ⟨#[]⟩, (d.1 : Int)⟩, d.2)

/-- A part of another node. -/
def rdI (s : ByteArray) (at_ : Nat) (ok : Bool) : Pt × Nat × Bool :=
  let a := rdN s at_ ok 1
  let c := rdT s a.2.1 a.2.2 a.1
  let d := rdN s c.2.1 c.2.2 4
  (⟨c.1, 0, ⟨#[]⟩, (d.1 : Int)⟩, d.2)

theorem rdT_no (s : ByteArray) (at_ k : Nat) : (rdT s at_ false k).2.2 = false := by
  unfold rdT; split <;> rfl
theorem rdT_yes {s : ByteArray} {at_ k : Nat} {ok : Bool} (h : (rdT s at_ ok k).2.2 = true) : ok = true ∧ at_ + k ≤ s.size ∧ rdT s at_ ok k = (strN (cutL (bytesOf s) at_ k), at_ + k, true) := by
  unfold rdT at h ⊢
  split at h
  · rename_i hf; simp only at h; subst h; exact ⟨rfl, hf, by rw [if_pos hf]⟩
  · simp at h
theorem rdT_fit {s : ByteArray} {at_ k : Nat} (h : at_ + k ≤ s.size) : rdT s at_ true k = (strN (cutL (bytesOf s) at_ k), at_ + k, true) := by unfold rdT; rw [if_pos h]
theorem rdN_fit {s : ByteArray} {at_ k : Nat} (h : at_ + k ≤ s.size) : rdN s at_ true k = (valL (cutL (bytesOf s) at_ k), at_ + k, true) := by
  unfold rdN
  rw [rdT_fit h]
  simp only
  rw [bytesOf_strB (cutL_lt (bytesOf_lt s) _ _)]
theorem rdN_yes {s : ByteArray} {at_ k : Nat} {ok : Bool} (h : (rdN s at_ ok k).2.2 = true) : ok = true ∧ at_ + k ≤ s.size := by
  have := rdT_yes (show (rdT s at_ ok k).2.2 = true from h)
  exact ⟨this.1, this.2.1⟩

theorem rdL_yes {s : ByteArray} {at_ : Nat} {ok : Bool} (h : (rdL s at_ ok).2.2 = true) : ok = true ∧ decP true (bytesOf s) at_ = some ((rdL s at_ ok).1, (rdL s at_ ok).2.1) := by
  unfold rdL at h ⊢
  simp only at h ⊢
  by_cases h120 : (rdN s (rdN s at_ ok 1).2.1 (rdN s at_ ok 1).2.2 2).1 ≤ 120
  · rw [if_pos h120] at h ⊢
    simp only at h ⊢
    obtain ⟨hc, f4, _⟩ := rdT_yes h
    obtain ⟨hb, f3, e3⟩ := rdT_yes hc
    obtain ⟨ha, f2⟩ := rdN_yes hb
    obtain ⟨h0, f1⟩ := rdN_yes ha
    subst h0
    clear h hc hb ha e3
    simp only [rdN_fit f1] at f2 f3 f4 h120 ⊢
    simp only [rdN_fit f2] at f3 f4 h120 ⊢
    simp only [rdT_fit f3] at f4 ⊢
    refine ⟨trivial, ?_⟩
    simp only [rdT_fit f4]
    unfold decP
    have hlen := bytesOf_len s
    simp only [if_true, Bool.true_and]
    simp only [h120, decide_true, if_true]
    rw [if_neg (by omega), if_neg (by omega)]
  · rw [if_neg h120] at h ⊢
    simp only at h ⊢
    obtain ⟨hc, f4⟩ := rdN_yes h
    obtain ⟨hb, f3, e3⟩ := rdT_yes hc
    obtain ⟨ha, f2⟩ := rdN_yes hb
    obtain ⟨h0, f1⟩ := rdN_yes ha
    subst h0
    clear h hc hb ha e3
    simp only [rdN_fit f1] at f2 f3 f4 h120 ⊢
    simp only [rdN_fit f2] at f3 f4 h120 ⊢
    simp only [rdT_fit f3] at f4 ⊢
    refine ⟨trivial, ?_⟩
    simp only [rdN_fit f4]
    unfold decP
    have hlen := bytesOf_len s
    simp only [if_true, Bool.true_and]
    simp only [h120, decide_false, Bool.false_eq_true, if_false]
    rw [if_neg (by omega), if_neg (by omega)]

theorem rdL_no {s : ByteArray} {at_ : Nat} (h : (rdL s at_ true).2.2 = false) : decP true (bytesOf s) at_ = none := by
  cases hd : decP true (bytesOf s) at_ with
  | none => rfl
  | some r =>
    exfalso
    obtain ⟨x, q⟩ := r
    have hlen := bytesOf_len s
    unfold decP at hd
    simp only [if_true, Bool.true_and] at hd
    split at hd
    · simp at hd
    · rename_i hf
      by_cases h120 : valL (cutL (bytesOf s) (at_ + 1) 2) ≤ 120
      · simp only [h120, decide_true, if_true] at hd
        split at hd
        · simp at hd
        · rename_i hs
          unfold rdL at h
          simp only at h
          rw [rdN_fit (show at_ + 1 ≤ s.size by omega)] at h
          simp only at h
          rw [rdN_fit (show at_ + 1 + 2 ≤ s.size by omega)] at h
          simp only at h
          rw [if_pos h120] at h
          rw [rdT_fit (show at_ + 1 + 2 + valL (cutL (bytesOf s) at_ 1) ≤ s.size by omega)] at h
          simp only at h
          rw [rdT_fit (by omega)] at h
          simp at h
      · simp only [h120, decide_false, Bool.false_eq_true, if_false] at hd
        split at hd
        · simp at hd
        · rename_i hs
          unfold rdL at h
          simp only at h
          rw [rdN_fit (show at_ + 1 ≤ s.size by omega)] at h
          simp only at h
          rw [rdN_fit (show at_ + 1 + 2 ≤ s.size by omega)] at h
          simp only at h
          rw [if_neg h120] at h
          rw [rdT_fit (show at_ + 1 + 2 + valL (cutL (bytesOf s) at_ 1) ≤ s.size by omega)] at h
          simp only at h
          rw [rdN_fit (by omega)] at h
          simp at h

theorem rdI_yes {s : ByteArray} {at_ : Nat} {ok : Bool} (h : (rdI s at_ ok).2.2 = true) : ok = true ∧ decP false (bytesOf s) at_ = some ((rdI s at_ ok).1, (rdI s at_ ok).2.1) := by
  unfold rdI at h ⊢
  simp only at h ⊢
  obtain ⟨hc, f4⟩ := rdN_yes h
  obtain ⟨hb, f3, e3⟩ := rdT_yes hc
  obtain ⟨h0, f1⟩ := rdN_yes hb
  subst h0
  clear h hc hb e3
  simp only [rdN_fit f1] at f3 f4 ⊢
  simp only [rdT_fit f3] at f4 ⊢
  refine ⟨trivial, ?_⟩
  simp only [rdN_fit f4]
  unfold decP
  have hlen := bytesOf_len s
  simp only [Bool.false_eq_true, if_false, Bool.false_and]
  rw [if_neg (by omega), if_neg (by omega)]
  rfl

theorem rdI_no {s : ByteArray} {at_ : Nat} (h : (rdI s at_ true).2.2 = false) : decP false (bytesOf s) at_ = none := by
  cases hd : decP false (bytesOf s) at_ with
  | none => rfl
  | some r =>
    exfalso
    obtain ⟨x, q⟩ := r
    have hlen := bytesOf_len s
    unfold decP at hd
    simp only [Bool.false_eq_true, if_false, Bool.false_and] at hd
    split at hd
    · simp at hd
    · rename_i hf
      split at hd
      · simp at hd
      · rename_i hs
        unfold rdI at h
        simp only at h
        rw [rdN_fit (show at_ + 1 ≤ s.size by omega)] at h
        simp only at h
        rw [rdT_fit (show at_ + 1 + valL (cutL (bytesOf s) at_ 1) ≤ s.size by omega)] at h
        simp only at h
        rw [rdN_fit (by omega)] at h
        simp at h

/-- Where a reader stands behind some parts: its place and its state tell what decs tells. -/
def Stands (leaf : Bool) (s : ByteArray) (start k : Nat) (l : List Pt) (at_ : Nat) (ok : Bool) : Prop :=
  l.length = k ∧ at_ ≤ s.size ∧ (ok = true → decs leaf (bytesOf s) start k = some (l, at_)) ∧ (ok = false → ∀ m, k ≤ m → decs leaf (bytesOf s) start m = none)

theorem decs_none {leaf : Bool} {b : List Nat} {st k : Nat} (h : decs leaf b st k = none) : ∀ m, k ≤ m → decs leaf b st m = none := by
  intro m hm
  induction m with
  | zero => have : k = 0 := by omega
            subst this; exact h
  | succ m ih =>
    by_cases h1 : k = m + 1
    · subst h1; exact h
    · unfold decs; rw [ih (by omega)]

theorem rdL_at (s : ByteArray) (at_ : Nat) (ok : Bool) (h : at_ ≤ s.size) : (rdL s at_ ok).2.1 ≤ s.size := by
  unfold rdL
  simp only
  split
  · exact rdT_at _ _ _ _ (rdT_at _ _ _ _ (rdN_at _ _ _ _ (rdN_at _ _ _ _ h)))
  · exact rdN_at _ _ _ _ (rdT_at _ _ _ _ (rdN_at _ _ _ _ (rdN_at _ _ _ _ h)))
theorem rdI_at (s : ByteArray) (at_ : Nat) (ok : Bool) (h : at_ ≤ s.size) : (rdI s at_ ok).2.1 ≤ s.size := by
  unfold rdI
  exact rdN_at _ _ _ _ (rdT_at _ _ _ _ (rdN_at _ _ _ _ h))

theorem Stands.stepL {s : ByteArray} {start k : Nat} {l : List Pt} {at_ : Nat} (h : Stands true s start k l at_ true) : Stands true s start (k + 1) (l ++ [(rdL s at_ true).1]) (rdL s at_ true).2.1 (rdL s at_ true).2.2 := by
  obtain ⟨h1, h2, h3, _⟩ := h
  have hd := h3 rfl
  refine ⟨by simp [h1], rdL_at s at_ true h2, fun hok => ?_, fun hok => ?_⟩
  · have := (rdL_yes hok).2
    unfold decs; rw [hd]; simp only [this]
  · have := rdL_no hok
    exact decs_none (by unfold decs; rw [hd]; simp only [this])
theorem Stands.stepI {s : ByteArray} {start k : Nat} {l : List Pt} {at_ : Nat} (h : Stands false s start k l at_ true) : Stands false s start (k + 1) (l ++ [(rdI s at_ true).1]) (rdI s at_ true).2.1 (rdI s at_ true).2.2 := by
  obtain ⟨h1, h2, h3, _⟩ := h
  have hd := h3 rfl
  refine ⟨by simp [h1], rdI_at s at_ true h2, fun hok => ?_, fun hok => ?_⟩
  · have := (rdI_yes hok).2
    unfold decs; rw [hd]; simp only [this]
  · have := rdI_no hok
    exact decs_none (by unfold decs; rw [hd]; simp only [this])
theorem Stands.start {leaf : Bool} {s : ByteArray} {st : Nat} (h : st ≤ s.size) : Stands leaf s st 0 [] st true := ⟨rfl, h, fun _ => rfl, by simp⟩
end Go.Proofs.Ytlcphgomhhejbaa

/- What lies in blocks of a call's own only. -/
namespace Go.Proofs.Ytlcphgomhhejbaa
open Go.RowKit

/-- The cells lie in no block below number N. -/
def Far (N : Nat) (a : Option Addr) (vs : List Value) : Prop := vs = [] ∨ ∀ b o, a = some ⟨b, o, none⟩ → N ≤ b
theorem own_far {w : World} {base : Nat} {T : TypeId} {z n cap : Nat} {a : Option Addr} {xs : List Value} (h : w.ownsRow base T z (.slice a n cap) n xs) : Far base a xs := by
  rcases h.2 with ⟨hv, hn⟩ | ⟨g, c, cur, hv, hg, _⟩
  · exact .inl (List.length_eq_zero_iff.1 (by rw [h.1, hn]; simp))
  · refine .inr fun b o e => ?_
    simp only [Value.slice.injEq, true_and] at hv
    rw [hv.1] at e
    simp only [Option.some.injEq, Addr.mk.injEq] at e
    omega
theorem Arr.set_far {w : World} {a : Option Addr} {vs : List Value} {N c o : Nat} {v : Value} (h : Arr w.heap.size w a vs) (hf : Far N a vs) (hc : c < N) : Arr (w.setCell ⟨c, o, none⟩ v).heap.size (w.setCell ⟨c, o, none⟩ v) a vs := by
  rcases hf with hf | hf
  · exact .inl hf
  · rcases h with h | ⟨b, o', ha, hN, hcell⟩
    · exact .inl h
    · have := hf b o' ha
      refine .inr ⟨b, o', ha, by simpa [World.setCell] using hN, fun i u hu => ?_⟩
      rw [← hcell i u hu]
      exact World.cell?_of_block (a := ⟨b, o' + i, none⟩) (Below.heap_setCell w ⟨c, o, none⟩ v b (by show b ≠ c; omega))
theorem Far.mono {N M : Nat} {a : Option Addr} {vs : List Value} (h : Far N a vs) (hM : M ≤ N) : Far M a vs := by
  rcases h with h | h
  · exact .inl h
  · exact .inr fun b o e => by have := h b o e; omega

/-- All that the node has lies in blocks from number N on. -/
def NFar (N : Nat) (n : Nd) (m : NB) : Prop := Far N m.ka (cellsS n.keys) ∧ Far N m.ca (cellsC n.cells) ∧ Far N m.da (cellsI n.kids)
theorem NFar.mono {N M : Nat} {n : Nd} {m : NB} (h : NFar N n m) (hM : M ≤ N) : NFar M n m := ⟨h.1.mono hM, h.2.1.mono hM, h.2.2.mono hM⟩
theorem NAt.set_far {w : World} {n : Nd} {m : NB} {N c o : Nat} {v : Value} (h : NAt w n m) (hf : NFar N n m) (hc : c < N) : NAt (w.setCell ⟨c, o, none⟩ v) n m :=
  ⟨h.hk, h.hc, h.hd, h.kcap, h.ccap, h.dcap, h.kmax, h.cmax, h.dmax, h.karr.set_far hf.1 hc, h.carr.set_far hf.2.1 hc, h.darr.set_far hf.2.2 hc, h.kfair, h.cfair, h.dfair⟩
end Go.Proofs.Ytlcphgomhhejbaa
