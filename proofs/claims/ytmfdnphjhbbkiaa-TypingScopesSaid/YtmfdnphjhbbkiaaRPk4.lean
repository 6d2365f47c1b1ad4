/- Several texts of one proof, one behind the other. -/
import Derived.Test.YtmfdnphjhbbkiaaRPk3
import Derived.Lib.ConvBytes
import Derived.Lib.OthersKept
import Derived.Lib.RuneCount
set_option linter.unusedSimpArgs false
set_option linter.unusedVariables false

/- Rows of integers of one kind: read, appended to. -/
set_option linter.unusedSimpArgs false
set_option linter.unusedVariables false
set_option maxRecDepth 100000
namespace Go.Proofs.Ytmfdnphjhbbkiaa
open Go.RowKit

/-- The address leads to the integers l, of kind k, in blocks below number N. -/
def Rs (k : IntKind) (N : Nat) (w : World) (a : Option Addr) (l : List Int) : Prop :=
  l = [] ∨ ∃ b o, a = some ⟨b, o, none⟩ ∧ b < N ∧ ∀ (i : Nat) (c : Int), l[i]? = some c → w.cell? ⟨b, o + i, none⟩ = some (.int k c)

theorem Rs.below {k : IntKind} {N : Nat} {w w' : World} {a : Option Addr} {l : List Int} (h : Rs k N w a l) (hb : Below N w w') : Rs k N w' a l := by
  rcases h with h2 | ⟨b, o, ha, hN, hc⟩
  · exact .inl h2
  · exact .inr ⟨b, o, ha, hN, fun i c hi => (hb.cell (p := ⟨b, o + i, none⟩) hN).trans (hc i c hi)⟩

theorem Rs.mono {k : IntKind} {N M : Nat} {w : World} {a : Option Addr} {l : List Int} (h : Rs k N w a l) (hM : N ≤ M) : Rs k M w a l := by
  rcases h with h2 | ⟨b, o, ha, hN, hc⟩
  · exact .inl h2
  · exact .inr ⟨b, o, ha, by omega, hc⟩

theorem Rs.at_ {k : IntKind} {N : Nat} {w : World} {a : Option Addr} {l : List Int} (h : Rs k N w a l) {j : Nat} (hj : j < l.length) : ∃ b o, a = some ⟨b, o, none⟩ ∧ b < N ∧ w.cell? ⟨b, o + j, none⟩ = some (.int k l[j]) := by
  rcases h with h2 | ⟨b, o, ha, hN, hc⟩
  · subst h2; simp at hj
  · exact ⟨b, o, ha, hN, hc j _ (List.getElem?_eq_getElem hj)⟩

/-- 'b[k:]' of such a slice, as one value. -/
theorem Rs.from {P : Program} {kd : IntKind} {N : Nat} {w : World} {a : Option Addr} {l : List Int} (h : Rs kd N w a l) (t e : TypeId) (ht : P.underlying t = some (.slice e)) (hz : ∀ w, (Go.sizeOf e).run P w = .ok 1 w)
    (len cap k : Nat) (hlen : len = l.length) (hk : k ≤ len) (hcap : len ≤ cap) :
    ∃ a', Rs kd N w a' (l.drop k) ∧ ∀ W, (Instr.slice t (.slice a len cap) (some (.int .i64 (k : Int))) none none).run P W = .ok (.slice a' (len - k) (cap - k)) W := by
  subst hlen
  have ht' : P.underlying t = some (.slice (P.elem t)) := by simp [Program.elem, ht]
  have hee : P.elem t = e := by simp [Program.elem, ht]
  refine ⟨if cap = k then a else a.map (·.add (k * 1)), ?_, fun W => ?_⟩
  · rcases h with h2 | ⟨b, o, ha, hN, hc⟩
    · exact .inl (by simp [h2])
    · by_cases hkl : k = l.length
      · exact .inl (by simp [hkl])
      · right
        refine ⟨b, o + k, ?_, hN, fun i c hi => ?_⟩
        · rw [if_neg (by omega), ha]; simp [Addr.add]
        · rw [List.getElem?_drop] at hi
          rw [Nat.add_assoc]; exact hc _ _ hi
  · have := run_slice_l (P := P) W t a l.length cap ht' .i64 (k : Int) (by omega) (by omega)
    rw [this, hee, hz W]
    simp [Result.andThen, sliced]

/-- 'b[:m]'. -/
theorem Rs.upTo {P : Program} {kd : IntKind} {N : Nat} {w : World} {a : Option Addr} {l : List Int} (h : Rs kd N w a l) (t e : TypeId) (ht : P.underlying t = some (.slice e)) (hz : ∀ w, (Go.sizeOf e).run P w = .ok 1 w)
    (len cap m : Nat) (hlen : len = l.length) (hm : m ≤ len) (hcap : len ≤ cap) :
    ∃ a', Rs kd N w a' (l.take m) ∧ ∀ W, (Instr.slice t (.slice a len cap) none (some (.int .i64 (m : Int))) none).run P W = .ok (.slice a' m cap) W := by
  subst hlen
  have ht' : P.underlying t = some (.slice (P.elem t)) := by simp [Program.elem, ht]
  have hee : P.elem t = e := by simp [Program.elem, ht]
  refine ⟨if cap = 0 then a else a.map (·.add (0 * 1)), ?_, fun W => ?_⟩
  · rcases h with h2 | ⟨b, o, ha, hN, hc⟩
    · exact .inl (by simp [h2])
    · right
      refine ⟨b, o, ?_, hN, fun i c hi => ?_⟩
      · rw [ha]; split <;> simp [Addr.add]
      · rw [List.getElem?_take] at hi
        split at hi
        · exact hc _ _ hi
        · simp at hi
  · have := run_slice_h (P := P) W t a l.length cap ht' .i64 (m : Int) (by omega) (by omega)
    rw [this, hee, hz W]
    simp [Result.andThen, sliced]

/-- A row of integers of the call's own. -/
def OwnI (k : IntKind) (w : World) (base : Nat) (T : TypeId) (v : Value) (l : List Int) : Prop := w.ownsRow base T 1 v l.length (l.map fun (c : Int) => Value.int k c)

theorem OwnI.nil (k : IntKind) (w : World) (base : Nat) (T : TypeId) : OwnI k w base T (.slice none 0 0) [] := World.ownsRow_nil _ _ _ _

theorem OwnI.slice {k : IntKind} {w : World} {base : Nat} {T : TypeId} {v : Value} {l : List Int} (h : OwnI k w base T v l) : ∃ a cap, v = .slice a l.length cap ∧ l.length ≤ cap ∧ Rs k w.heap.size w a l ∧ (l ≠ [] → ∃ g, a = some ⟨g, 0, none⟩ ∧ base ≤ g) := by
  obtain ⟨h1, h2⟩ := h
  rcases h2 with ⟨hv, hn⟩ | ⟨g, cap, cur, hv, hg, hh, hnc, hcm, hcs, hcur⟩
  · have : l = [] := List.length_eq_zero_iff.1 hn
    subst this
    exact ⟨none, 0, by simpa using hv, by simp, .inl rfl, by simp⟩
  · refine ⟨some ⟨g, 0, none⟩, cap, hv, hnc, .inr ⟨g, 0, rfl, ?_, ?_⟩, fun _ => ⟨g, rfl, hg⟩⟩
    · by_cases hlt : g < w.heap.size
      · exact hlt
      · rw [Array.getElem?_eq_none (by omega)] at hh; simp at hh
    · intro i c hi
      have hil : i < l.length := by
        by_cases hlt : i < l.length
        · exact hlt
        · rw [List.getElem?_eq_none (by omega)] at hi; simp at hi
      have e1 : (cur.toList.take (l.length * 1))[i]? = some (Value.int k c) := by rw [hcur]; simp [hi]
      rw [List.getElem?_take_of_lt (by omega)] at e1
      simp only [World.cell?, hh, Nat.zero_add]
      simpa using e1

theorem OwnI.below {k : IntKind} {w w' : World} {base N : Nat} {T : TypeId} {v : Value} {l : List Int} (h : OwnI k w base T v l) (hN : w.heap.size ≤ N) (hb : Below N w w') : OwnI k w' base T v l := by
  obtain ⟨h1, h2⟩ := h
  refine ⟨h1, ?_⟩
  rcases h2 with h2 | ⟨g, cap, cur, hv, hg, hh, r⟩
  · exact .inl h2
  · refine .inr ⟨g, cap, cur, hv, hg, ?_, r⟩
    rw [hb.block g (by
      by_cases hlt : g < w.heap.size
      · omega
      · rw [Array.getElem?_eq_none (by omega)] at hh; simp at hh)]
    exact hh

/-- 'append(s, x)': x has just been laid in a block of its own. -/
theorem wpList_appI {P : Program} {ops : Array Oper} {rest : List Oper} {o : Oper} {a : Act} {Q : Exit → Act → World → Prop} (hgd : o.guard = none) (s x : Operand) (t : TypeId)
    (ho : o.op = .call { callee := .builtin .append, args := #[s, x], argTypes := #[t, t] }) (k : IntKind)
    (base : Nat) (e : TypeId) (i : TypeInfo) (bytes : Nat) (ht : P.underlying t = some (.slice e)) (hi : P.info? e = some i) (hz : i.zero = some (.int k 0))
    (hsize : i.size = 1) (hby : i.bytes = bytes) (h0 : bytes ≤ 8)
    (v : Value) (l : List Int) (w : World) (hown : OwnI k w base e v l) (hs : a.eval s = v) (c : Int)
    (hx : a.eval x = .slice (some ⟨w.heap.size, 0, none⟩) 1 1) (hlen : l.length < 1000000000000) (hbase : base ≤ w.heap.size)
    (h : ∀ v' w', OwnI k w' base e v' (l ++ [c]) → Below base w w' → w.heap.size < w'.heap.size → wpList P ops Q rest (a.put o.dst v') w') :
    wpList P ops Q (o :: rest) a (w.alloc (.cells #[.int k c] e)) := by
  refine wpList_append_own (w.alloc (.cells #[.int k c] e)) hgd s x t ho base e i (.int k 0) 1 bytes ht hi hz hsize hby rfl (by decide) v l.length _ hs (World.ownsRow.alloc hown _) ⟨w.heap.size, 0, none⟩ 1 1 [.int k c] hx rfl ?_ ?_ ?_ ?_ ?_ ?_
  · intro j u hj
    match j, hj with
    | 0, hj => simp at hj; subst hj; simp [Addr.add]
  · intro u hu; simp at hu; subst hu; rfl
  · unfold maxLen; omega
  · have : (l.length + 1) * bytes ≤ (l.length + 1) * 8 := Nat.mul_le_mul_left _ h0
    omega
  · simp; omega
  · intro v' w' hown' hgrow _
    refine h v' w' (by simpa [OwnI] using hown') ?_ ?_
    · exact ((Below.refl base w).alloc hbase _).grown hgrow (by simp; omega) (fun j hj => (World.ownsRow.lt hown j hj).1)
    · have := hgrow.size; simp at this; omega

theorem boxB (w : World) (o : Obj) : Below w.heap.size w (w.alloc o) := (Below.refl _ w).alloc (Nat.le_refl _) o

/-- A slice of integers that came in. -/
theorem IsRow.rs {k : IntKind} {w : World} {a : Option Addr} {len cap : Nat} {zs : List Int} (h : IsRow k w a len cap zs) :
    ∃ l : List Int, len = l.length ∧ Rs k w.heap.size w a l ∧ len ≤ cap ∧ cap ≤ 9223372036854775807 ∧ ∀ n ∈ l, (Lit.int k n).wf = true := by
  obtain ⟨h1, h2, l, hl, hw, hc⟩ := h.read
  unfold maxLen at h2
  exact ⟨l, hl.symm, hc, h1, by omega, hw⟩
end Go.Proofs.Ytmfdnphjhbbkiaa

/- The walks of runes.isName, Fold, Name and of the reference's. -/
set_option linter.unusedSimpArgs false
set_option linter.unusedVariables false
set_option maxRecDepth 100000
namespace Go.Proofs.Ytmfdnphjhbbkiaa
set_option linter.unusedSimpArgs false
open Go.RowKit

def byteN (s : ByteArray) (i : Nat) : Nat := (bytesU s).getD i 0

theorem byteN_at (s : ByteArray) (i : Nat) (h : i < s.size) : byteN s i = (s[i]'h).toNat := by
  unfold byteN
  rw [List.getD_eq_getElem?_getD, List.getElem?_eq_getElem (by rw [bytesU_len]; exact h)]
  simp [bytesU]; rfl

/-- May the byte stand at this place of a name? -/
def okN (i c : Nat) : Bool := classZ (c : Int) == 2 || (classZ (c : Int) == 3 && i != 0)
def nameB (s : ByteArray) : Bool := decide (0 < s.size) && (List.range s.size).all fun i => okN i (byteN s i)

theorem nameB_true {s : ByteArray} : nameB s = true ↔ 0 < s.size ∧ ∀ i, i < s.size → okN i (byteN s i) = true := by
  unfold nameB
  rw [Bool.and_eq_true, decide_eq_true_iff, List.all_eq_true]
  simp

theorem nameB_false {s : ByteArray} {i : Nat} (h : i < s.size) (hb : okN i (byteN s i) = false) : nameB s = false := by
  rw [Bool.eq_false_iff]
  intro hn
  have := (nameB_true.1 hn).2 i h
  rw [hb] at this; cases this

theorem class_high {c : Int} (h : 127 ≤ c) : classZ c = 0 := class_of c 0 (by omega)

set_option maxHeartbeats 2000000 in
theorem isName_any (s : ByteArray) (w : World) (hs : s.size ≤ 1000000) :
    Calls Try.prog 52 #[.string s] w fun e w' => e = .returned (.bool (nameB s)) ∧ Below w.heap.size w w' := by
  go_enter Try.func52, Try.ntmps52
  go_wp2
  go_loopw [] (fun wr => ∃ pos : Nat, wr = w.iter s pos ∧ pos ≤ s.size ∧ Hid (∀ i, i < pos → okN i (byteN s i) = true)) (fun wr => s.size - wr.iterPos w.heap.size)
  case atStart => exact ⟨0, rfl, by omega, by simp [Hid]⟩
  case round =>
    obtain ⟨pos, rfl, hpos, HI⟩ := hrel
    have HBE : Hid (∀ q, Below w.heap.size w (w.iter s q)) := fun q => (Below.refl _ w).alloc (Nat.le_refl _) _
    by_cases hp : pos < s.size
    · have hnx : ∀ ty, (Instr.next (.pointer (some ⟨w.heap.size, 0, none⟩)) true ty).run Try.prog (w.iter s pos) = _ := fun ty => run_next_any w s pos ty hp
      have hB := byteN_at s pos hp
      have hb256 := (s[pos]'hp).toNat_lt
      by_cases hasc : (s[pos]'hp).toNat < 128
      · have hdec := decode_ascii s pos hp hasc
        simp only [hdec] at hnx
        obtain ⟨c, hc⟩ : ∃ c, (s[pos]'hp).toNat = c := ⟨_, rfl⟩
        rw [hc] at hnx hB hasc
        have HB := Lib.hid hB
        have HCl := Lib.hid (fun W => Class_any (c : Int) W)
        obtain ⟨k, hk⟩ : ∃ k, classZ (c : Int) = k := ⟨_, rfl⟩
        rw [hk] at HCl
        have hok : okN pos c = (k == 2 || (k == 3 && pos != 0)) := by unfold okN; rw [hk]
        have HOk := Lib.hid hok
        clear hdec hB hb256 hc hk hok
        go_wp2_with fail
        refine (HCl.out _).mono ?_
        rintro e w1 ⟨rfl, rfl⟩
        clear HCl
        by_cases hgo : k = 2 ∨ (k = 3 ∧ pos ≠ 0)
        · have HI2 : Hid (∀ i, i < pos + 1 → okN i (byteN s i) = true) := by
            intro i hi
            by_cases h : i = pos
            · subst h
              rw [HB.out, HOk.out]
              rcases hgo with h | ⟨h, h'⟩ <;> simp [h]
              exact h'
            · exact HI.out i (by omega)
          clear HI HOk HB
          by_cases h2 : k = 2
          · subst h2
            clear hgo
            go_wp2
            go_roundw
            case rel => exact ⟨pos + 1, rfl, by omega, HI2⟩
            case measure => simp; omega
          · obtain ⟨rfl, h0⟩ : k = 3 ∧ pos ≠ 0 := by
              rcases hgo with h | h
              · exact absurd h h2
              · exact h
            have q0 : ((pos : Int) == 0) = false := by simp; omega
            clear hgo h2
            go_wp2
            go_roundw
            case rel => exact ⟨pos + 1, rfl, by omega, HI2⟩
            case measure => simp; omega
        · have HN : Hid (nameB s = false) := nameB_false hp (by
            rw [HB.out, HOk.out]
            rw [Bool.eq_false_iff]
            intro h
            simp only [Bool.or_eq_true, Bool.and_eq_true, beq_iff_eq, bne_iff_ne, ne_eq] at h
            exact hgo h)
          have hways : (k ≠ 2 ∧ k ≠ 3) ∨ (k = 3 ∧ pos = 0) := by omega
          clear HI HOk HB hgo
          rcases hways with ⟨h2, h3⟩ | ⟨rfl, rfl⟩
          · have q2 : (k != 2) = true := by simp [h2]
            have q3 : (k != 3) = true := by simp [h3]
            go_wp2
            go_ret
            exact ⟨by rw [HN.out]; rfl, HBE.out _⟩
          · go_wp2
            go_ret
            exact ⟨by rw [HN.out]; rfl, HBE.out _⟩
      · have hhi := decode_high s pos hp (by omega)
        have HN : Hid (nameB s = false) := nameB_false hp (by
          rw [hB]
          unfold okN
          rw [class_high (by omega)]; rfl)
        obtain ⟨r, hr⟩ : ∃ r, (Utf8.decode s pos).1 = r := ⟨_, rfl⟩
        obtain ⟨z, hz⟩ : ∃ z, (Utf8.decode s pos).2 = z := ⟨_, rfl⟩
        rw [hr, hz] at hnx
        rw [hr] at hhi
        have HCl := Lib.hid (fun W => Class_any (r : Int) W)
        rw [class_high (by omega)] at HCl
        clear hB hb256 hr hz HI hasc hhi
        go_wp2_with fail
        refine (HCl.out _).mono ?_
        rintro e w1 ⟨rfl, rfl⟩
        clear HCl
        go_wp2
        go_ret
        exact ⟨by rw [HN.out]; rfl, HBE.out _⟩
    · have hnx : ∀ ty, (Instr.next (.pointer (some ⟨w.heap.size, 0, none⟩)) true ty).run Try.prog (w.iter s pos) = _ := fun ty => run_next_end w s pos ty hp
      by_cases h0 : s.size = 0
      · have HN : Hid (nameB s = false) := by unfold nameB; simp [h0, Hid]
        have he : s.toList = [] := by rw [ByteArray.toList_eq, Array.size_eq_zero_iff.1 (show s.data.size = 0 from h0)]
        clear HI h0
        go_wp2
        go_ret
        exact ⟨by rw [HN.out]; rfl, HBE.out _⟩
      · have HN : Hid (nameB s = true) := nameB_true.2 ⟨by omega, fun i hi => HI.out i (by omega)⟩
        have he : (s.toList == []) = false := by
          rw [ByteArray.toList_eq]
          rw [Bool.eq_false_iff]
          intro h
          rw [beq_iff_eq] at h
          apply h0
          have := congrArg List.length h
          simpa using this
        have he2 : ¬ s.toList = [] := by simpa using he
        have he3 : (!s.toList.isEmpty) = true := by simpa using he2
        clear HI h0
        go_wp2
        go_ret
        exact ⟨by rw [HN.out]; rfl, HBE.out _⟩
end Go.Proofs.Ytmfdnphjhbbkiaa

/- The walks of runes.Fold, runes.Name and of the reference's. -/
set_option linter.unusedSimpArgs false
set_option linter.unusedVariables false
set_option maxRecDepth 100000
namespace Go.Proofs.Ytmfdnphjhbbkiaa
set_option linter.unusedSimpArgs false
open Go.RowKit

def foldC (c : Nat) : Nat := if 65 ≤ c ∧ c ≤ 90 then c + 32 else c
def foldS (s : ByteArray) : ByteArray := strN ((bytesU s).map foldC)

theorem foldC_lt {c : Nat} (h : c < 256) : foldC c < 256 := by unfold foldC; split <;> omega

theorem conv_bytesU (s : ByteArray) (w : World) : ∃ W1 cap, (convert 9 29 (.string s)).run Try.prog w = .ok (.slice (some ⟨w.heap.size, 0, none⟩) s.size cap) W1 ∧ Below w.heap.size w W1 ∧ W1.heap.size = w.heap.size + 1 ∧
    ∀ (j : Nat), j < s.size → W1.cell? ⟨w.heap.size, j, none⟩ = some (.int .u8 (byteN s j : Int)) ∧ W1.frozen? ⟨w.heap.size, j, none⟩ = false := by
  refine ⟨_, _, Lib.run_convert_string_bytes w 9 29 5 s Try.underlying9 Try.underlying29 Try.underlying5, ⟨rfl, rfl, rfl, ?_, fun k hk => Lib.bytesWorld_at_old w _ s k hk⟩, Lib.bytesWorld_size w _ s, ?_⟩
  · rw [Lib.bytesWorld_size]; omega
  · intro j hj
    refine ⟨?_, ?_⟩
    · rw [Lib.bytesWorld_cell w _ s j hj]
      have : byteN s j = (s.data.toList.getD j 0).toNat := by
        unfold byteN bytesU
        rw [getD_map]
      rw [this]
    · unfold World.frozen?
      simp only [Lib.bytesWorld_at_new]
      have : j < (Lib.bytesCells w 5 s).size := by
        simp only [Lib.bytesCells, Array.size_append]
        simp
        have : s.data.size = s.size := rfl
        omega
      simp
      omega

/-- The row in block G while the first k bytes are folded. -/
def FoldAt (w : World) (G n k : Nat) (s : ByteArray) : Prop := ∀ j, j < n → w.cell? ⟨G, j, none⟩ = some (.int .u8 ((if j < k then foldC (byteN s j) else byteN s j : Nat) : Int)) ∧ w.frozen? ⟨G, j, none⟩ = false

theorem FoldAt.keep {w : World} {G n k : Nat} {s : ByteArray} (h : FoldAt w G n k s) (hf : foldC (byteN s k) = byteN s k) : FoldAt w G n (k + 1) s := by
  intro j hj
  refine ⟨?_, (h j hj).2⟩
  rw [(h j hj).1]
  by_cases h1 : j < k
  · rw [if_pos h1, if_pos (by omega)]
  · by_cases h2 : j = k
    · subst h2; rw [if_neg (by omega), if_pos (by omega), hf]
    · rw [if_neg h1, if_neg (by omega)]

theorem FoldAt.set {w : World} {G n k : Nat} {s : ByteArray} (h : FoldAt w G n k s) (hk : k < n) (v : Int) (hv : v = (foldC (byteN s k) : Int)) : FoldAt (w.setCell ⟨G, k, none⟩ (.int .u8 v)) G n (k + 1) s := by
  subst hv
  intro j hj
  refine ⟨?_, by rw [World.frozen?_setCell]; exact (h j hj).2⟩
  by_cases h2 : j = k
  · subst h2
    rw [World.cell?_setCell_same _ _ _ (h j hj).1, if_pos (by omega)]
  · rw [World.cell?_setCell_other _ _ _ _ (by simp [Ne.symm h2]), (h j hj).1]
    by_cases h1 : j < k
    · rw [if_pos h1, if_pos (by omega)]
    · rw [if_neg h1, if_neg (by omega)]

theorem FoldAt.bs {w : World} {G n : Nat} {s : ByteArray} (h : FoldAt w G n n s) (hn : n = s.size) (hG : G < w.heap.size) : Bs w.heap.size w (some ⟨G, 0, none⟩) ((bytesU s).map foldC) := by
  refine ⟨?_, .inr ⟨G, 0, rfl, hG, fun i c hi => ?_⟩⟩
  · intro c hc
    obtain ⟨d, hd, rfl⟩ := List.mem_map.1 hc
    exact foldC_lt (bytesU_lt s d hd)
  · rw [List.getElem?_map] at hi
    have hil : i < (bytesU s).length := by
      by_cases hil : i < (bytesU s).length
      · exact hil
      · rw [List.getElem?_eq_none (by omega)] at hi; simp at hi
    rw [List.getElem?_eq_getElem hil] at hi
    simp only [Option.map_some, Option.some.injEq] at hi
    rw [bytesU_len] at hil
    rw [Nat.zero_add, (h i (by omega)).1, if_pos (by omega), ← hi]
    have : byteN s i = (bytesU s)[i]'(by rw [bytesU_len]; exact hil) := by
      unfold byteN
      rw [List.getD_eq_getElem?_getD, List.getElem?_eq_getElem (by rw [bytesU_len]; exact hil)]; rfl
    rw [this]

set_option maxHeartbeats 2000000 in
theorem Fold_any (s : ByteArray) (w : World) (hs : s.size ≤ 1000000) :
    Calls Try.prog 53 #[.string s] w fun e w' => e = .returned (.string (foldS s)) ∧ Below w.heap.size w w' := by
  obtain ⟨W1, cap, hcv, hb1, hsz1, hcell⟩ := conv_bytesU s w
  have hF : FoldAt W1 w.heap.size s.size 0 s := fun j hj => by
    obtain ⟨h1, h2⟩ := hcell j hj
    exact ⟨by rw [h1, if_neg (by omega)], h2⟩
  have HF0 := Lib.hid hF
  have hz1 : w.heap.size < W1.heap.size := by omega
  obtain ⟨n, hn⟩ : ∃ n, n = s.size := ⟨_, rfl⟩
  have HN := Lib.hid hn
  rw [← hn] at hcv HF0
  have hn1 : n ≤ 1000000 := by omega
  clear hcell hF hsz1 hn
  go_enter Try.func53, Try.ntmps53
  go_wp2
  clear hcv
  go_loopw [10] (fun i wr => ∃ k : Nat, k ≤ n ∧ i = .int .i64 k ∧ Hid (FoldAt wr w.heap.size n k s) ∧ LaterB w.heap.size W1 wr) (fun i _ => n - (intOf i).toNat)
  case atStart => exact ⟨0, by omega, rfl, HF0.out, LaterB.refl _ _⟩
  case round =>
    obtain ⟨k, hk, rfl, HF, hlb⟩ := hrel
    have hbw : Below w.heap.size w wr := hb1.trans ⟨hlb.os, hlb.tape, hlb.output, hlb.size, fun j hj => hlb.block j (by omega) (by omega)⟩
    by_cases hlt : k < n
    · obtain ⟨hc, hfz⟩ := HF.out k hlt
      rw [if_neg (by omega)] at hc
      have hb256 : byteN s k < 256 := by unfold byteN; exact getD_lt _ (bytesU_lt s) k
      have HK := Lib.hid (fun h => HF.out.keep h)
      have HS := Lib.hid (fun v h => HF.out.set hlt v h)
      obtain ⟨c, hcc⟩ : ∃ c, byteN s k = c := ⟨_, rfl⟩
      rw [hcc] at hc hb256 HK HS
      clear hcc HF
      by_cases hcap : 65 ≤ c ∧ c ≤ 90
      · obtain ⟨h1, h2⟩ := hcap
        have q1 : decide ((65 : Int) ≤ (c : Int)) = true := by simp; omega
        have q2 : decide ((c : Int) ≤ 90) = true := by simp; omega
        have hfc : foldC c = c + 32 := by unfold foldC; rw [if_pos ⟨h1, h2⟩]
        have HFC := Lib.hid hfc
        clear hfc
        go_wp2
        go_roundw
        case rel => exact ⟨k + 1, by omega, by go_num, HS.out _ (by rw [HFC.out]; omega), hlb.trans (LaterB.setCell _)⟩
        case measure => simp [intOf]; omega
      · have hfc : foldC c = c := by unfold foldC; rw [if_neg hcap]
        have HK2 := Lib.hid (HK.out hfc)
        clear hfc HK HS
        by_cases h1 : 65 ≤ c
        · have q1 : decide ((65 : Int) ≤ (c : Int)) = true := by simp; omega
          have q2 : decide ((c : Int) ≤ 90) = false := by simp; omega
          go_wp2
          go_roundw
          case rel => exact ⟨k + 1, by omega, by go_num, HK2.out, hlb⟩
          case measure => simp [intOf]; omega
        · have q1 : decide ((65 : Int) ≤ (c : Int)) = false := by simp; omega
          go_wp2
          go_roundw
          case rel => exact ⟨k + 1, by omega, by go_num, HK2.out, hlb⟩
          case measure => simp [intOf]; omega
    · obtain rfl : k = n := by omega
      have hB := HF.out.bs HN.out (by have := hlb.size; omega)
      have hcv := hB.conv (P := Try.prog) 29 5 Try.underlying29 Try.underlying5 9 Try.underlying9 k cap (by rw [List.length_map, bytesU_len]; exact HN.out)
      have HFS : Hid (strN ((bytesU s).map foldC) = foldS s) := rfl
      rw [HFS.out] at hcv
      clear hB HF HF0
      go_wp2
      go_ret
      exact ⟨rfl, hbw⟩

theorem map_takeF (l : List Nat) (k : Nat) (hk : k < l.length) : (l.take (k + 1)).map foldC = (l.take k).map foldC ++ [foldC l[k]] := by
  rw [List.take_add_one, List.getElem?_eq_getElem hk, List.map_append]; rfl

/-- What Name answers. -/
def nameV (s : ByteArray) : ByteArray × Int := if 20 < s.size then (⟨#[]⟩, 2) else if nameB s = false then (⟨#[]⟩, 3) else (foldS s, 0)

set_option maxHeartbeats 1000000 in
theorem Name_any (s : ByteArray) (w : World) (hs : s.size ≤ 140737488351232) :
    Calls Try.prog 47 #[.string s] w fun e w' => e = .returned (.tuple #[.string (nameV s).1, .int .i64 (nameV s).2]) ∧ Below w.heap.size w w' := by
  by_cases hl : 20 < s.size
  · have HN : Hid (nameV s = (⟨#[]⟩, 2)) := by unfold nameV; rw [if_pos hl]; rfl
    go_enter Try.func47, Try.ntmps47
    go_wp2
    go_ret2
    exact ⟨by rw [HN.out]; rfl, Below.refl _ _⟩
  · have ql : decide ((20 : Int) < (s.size : Int)) = false := by simp; omega
    have HI := Lib.hid (fun W => isName_any s W (by omega))
    have HF := Lib.hid (fun W => Fold_any s W (by omega))
    have hN : nameV s = if nameB s = false then (⟨#[]⟩, 3) else (foldS s, 0) := by unfold nameV; rw [if_neg hl]
    obtain ⟨b, hb⟩ : ∃ b, nameB s = b := ⟨_, rfl⟩
    rw [hb] at HI hN
    obtain ⟨f, hf⟩ : ∃ f, foldS s = f := ⟨_, rfl⟩
    rw [hf] at HF hN
    have HN := Lib.hid hN
    clear hN hb hf hl
    go_enter Try.func47, Try.ntmps47
    go_wp2_with fail
    refine (HI.out _).mono ?_
    rintro e w1 ⟨rfl, b1⟩
    cases b with
    | false =>
      have HN2 : Hid (nameV s = (⟨#[]⟩, 3)) := by rw [HN.out]; rfl
      clear HN
      go_wp2
      go_ret2
      exact ⟨by rw [HN2.out]; rfl, b1⟩
    | true =>
      have HN2 : Hid (nameV s = (f, 0)) := by rw [HN.out]; rfl
      clear HN
      go_wp2_with fail
      refine (HF.out _).mono ?_
      rintro e w2 ⟨rfl, b2⟩
      go_wp2
      go_ret2
      exact ⟨by rw [HN2.out]; rfl, b1.trans (b2.mono b1.size)⟩
end Go.Proofs.Ytmfdnphjhbbkiaa

/- The mathematics of tables: what they are, which may be, their bytes, what is read. -/
set_option linter.unusedSimpArgs false
set_option linter.unusedVariables false
set_option maxRecDepth 100000
namespace Go.Proofs.Ytmfdnphjhbbkiaa
open Go.RowKit

/-- A column. -/
structure Col where
  nm : ByteArray
  kd : Nat
  nn : Bool
  deriving DecidableEq

/-- A table. -/
structure Tb where
  name : ByteArray
  cols : List Col
  key : List Int
  per : ByteArray
  fr : Int
  tt : Int
  apart : Bool
  vers : Bool
  deriving DecidableEq

def cellsO (l : List Col) : List Value := cellsOf (fun c => [.string c.nm, .int .u8 (c.kd : Int), .bool c.nn]) l
theorem cellsO_len (l : List Col) : (cellsO l).length = l.length * 3 := cellsOf_len _ 3 (fun _ => rfl) l

/-- The cells of the k-th column. -/
theorem colAt {N : Nat} {w : World} {a : Option Addr} {l : List Col} (h : Arr N w a (cellsO l)) {k : Nat} (hk : k < l.length) : ∃ b o, a = some ⟨b, o, none⟩ ∧ b < N ∧
    w.cell? ⟨b, o + k * 3, none⟩ = some (.string l[k].nm) ∧ w.cell? ⟨b, o + k * 3 + 1, none⟩ = some (.int .u8 (l[k].kd : Int)) ∧ w.cell? ⟨b, o + k * 3 + 2, none⟩ = some (.bool l[k].nn) := by
  obtain ⟨b, o, ha, hb, hc⟩ := h.at_ (by intro h0; have := cellsO_len l; rw [h0] at this; simp at this; omega)
  have g := fun (j : Nat) (v : Value) (hv : ((fun c : Col => [.string c.nm, .int .u8 (c.kd : Int), .bool c.nn]) l[k])[j]? = some v) => hc _ _ (cellsOf_get (fun c : Col => [.string c.nm, .int .u8 (c.kd : Int), .bool c.nn]) 3 (fun _ => rfl) l k j l[k] v (List.getElem?_eq_getElem hk) hv)
  exact ⟨b, o, ha, hb, by simpa using g 0 _ rfl, by simpa [Nat.add_assoc] using g 1 _ rfl, by simpa [Nat.add_assoc] using g 2 _ rfl⟩

/-- A name in canonical form. -/
def isNm (s : ByteArray) : Bool := decide (nameV s = (s, 0))

def sysF : ByteArray := ⟨#[115, 121, 115, 95, 102, 114, 111, 109]⟩
def sysT : ByteArray := ⟨#[115, 121, 115, 95, 116, 111]⟩

/-- Where a column of that name is first. -/
def findC (l : List Col) (s : ByteArray) : Int := match l.findIdx? (fun c => decide (c.nm = s)) with | some i => (i : Int) | none => -1
theorem findC_hit {l : List Col} {s : ByteArray} {k : Nat} (hk : k < l.length) (h : l[k].nm = s) (hno : ∀ c ∈ l.take k, c.nm ≠ s) : findC l s = k := by
  unfold findC
  have : l.findIdx? (fun c => decide (c.nm = s)) = some k := by
    rw [List.findIdx?_eq_some_iff_getElem]
    refine ⟨hk, by simpa using h, fun j hj => ?_⟩
    have hm : l[j] ∈ l.take k := by
      rw [List.mem_take_iff_getElem]
      exact ⟨j, by omega, rfl⟩
    simpa using hno _ hm
  rw [this]
theorem findC_none {l : List Col} {s : ByteArray} (hno : ∀ c ∈ l, c.nm ≠ s) : findC l s = -1 := by
  unfold findC
  have : l.findIdx? (fun c => decide (c.nm = s)) = none := by
    rw [List.findIdx?_eq_none_iff]
    intro x hx
    simpa using hno x hx
  rw [this]
theorem findC_cases (l : List Col) (s : ByteArray) : (findC l s = -1 ∧ ∀ c ∈ l, c.nm ≠ s) ∨ ∃ k : Nat, ∃ h : k < l.length, findC l s = k ∧ l[k].nm = s ∧ ∀ c ∈ l.take k, c.nm ≠ s := by
  unfold findC
  cases hf : l.findIdx? (fun c => decide (c.nm = s)) with
  | none =>
    rw [List.findIdx?_eq_none_iff] at hf
    exact .inl ⟨rfl, fun c hc => by simpa using hf c hc⟩
  | some k =>
    rw [List.findIdx?_eq_some_iff_getElem] at hf
    obtain ⟨hk, h1, h2⟩ := hf
    refine .inr ⟨k, hk, rfl, by simpa using h1, fun c hc => ?_⟩
    rw [List.mem_take_iff_getElem] at hc
    obtain ⟨j, hj, rfl⟩ := hc
    simpa using h2 j (by omega)

/-- There is a column that is not nothing; .. and that is a number. -/
def SoundAt (l : List Col) (i : Int) : Prop := 0 ≤ i ∧ ∃ c, l[i.toNat]? = some c ∧ c.nn = true
def EdgeAt (l : List Col) (i : Int) : Prop := 0 ≤ i ∧ ∃ c, l[i.toNat]? = some c ∧ c.nn = true ∧ c.kd = 1

def Col.ok (c : Col) : Bool := isNm c.nm && !decide (c.nm = sysF) && !decide (c.nm = sysT) && decide (1 ≤ c.kd) && decide (c.kd ≤ 3)
def ColsOk (l : List Col) : Prop := 1 ≤ l.length ∧ l.length ≤ 16 ∧ (∀ c ∈ l, c.ok = true) ∧ (l.map Col.nm).Nodup
def KeyOk (l : List Col) (ks : List Int) : Prop := 1 ≤ ks.length ∧ ks.length ≤ 8 ∧ ∀ (i : Nat) k, ks[i]? = some k → SoundAt l k ∧ k ∉ ks.take i
def PerOk (t : Tb) : Prop := if t.per.size = 0 then t.fr = -1 ∧ t.tt = -1 else isNm t.per = true ∧ findC t.cols t.per = -1 ∧ t.fr ≠ t.tt ∧ EdgeAt t.cols t.fr ∧ EdgeAt t.cols t.tt
def ApOk (t : Tb) : Prop := t.apart = true → t.per.size ≠ 0 ∧ t.fr ∉ t.key ∧ t.tt ∉ t.key
/-- A table that may be. -/
def Tb.Ok (t : Tb) : Prop := isNm t.name = true ∧ ColsOk t.cols ∧ KeyOk t.cols t.key ∧ PerOk t ∧ ApOk t
open Classical in
noncomputable def Tb.ok (t : Tb) : Bool := decide t.Ok
theorem Tb.ok_iff {t : Tb} : t.ok = true ↔ t.Ok := by unfold Tb.ok; simp

/-- What the walks ask of a table: the program's types. -/
structure Tb.Fair (t : Tb) : Prop where
  cl : t.cols.length ≤ 1000000
  kl : t.key.length ≤ 1000000
  nm : t.name.size ≤ 1000000
  per : t.per.size ≤ 1000000
  fr : -9223372036854775808 ≤ t.fr ∧ t.fr ≤ 9223372036854775807
  tt : -9223372036854775808 ≤ t.tt ∧ t.tt ≤ 9223372036854775807
  cols : ∀ c ∈ t.cols, c.nm.size ≤ 1000000 ∧ c.kd < 256
  key : ∀ k ∈ t.key, -9223372036854775808 ≤ k ∧ k ≤ 9223372036854775807

/-- The bytes. -/
def intL (n : Int) : List Nat := putL (zigN n)
def flagL (b : Bool) : List Nat := intL (if b then 1 else 0)
def encC (c : Col) : List Nat := textL c.nm ++ (intL (c.kd : Int) ++ flagL c.nn)
def encT (t : Tb) : List Nat := textL t.name ++ (intL (t.cols.length : Int) ++ (t.cols.flatMap encC ++ (intL (t.key.length : Int) ++ (t.key.flatMap intL ++ (textL t.per ++ (intL t.fr ++ (intL t.tt ++ (flagL t.apart ++ flagL t.vers))))))))

/-- What is read: an integer, a text, a flag, a count; and the place behind. -/
def sdI (l : List Nat) (p : Nat) : Int × Nat := if (getR l (p : Int)).2.2 = 0 then (zagZ (getR l (p : Int)).1, (getR l (p : Int)).2.1.toNat) else (0, p)
def sdS (l : List Nat) (p : Nat) : ByteArray × Nat := if (textR l (p : Int)).2.2 = 0 then ((textR l (p : Int)).1, (textR l (p : Int)).2.1.toNat) else (⟨#[]⟩, p)
def sdF (l : List Nat) (p : Nat) : Bool × Nat := (decide ((sdI l p).1 = 1), (sdI l p).2)
def sdN (l : List Nat) (p : Nat) (most : Int) : Nat × Nat := (if (sdI l p).1 < 0 ∨ most < (sdI l p).1 then 0 else (sdI l p).1.toNat, (sdI l p).2)
def sdC (l : List Nat) (p : Nat) : Col × Nat := (⟨(sdS l p).1, (IntKind.u8.wrap (sdI l (sdS l p).2).1).toNat, (sdF l (sdI l (sdS l p).2).2).1⟩, (sdF l (sdI l (sdS l p).2).2).2)
def sdCs (l : List Nat) (p : Nat) : Nat → List Col × Nat
  | 0 => ([], p)
  | k + 1 => ((sdCs l p k).1 ++ [(sdC l (sdCs l p k).2).1], (sdC l (sdCs l p k).2).2)
def sdKs (l : List Nat) (p : Nat) : Nat → List Int × Nat
  | 0 => ([], p)
  | k + 1 => ((sdKs l p k).1 ++ [(sdI l (sdKs l p k).2).1], (sdI l (sdKs l p k).2).2)
/-- The places in a table's bytes. -/
def dp1 (l : List Nat) : Nat := (sdS l 0).2
def dn2 (l : List Nat) : Nat × Nat := sdN l (dp1 l) 16
def dc3 (l : List Nat) : List Col × Nat := sdCs l (dn2 l).2 (dn2 l).1
def dn4 (l : List Nat) : Nat × Nat := sdN l (dc3 l).2 8
def dk5 (l : List Nat) : List Int × Nat := sdKs l (dn4 l).2 (dn4 l).1
def ds6 (l : List Nat) : ByteArray × Nat := sdS l (dk5 l).2
def di7 (l : List Nat) : Int × Nat := sdI l (ds6 l).2
def di8 (l : List Nat) : Int × Nat := sdI l (di7 l).2
def df9 (l : List Nat) : Bool × Nat := sdF l (di8 l).2
def dfA (l : List Nat) : Bool × Nat := sdF l (df9 l).2
def decT (l : List Nat) : Tb := ⟨(sdS l 0).1, (dc3 l).1, (dk5 l).1, (ds6 l).1, (di7 l).1, (di8 l).1, (df9 l).1, (dfA l).1⟩

theorem sdI_at (A B : List Nat) (n : Int) (h1 : -9223372036854775808 ≤ n) (h2 : n ≤ 9223372036854775807) : sdI (A ++ (intL n ++ B)) A.length = (n, (A ++ intL n).length) := by
  unfold sdI intL
  rw [getR_put A B (zigN n) (zigN_lt n h1 h2), if_pos rfl, zag_zig, List.length_append]
  simp only [Prod.mk.injEq, true_and]
  omega
theorem sdS_at (A B : List Nat) (s : ByteArray) (h : s.size ≤ 1000000) : sdS (A ++ (textL s ++ B)) A.length = (s, (A ++ textL s).length) := by
  unfold sdS
  rw [textR_at A B s (by omega), if_pos rfl, List.length_append]
  simp only [Prod.mk.injEq, true_and]
  omega
theorem sdF_at (A B : List Nat) (b : Bool) : sdF (A ++ (flagL b ++ B)) A.length = (b, (A ++ flagL b).length) := by
  unfold sdF flagL
  rw [sdI_at A B _ (by cases b <;> simp) (by cases b <;> simp)]
  cases b <;> simp
theorem sdN_at (A B : List Nat) (n : Nat) (most : Int) (h : (n : Int) ≤ most) (h2 : most ≤ 1000) : sdN (A ++ (intL (n : Int) ++ B)) A.length most = (n, (A ++ intL (n : Int)).length) := by
  unfold sdN
  rw [sdI_at A B _ (by omega) (by omega)]
  rw [if_neg (by dsimp only; omega)]
  simp
theorem sdC_at (A B : List Nat) (c : Col) (h : c.nm.size ≤ 1000000) (hk : c.kd < 256) : sdC (A ++ (encC c ++ B)) A.length = (c, (A ++ encC c).length) := by
  have e1 : sdS (A ++ (encC c ++ B)) A.length = (c.nm, (A ++ textL c.nm).length) := by
    unfold encC
    rw [List.append_assoc]
    exact sdS_at A _ c.nm h
  have e2 : sdI (A ++ (encC c ++ B)) (A ++ textL c.nm).length = ((c.kd : Int), (A ++ textL c.nm ++ intL c.kd).length) := by
    have := sdI_at (A ++ textL c.nm) (flagL c.nn ++ B) (c.kd : Int) (by omega) (by omega)
    unfold encC
    simpa only [List.append_assoc] using this
  have e3 : sdF (A ++ (encC c ++ B)) (A ++ textL c.nm ++ intL c.kd).length = (c.nn, (A ++ textL c.nm ++ intL c.kd ++ flagL c.nn).length) := by
    have := sdF_at (A ++ textL c.nm ++ intL c.kd) B c.nn
    unfold encC
    simpa only [List.append_assoc] using this
  unfold sdC
  rw [e1]
  dsimp only
  rw [e2]
  dsimp only
  rw [e3]
  have hw : (IntKind.u8.wrap (c.kd : Int)).toNat = c.kd := by
    rw [show IntKind.u8.wrap (c.kd : Int) = (c.kd : Int) by unfold IntKind.wrap; simp [IntKind.signed, IntKind.bits]; omega]
    omega
  dsimp only
  rw [hw]
  unfold encC
  simp [List.append_assoc]
theorem sdCs_at (A B : List Nat) (l : List Col) (h : ∀ c ∈ l, c.nm.size ≤ 1000000 ∧ c.kd < 256) : ∀ k, k ≤ l.length → sdCs (A ++ (l.flatMap encC ++ B)) A.length k = (l.take k, (A ++ (l.take k).flatMap encC).length)
  | 0, _ => by simp [sdCs]
  | k + 1, hk => by
    have ih := sdCs_at A B l h k (by omega)
    have hlk : k < l.length := by omega
    have hsplit : l.flatMap encC = (l.take k).flatMap encC ++ (encC l[k] ++ (l.drop (k + 1)).flatMap encC) := by
      conv => lhs; rw [← List.take_append_drop k l, List.flatMap_append, List.drop_eq_getElem_cons hlk, List.flatMap_cons]
    have hc := h l[k] (List.getElem_mem hlk)
    have e := sdC_at (A ++ (l.take k).flatMap encC) ((l.drop (k + 1)).flatMap encC ++ B) l[k] hc.1 hc.2
    have e' : A ++ (l.flatMap encC ++ B) = (A ++ (l.take k).flatMap encC) ++ (encC l[k] ++ ((l.drop (k + 1)).flatMap encC ++ B)) := by
      rw [hsplit]; simp only [List.append_assoc]
    unfold sdCs
    rw [ih]
    dsimp only
    rw [e', e]
    rw [List.take_succ_eq_append_getElem hlk, List.flatMap_append]
    simp [List.append_assoc]
theorem sdKs_at (A B : List Nat) (l : List Int) (h : ∀ c ∈ l, -9223372036854775808 ≤ c ∧ c ≤ 9223372036854775807) : ∀ k, k ≤ l.length → sdKs (A ++ (l.flatMap intL ++ B)) A.length k = (l.take k, (A ++ (l.take k).flatMap intL).length)
  | 0, _ => by simp [sdKs]
  | k + 1, hk => by
    have ih := sdKs_at A B l h k (by omega)
    have hlk : k < l.length := by omega
    have hsplit : l.flatMap intL = (l.take k).flatMap intL ++ (intL l[k] ++ (l.drop (k + 1)).flatMap intL) := by
      conv => lhs; rw [← List.take_append_drop k l, List.flatMap_append, List.drop_eq_getElem_cons hlk, List.flatMap_cons]
    have hc := h l[k] (List.getElem_mem hlk)
    have e := sdI_at (A ++ (l.take k).flatMap intL) ((l.drop (k + 1)).flatMap intL ++ B) l[k] hc.1 hc.2
    have e' : A ++ (l.flatMap intL ++ B) = (A ++ (l.take k).flatMap intL) ++ (intL l[k] ++ ((l.drop (k + 1)).flatMap intL ++ B)) := by
      rw [hsplit]; simp only [List.append_assoc]
    unfold sdKs
    rw [ih]
    dsimp only
    rw [e', e]
    rw [List.take_succ_eq_append_getElem hlk, List.flatMap_append]
    simp [List.append_assoc]

/-- What was written is read. -/
theorem decT_enc (t : Tb) (h : t.Fair) (ho : t.Ok) : decT (encT t) = t := by
  obtain ⟨-, hco, hke, -, -⟩ := ho
  have l16 := hco.2.1
  have l8 := hke.2.1
  generalize hE : encT t = E
  have hE0 := hE
  unfold encT at hE
  have s1 : sdS E 0 = (t.name, (textL t.name).length) := by
    rw [← hE]; exact sdS_at [] _ t.name h.nm
  have s2 : dn2 E = (t.cols.length, (textL t.name ++ intL t.cols.length).length) := by
    unfold dn2 dp1
    rw [s1]
    dsimp only
    rw [← hE]; exact sdN_at (textL t.name) _ t.cols.length 16 (by omega) (by omega)
  have s3 : dc3 E = (t.cols, (textL t.name ++ intL t.cols.length ++ t.cols.flatMap encC).length) := by
    unfold dc3
    rw [s2]
    dsimp only
    have := sdCs_at (textL t.name ++ intL t.cols.length) (intL (t.key.length : Int) ++ (t.key.flatMap intL ++ (textL t.per ++ (intL t.fr ++ (intL t.tt ++ (flagL t.apart ++ flagL t.vers)))))) t.cols h.cols t.cols.length (Nat.le_refl _)
    rw [List.take_length] at this
    rw [← hE]
    simpa only [List.append_assoc] using this
  have s4 : dn4 E = (t.key.length, (textL t.name ++ intL t.cols.length ++ t.cols.flatMap encC ++ intL t.key.length).length) := by
    unfold dn4
    rw [s3]
    dsimp only
    have := sdN_at (textL t.name ++ intL t.cols.length ++ t.cols.flatMap encC) (t.key.flatMap intL ++ (textL t.per ++ (intL t.fr ++ (intL t.tt ++ (flagL t.apart ++ flagL t.vers))))) t.key.length 8 (by omega) (by omega)
    rw [← hE]
    simpa only [List.append_assoc] using this
  have s5 : dk5 E = (t.key, (textL t.name ++ intL t.cols.length ++ t.cols.flatMap encC ++ intL t.key.length ++ t.key.flatMap intL).length) := by
    unfold dk5
    rw [s4]
    dsimp only
    have := sdKs_at (textL t.name ++ intL t.cols.length ++ t.cols.flatMap encC ++ intL t.key.length) (textL t.per ++ (intL t.fr ++ (intL t.tt ++ (flagL t.apart ++ flagL t.vers)))) t.key h.key t.key.length (Nat.le_refl _)
    rw [List.take_length] at this
    rw [← hE]
    simpa only [List.append_assoc] using this
  generalize hP5 : textL t.name ++ intL t.cols.length ++ t.cols.flatMap encC ++ intL t.key.length ++ t.key.flatMap intL = P5 at s5
  have hE5 : E = P5 ++ (textL t.per ++ (intL t.fr ++ (intL t.tt ++ (flagL t.apart ++ flagL t.vers)))) := by
    rw [← hE, ← hP5]; simp only [List.append_assoc]
  have s6 : ds6 E = (t.per, (P5 ++ textL t.per).length) := by
    unfold ds6
    rw [s5]
    dsimp only
    rw [hE5]; exact sdS_at P5 _ t.per h.per
  have s7 : di7 E = (t.fr, (P5 ++ textL t.per ++ intL t.fr).length) := by
    unfold di7
    rw [s6]
    dsimp only
    have := sdI_at (P5 ++ textL t.per) (intL t.tt ++ (flagL t.apart ++ flagL t.vers)) t.fr h.fr.1 h.fr.2
    rw [hE5]
    simpa only [List.append_assoc] using this
  have s8 : di8 E = (t.tt, (P5 ++ textL t.per ++ intL t.fr ++ intL t.tt).length) := by
    unfold di8
    rw [s7]
    dsimp only
    have := sdI_at (P5 ++ textL t.per ++ intL t.fr) (flagL t.apart ++ flagL t.vers) t.tt h.tt.1 h.tt.2
    rw [hE5]
    simpa only [List.append_assoc] using this
  have s9 : df9 E = (t.apart, (P5 ++ textL t.per ++ intL t.fr ++ intL t.tt ++ flagL t.apart).length) := by
    unfold df9
    rw [s8]
    dsimp only
    have := sdF_at (P5 ++ textL t.per ++ intL t.fr ++ intL t.tt) (flagL t.vers) t.apart
    rw [hE5]
    simpa only [List.append_assoc] using this
  have sA : dfA E = (t.vers, (P5 ++ textL t.per ++ intL t.fr ++ intL t.tt ++ flagL t.apart ++ flagL t.vers).length) := by
    unfold dfA
    rw [s9]
    dsimp only
    have := sdF_at (P5 ++ textL t.per ++ intL t.fr ++ intL t.tt ++ flagL t.apart) [] t.vers
    rw [hE5]
    simpa only [List.append_assoc, List.append_nil] using this
  unfold decT
  rw [s1, s3, s5, s6, s7, s8, s9, sA]

theorem sdI_bd (l : List Nat) (h : ∀ c ∈ l, c < 256) (p : Nat) (hp : (p : Int) ≤ 9223372036854775807) : (-9223372036854775808 ≤ (sdI l p).1 ∧ (sdI l p).1 ≤ 9223372036854775807) ∧ ((sdI l p).2 ≤ p ∨ (sdI l p).2 ≤ l.length) := by
  have hb := getR_lt l h (p : Int) hp
  unfold sdI
  split
  · exact ⟨zagZ_bd _ hb.1, .inr (by dsimp only; omega)⟩
  · exact ⟨by dsimp only; omega, .inl (Nat.le_refl _)⟩
theorem sdS_bd (l : List Nat) (h : ∀ c ∈ l, c < 256) (p : Nat) (hp : (p : Int) ≤ 9223372036854775807) : (sdS l p).1.size ≤ l.length ∧ ((sdS l p).2 ≤ p ∨ (sdS l p).2 ≤ l.length) := by
  have hb := getR_lt l h (p : Int) hp
  unfold sdS
  split
  · unfold textR
    dsimp only
    split
    · exact ⟨by simp, .inl (by simp)⟩
    · split
      · exact ⟨by simp, .inl (by simp)⟩
      · refine ⟨?_, .inr (by dsimp only; omega)⟩
        rw [strN_size, List.length_take, List.length_drop]
        omega
  · exact ⟨Nat.zero_le _, .inl (Nat.le_refl _)⟩
attribute [irreducible] sdI sdS
end Go.Proofs.Ytmfdnphjhbbkiaa

/- The walk of the reference's Name. -/
set_option linter.unusedSimpArgs false
set_option linter.unusedVariables false
set_option maxRecDepth 100000
namespace Go.Proofs.Ytmfdnphjhbbkiaa
set_option linter.unusedSimpArgs false
open Go.RowKit

theorem byteN_getD (s : ByteArray) (i : Nat) (h : i < s.size) : (s[i]'h).toNat = byteN s i := (byteN_at s i h).symm

end Go.Proofs.Ytmfdnphjhbbkiaa

/- The walks of cell.arith where an argument is null. -/
set_option linter.unusedSimpArgs false
set_option linter.unusedVariables false
set_option maxRecDepth 100000
namespace Go.Proofs.Ytmfdnphjhbbkiaa
open Go.RowKit

theorem right_n : Vl.right ⟨0, 0, ⟨#[]⟩⟩ = true := by decide
theorem right_i (n : Int) : Vl.right ⟨1, n, ⟨#[]⟩⟩ = true := by simp [Vl.right]; rfl
theorem num0 : decide (0 ≤ 1) = true := by decide
theorem num1 : decide (1 ≤ 1) = true := by decide

theorem right_cases0 (x : Vl) (h : x.right = true) (hk : x.k ≤ 1) : x = ⟨0, 0, ⟨#[]⟩⟩ ∨ x = ⟨1, x.n, ⟨#[]⟩⟩ := by
  obtain ⟨k, n, s⟩ := x
  rcases kinds k with rfl | rfl | rfl | rfl | h3
  · obtain ⟨rfl, rfl⟩ := right_null h; exact .inl rfl
  · have := right_num h; subst this; exact .inr rfl
  · simp only at hk; omega
  · simp only at hk; omega
  · simp only at hk; omega

end Go.Proofs.Ytmfdnphjhbbkiaa

/- The walks of cell.Truth, Bool, Not. -/
set_option linter.unusedSimpArgs false
set_option linter.unusedVariables false
set_option maxRecDepth 100000
namespace Go.Proofs.Ytmfdnphjhbbkiaa
open Go.RowKit

theorem slots1 (w : World) (T : TypeId) (a0 a1 a2 : Value) (w' : World) (hl : Later (w.alloc (.cells #[a0, a1, a2] T)) w') :
    Slot w' w.heap.size a0 a1 a2 ∧ w.heap.size + 1 ≤ w'.heap.size := by
  have e1 : (w.alloc (.cells #[a0, a1, a2] T)).heap.size = w.heap.size + 1 := by simp
  refine ⟨(Slot.new w T a0 a1 a2).later hl (by rw [e1]; omega), ?_⟩
  have := hl.size
  rw [e1] at this; omega

theorem slots2 (w : World) (T : TypeId) (a0 a1 a2 b0 b1 b2 : Value) (w' : World) (hl : Later ((w.alloc (.cells #[a0, a1, a2] T)).alloc (.cells #[b0, b1, b2] T)) w') :
    Slot w' w.heap.size a0 a1 a2 ∧ Slot w' (w.heap.size + 1) b0 b1 b2 ∧ w.heap.size + 2 ≤ w'.heap.size := by
  have e1 : (w.alloc (.cells #[a0, a1, a2] T)).heap.size = w.heap.size + 1 := by simp
  have e2 : ((w.alloc (.cells #[a0, a1, a2] T)).alloc (.cells #[b0, b1, b2] T)).heap.size = w.heap.size + 1 + 1 := by simp
  have l1 : Later (w.alloc (.cells #[a0, a1, a2] T)) ((w.alloc (.cells #[a0, a1, a2] T)).alloc (.cells #[b0, b1, b2] T)) := (Below.refl _ _).alloc (Nat.le_refl _) _
  refine ⟨((Slot.new w T a0 a1 a2).later l1 (by rw [e1]; omega)).later hl (by rw [e2]; omega), ?_, ?_⟩
  · have := (Slot.new (w.alloc (.cells #[a0, a1, a2] T)) T b0 b1 b2)
    rw [e1] at this
    exact this.later hl (by rw [e2]; omega)
  · have := hl.size
    rw [e2] at this; omega

/-- What Truth answers: is it true, is that known, the error. -/
def truthT (x : Vl) : Bool × Bool × Int :=
  if x.right = false then (false, false, 3) else if 1 < x.k then (false, false, 20) else if x.k = 0 then (false, false, 0) else (x.n != 0, true, 0)

def RetT (w : World) (r : Bool × Bool × Int) (e : Ending) (w' : World) : Prop :=
  e = .returned (.tuple #[.bool r.1, .bool r.2.1, .int .i64 r.2.2]) ∧ Below w.heap.size w w'

def boolV (b : Bool) : Vl := numV (if b then 1 else 0)
end Go.Proofs.Ytmfdnphjhbbkiaa

/- The walks of cell.Bool, Not, decide, And, Or. -/
set_option linter.unusedSimpArgs false
set_option linter.unusedVariables false
set_option maxRecDepth 100000
namespace Go.Proofs.Ytmfdnphjhbbkiaa
open Go.RowKit

/-- What Not answers. -/
def notV (x : Vl) : Vl × Int :=
  if (truthT x).2.2 ≠ 0 then (nullV, (truthT x).2.2) else if (truthT x).2.1 = false then (nullV, 0) else (boolV (!(truthT x).1), 0)

/-- What decide answers. -/
def decideV (win : Bool) (a b : Vl) : Vl × Int :=
  if a.right = false ∨ b.right = false then (nullV, 3)
  else if 1 < a.k ∨ 1 < b.k then (nullV, 20)
  else if (truthT a).2.1 = true ∧ (truthT a).1 = win ∨ (truthT b).2.1 = true ∧ (truthT b).1 = win then (boolV win, 0)
  else if (truthT a).2.1 = false ∨ (truthT b).2.1 = false then (nullV, 0)
  else (boolV (!win), 0)

/-- Two truths and the winner decide. -/
def decideB (win y1 kn1 y2 kn2 : Bool) : Vl × Int :=
  if kn1 = true ∧ y1 = win ∨ kn2 = true ∧ y2 = win then (boolV win, 0) else if kn1 = false ∨ kn2 = false then (nullV, 0) else (boolV (!win), 0)

theorem truth_num (x : Vl) (h : x.right = true) (hk : x.k ≤ 1) : (truthT x).2.2 = 0 := by
  unfold truthT
  rw [if_neg (by simp [h]), if_neg (by omega)]
  split <;> rfl

theorem truth_type (x : Vl) (h : x.right = true) (hk : ¬ x.k ≤ 1) : truthT x = (false, false, 20) := by
  unfold truthT
  rw [if_neg (by simp [h]), if_pos (by omega)]

end Go.Proofs.Ytmfdnphjhbbkiaa
