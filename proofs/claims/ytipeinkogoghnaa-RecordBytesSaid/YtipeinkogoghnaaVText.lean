/- The walks of PutText and GetText (varint's and hindsightref01's). -/
import Derived.Test.YtipeinkogoghnaaVInt2
import Derived.Lib.AppendStr
namespace Go.Proofs.Ytipeinkogoghnaa
open Go.RowKit

/-- The bytes of a string. -/
def bytesOf (s : ByteArray) : List Nat := s.data.toList.map UInt8.toNat

theorem bytesOf_len (s : ByteArray) : (bytesOf s).length = s.size := by simp [bytesOf]
theorem bytesOf_lt (s : ByteArray) : ∀ c ∈ bytesOf s, c < 256 := by
  intro c hc
  obtain ⟨u, _, rfl⟩ := List.mem_map.1 hc
  exact u.toNat_lt
theorem strN_bytesOf (s : ByteArray) : strN (bytesOf s) = s := by
  apply ByteArray.ext
  apply Array.toList_inj.1
  have e : (UInt8.ofNat ∘ UInt8.toNat) = id := by funext x; simp
  simp [strN, bytesOf, e]
theorem bytesOf_get (s : ByteArray) (i : Nat) (h : i < s.size) : (bytesOf s)[i]? = some s[i].toNat := by
  simp [bytesOf, h]
  rfl
theorem strCells_bytes (s : ByteArray) : Lib.strCells s = (bytesOf s).map fun (c : Nat) => Value.int .u8 (c : Int) := by
  simp [Lib.strCells, bytesOf]

/-- 'append(b, s...)' of a string. -/
theorem wpList_appStr {P : Program} {ops : Array Oper} {rest : List Oper} {o : Oper} {a : Act} {Q : Exit → Act → World → Prop} (hgd : o.guard = none) (sl x : Operand) (t u : TypeId)
    (ho : o.op = .call { callee := .builtin .append, args := #[sl, x], argTypes := #[t, u] })
    (base : Nat) (e : TypeId) (i : TypeInfo) (ht : P.underlying t = some (.slice e)) (hu : P.underlying u = some .string) (hi : P.info? e = some i) (hz : i.zero = some (.int .u8 0))
    (hsize : i.size = 1) (hby : i.bytes = 1)
    (v : Value) (l : List Nat) (w : World) (hown : OwnB w base e v l) (hs : a.eval sl = v) (s : ByteArray) (hx : a.eval x = .string s)
    (hlen : l.length + s.size < 100000000000000) (hbase : base ≤ w.heap.size)
    (h : ∀ v' w', OwnB w' base e v' (l ++ bytesOf s) → Below base w w' → w.heap.size ≤ w'.heap.size → wpList P ops Q rest (a.put o.dst v') w') : wpList P ops Q (o :: rest) a w := by
  refine Lib.wpList_append_own_string w hgd sl x t u ho base e i ht hu hi hz hsize hby v l.length _ hs hown.2 s hx ?_ ?_ hbase ?_
  · unfold maxLen; omega
  · omega
  · intro v' w' hown' hgrow _
    refine h v' w' ⟨?_, ?_⟩ ?_ hgrow.size
    · intro d hd
      rcases List.mem_append.1 hd with hd | hd
      · exact hown.1 d hd
      · exact bytesOf_lt s d hd
    · rw [strCells_bytes] at hown'
      simpa [bytesOf_len] using hown'
    · exact (Below.refl base w).grown hgrow hbase (fun j hj => (hown.2.lt j hj).1)

/-- 'append(b, c...)' of bytes that are not none. -/
theorem wpList_appB {P : Program} {ops : Array Oper} {rest : List Oper} {o : Oper} {a : Act} {Q : Exit → Act → World → Prop} (hgd : o.guard = none) (sl x : Operand) (t : TypeId)
    (ho : o.op = .call { callee := .builtin .append, args := #[sl, x], argTypes := #[t, t] })
    (base : Nat) (e : TypeId) (i : TypeInfo) (ht : P.underlying t = some (.slice e)) (hi : P.info? e = some i) (hz : i.zero = some (.int .u8 0))
    (hsize : i.size = 1) (hby : i.bytes = 1)
    (v : Value) (l : List Nat) (w : World) (hown : OwnB w base e v l) (hs : a.eval sl = v) (N : Nat) (ad : Option Addr) (m : List Nat) (n c : Nat) (hB : Bs N w ad m) (hm : m ≠ []) (hn : n = m.length) (hx : a.eval x = .slice ad n c)
    (hlen : l.length + m.length < 100000000000000) (hbase : base ≤ w.heap.size)
    (h : ∀ v' w', OwnB w' base e v' (l ++ m) → Below base w w' → w.heap.size ≤ w'.heap.size → wpList P ops Q rest (a.put o.dst v') w') : wpList P ops Q (o :: rest) a w := by
  subst hn
  obtain ⟨hB1, hB2⟩ := hB
  rcases hB2 with hB2 | ⟨b, f, rfl, hb, hc⟩
  · exact absurd hB2 hm
  · refine wpList_append_own w hgd sl x t ho base e i (.int .u8 0) 1 1 ht hi hz hsize hby rfl (by decide) v l.length _ hs hown.2 ⟨b, f, none⟩ m.length c (m.map fun (c : Nat) => Value.int .u8 (c : Int)) hx (by simp) ?_ ?_ ?_ ?_ hbase ?_
    · intro j u hj
      rw [List.getElem?_map] at hj
      cases hmj : m[j]? with
      | none => rw [hmj] at hj; simp at hj
      | some q =>
        rw [hmj] at hj
        simp at hj
        subst hj
        have e1 : (⟨b, f, none⟩ : Addr).add j = ⟨b, f + j, none⟩ := by unfold Addr.add; split <;> simp_all
        rw [e1]; exact hc j q hmj
    · intro u hu
      obtain ⟨q, _, rfl⟩ := List.mem_map.1 hu
      rfl
    · unfold maxLen; omega
    · omega
    · intro v' w' hown' hgrow _
      refine h v' w' ⟨?_, ?_⟩ ?_ hgrow.size
      · intro d hd
        rcases List.mem_append.1 hd with hd | hd
        · exact hown.1 d hd
        · exact hB1 d hd
      · simpa using hown'
      · exact (Below.refl base w).grown hgrow hbase (fun j hj => (hown.2.lt j hj).1)

/-- The text's bytes. -/
def textL (s : ByteArray) : List Nat := putL s.size ++ bytesOf s

set_option maxHeartbeats 400000 in
theorem putText_any (s : ByteArray) (w : World) (hs : s.size ≤ 1000000) :
    Calls Try.prog 63 #[.string s] w fun e w' => ∃ r, e = .returned r ∧ OwnB w' w.heap.size 5 r (textL s) ∧ Below w.heap.size w w' := by
  obtain ⟨i0, hi, hz0, hz1, hz2⟩ := info_parts Try.info5
  have hl := putL_len10 (show s.size < 18446744073709551616 by omega)
  go_enter Try.func63, Try.ntmps63
  go_wp2_with fail
  refine (put_any s.size _ (by omega)).mono ?_
  rintro e w1 ⟨r, rfl, hown, hb⟩
  go_wp2_with (at_builtin; refine wpList_appStr rfl _ _ 33 9 rfl w.heap.size 5 i0 Try.underlying33 Try.underlying9 hi hz0 hz1 hz2 r _ w1 hown rfl s rfl (by omega) hb.size ?_; intro v' w2 hown' hb' hsz')
  go_ret
  exact ⟨v', rfl, hown', hb.trans hb'⟩

/-- What GetText answers. -/
def textR (l : List Nat) (at_ : Int) : ByteArray × Int × Nat :=
  let g := getR l at_
  if g.2.2 ≠ 0 then (ByteArray.empty, 0, g.2.2)
  else if (l.length : Int) - g.2.1 < (g.1 : Int) then (ByteArray.empty, 0, 10)
  else (strN ((l.drop g.2.1.toNat).take g.1), g.2.1 + g.1, 0)


set_option maxHeartbeats 1000000 in
theorem getText_any (N : Nat) (l : List Nat) (a : Option Addr) (len cap : Nat) (at_ : Int) (w : World) (hB : Bs N w a l) (hlen : len = l.length) (hmax : len ≤ 140737488355328) (hcap : len ≤ cap)
    (h1 : -9223372036854775808 ≤ at_) (h2 : at_ ≤ 9223372036854775807) :
    Calls Try.prog 65 #[.slice a len cap, .int .i64 at_] w fun e w' =>
      e = .returned (.tuple #[.string (textR l at_).1, .int .i64 (textR l at_).2.1, .int .i64 (textR l at_).2.2]) ∧ w = w' := by
  have hg := get_any N l a len cap at_ w hB hlen hmax hcap h1 h2
  have hl := getR_lt l hB.1 at_ h2
  obtain ⟨T, hT⟩ : ∃ T, textR l at_ = T := ⟨_, rfl⟩
  rw [hT]
  unfold textR at hT
  obtain ⟨R, hR⟩ : ∃ R, getR l at_ = R := ⟨_, rfl⟩
  rw [hR] at hg hl hT
  obtain ⟨v, n, q⟩ := R
  simp only [] at hg hl hT
  have HG := Lib.hid hg
  clear hg hR
  obtain ⟨m, rfl⟩ := Int.eq_ofNat_of_zero_le hl.2.1
  have hm : m ≤ len := by omega
  by_cases hq : q = 0
  · subst hq
    rw [if_neg (by simp)] at hT
    by_cases hlt : (l.length : Int) - m < (v : Int)
    · rw [if_pos hlt] at hT
      subst hT
      clear hB
      have hlt' : (len : Int) - m < v := by omega
      clear hlen hlt
      go_enter Try.func65, Try.ntmps65
      go_wp2_with fail
      refine HG.out.mono ?_
      rintro e w1 ⟨rfl, rfl⟩
      go_wp2
      go_ret3
      exact ⟨rfl, rfl⟩
    · rw [if_neg hlt] at hT
      obtain ⟨a', hB', hsl⟩ := hB.window 33 5 Try.underlying33 Try.sizeOf5 len cap m (m + v) hlen (by omega) (by omega) hcap
      have hcv := hB'.str (m + v - m) (cap - m) (by rw [List.length_take, List.length_drop]; omega)
      rw [show m + v - m = v by omega] at hsl hcv
      simp only [Int.natCast_add] at hsl
      subst hT
      have hle : ¬ (len : Int) - m < v := by omega
      clear hlen hlt hB hB'
      go_enter Try.func65, Try.ntmps65
      go_wp2_with fail
      refine HG.out.mono ?_
      rintro e w1 ⟨rfl, rfl⟩
      go_wp2
      go_ret3
      exact ⟨by simp, rfl⟩
  · rw [if_pos hq] at hT
    subst hT
    clear hlen hB
    have hq3 : ((q : Int) != 0) = true := by simp; omega
    go_enter Try.func65, Try.ntmps65
    go_wp2_with fail
    refine HG.out.mono ?_
    rintro e w1 ⟨rfl, rfl⟩
    go_wp2
    go_ret3
    exact ⟨rfl, rfl⟩

end Go.Proofs.Ytipeinkogoghnaa
