/- Several texts of one proof, one behind the other. -/
import Derived.Test.YtialpfdhdcjpaaaSPk21
import Derived.Maps.AppendAt
import Derived.Deep.Cut
set_option linter.unusedSimpArgs false
set_option linter.unusedVariables false

/- 'append(l, x)' in a region: x has been laid in a block some time before; where the new row lies. -/
set_option linter.unusedSimpArgs false
set_option linter.unusedVariables false
set_option maxRecDepth 100000
namespace Go.Proofs.Ytialpfdhdcjpaaa
open Go.RowKit

theorem wp_appV2 {P : Program} {o : Oper} {a : Act} {K : Act → World → Prop} {Q : Exit → Act → World → Prop} (s x : Operand) (t : TypeId)
    (ho : o.op = .call { callee := .builtin .append, args := #[s, x], argTypes := #[t, t] })
    (base : Nat) (e : TypeId) (i : TypeInfo) (z : Value) (bytes : Nat) (ht : P.underlying t = some (.slice e)) (hi : P.info? e = some i) (hz : i.zero = some z) (hzs : z.cells.size = 3)
    (hsize : i.size = 3) (hby : i.bytes = bytes) (hb100 : bytes ≤ 100)
    (v : Value) (l : List Vl) (w : World) (hown : OwnV w base e v l) (hs : a.eval s = v) (b : Nat) (y : Vl) (hc : CellV w b 0 y)
    (hx : a.eval x = .slice (some ⟨b, 0, none⟩) 1 1) (hlen : l.length < 1000000000000) (hbase : base ≤ w.heap.size)
    (h : ∀ v' w', OwnV w' base e v' (l ++ [y]) → Chg v.ownBlock.toList w w' → (∀ g, v'.ownBlock = some g → g ∈ v.ownBlock.toList ∨ w.heap.size ≤ g) → K (a.put o.dst v') w') :
    o.wp P a w K Q := by
  have hc' := hc
  obtain ⟨c0, c1, c2⟩ := hc'
  obtain ⟨v', w', hrun, h2, h3, -, h5⟩ := run_append_own_at (P := P) w base t o.type e i z 3 bytes ht hi hz hsize hby hzs (by omega) v l.length (cellsV l) hown ⟨b, 0, none⟩ 1 1 [.int .u8 (y.k : Int), .int .i64 y.n, .string y.s] rfl (by
      intro j u hj
      match j, hj with
      | 0, hj => simp at hj; subst hj; simpa [Addr.add] using c0
      | 1, hj => simp at hj; subst hj; simpa [Addr.add] using c1
      | 2, hj => simp at hj; subst hj; simpa [Addr.add] using c2) (by intro u hu; simp at hu; rcases hu with rfl | rfl | rfl <;> rfl) (by unfold maxLen; omega) (by
      have : (l.length + 1) * bytes ≤ 1000000000000 * 100 := Nat.mul_le_mul (by omega) hb100
      omega) hbase
  unfold Oper.wp execOp
  simp only [ho, resolve, invoke, builtin, Sem.run_bind, Sem.run_pure, Result.andThen_ok, List.map_toArray, List.map_cons, List.map_nil, hs, hx, hrun]
  refine h v' w' ?_ ⟨h3.os, h3.tape, h3.output, h3.size, fun k hk hn => h3.block k hk (by intro he; apply hn; rw [Option.mem_toList]; exact he.symm)⟩ ?_
  · unfold OwnV
    have e2 : cellsV (l ++ [y]) = cellsV l ++ [.int .u8 (y.k : Int), .int .i64 y.n, .string y.s] := by simp [cellsV]
    rw [e2]
    simpa using h2
  · intro g hg
    rcases h5 with h5 | h5
    · left; rw [Option.mem_toList, ← h5]; exact hg
    · right; rw [h5] at hg; injection hg with hg; omega

theorem OwnV.chg {w w' : World} {base : Nat} {T : TypeId} {v : Value} {l : List Vl} {S : List Nat} (h : OwnV w base T v l) (hc : Chg S w w') (hn : ∀ g, v.ownBlock = some g → g ∉ S) : OwnV w' base T v l := own_chg h hc hn
theorem CellV.chg {w w' : World} {b o : Nat} {x : Vl} {S : List Nat} (h : CellV w b o x) (hc : Chg S w w') (hb : b < w.heap.size) (hn : b ∉ S) : CellV w' b o x :=
  ⟨(hc.cell hb hn).trans h.1, (hc.cell hb hn).trans h.2.1, (hc.cell hb hn).trans h.2.2⟩
theorem CellV.new (w : World) (x : Vl) (T : TypeId) : CellV (w.alloc (.cells #[.int .u8 (x.k : Int), .int .i64 x.n, .string x.s] T)) w.heap.size 0 x :=
  ⟨by simp, by simp, by simp⟩

/-- Two rows of the call's own that lie apart. -/
structure Two (base : Nat) (T : TypeId) (W : World) (vx vy : Value) (lx ly : List Vl) : Prop where
  ox : OwnV W base T vx lx
  oy : OwnV W base T vy ly
  ne : ∀ g, vx.ownBlock = some g → g ∉ vy.ownBlock.toList
theorem Two.nil (base : Nat) (T : TypeId) (W : World) : Two base T W (.slice none 0 0) (.slice none 0 0) [] [] := ⟨OwnV.nil _ _ _, OwnV.nil _ _ _, by intro g hg; simp [Value.ownBlock] at hg⟩
theorem Two.ne' {base : Nat} {T : TypeId} {W : World} {vx vy : Value} {lx ly : List Vl} (h : Two base T W vx vy lx ly) : ∀ g, vy.ownBlock = some g → g ∉ vx.ownBlock.toList := by
  intro g hg hm
  rw [Option.mem_toList] at hm
  exact h.ne g hm (by rw [Option.mem_toList]; exact hg)
/-- The blocks of both. -/
def both (vx vy : Value) : List Nat := vx.ownBlock.toList ++ vy.ownBlock.toList
theorem Two.far {base : Nat} {T : TypeId} {W : World} {vx vy : Value} {lx ly : List Vl} (h : Two base T W vx vy lx ly) : ∀ k ∈ both vx vy, base ≤ k := by
  intro k hk
  rcases List.mem_append.1 hk with hk | hk <;> rw [Option.mem_toList] at hk
  · exact (h.ox.lt k hk).1
  · exact (h.oy.lt k hk).1
end Go.Proofs.Ytialpfdhdcjpaaa

/- The law SchemaKeys: its mathematics, what stays. -/
set_option linter.unusedSimpArgs false
set_option linter.unusedVariables false
set_option maxRecDepth 100000
namespace Go.Proofs.Ytialpfdhdcjpaaa
open Go.RowKit

theorem rowE_ok {t : Tb} {l : List Vl} (h : rowE t l = 0) : t.Ok ∧ l.length = t.cols.length ∧ (writeK (partsV t l)).2 = 0 := by
  unfold rowE at h
  split at h
  · omega
  · rename_i h1
    split at h
    · omega
    · rename_i h2
      split at h
      · rename_i h3; exact absurd h h3
      · split at h
        · omega
        · split at h
          · omega
          · rename_i h5
            refine ⟨Tb.ok_iff.1 (by simpa using h1), by omega, ?_⟩
            by_cases h6 : (writeK (partsV t l)).2 = 0
            · exact h6
            · exact absurd (.inl h6) h5

theorem keys_math {t : Tb} {l : List Vl} (h : rowE t l = 0) : keyOf t l = (keyL (partsV t l), 0) ∧ frontOf t l = (keyL (frontV t.key l), 0) ∧ writeK (partsV t l) = (keyL (partsV t l), 0) ∧ keyL (frontV t.key l) <+: keyL (partsV t l) := by
  obtain ⟨-, -, h3⟩ := rowE_ok h
  have hw : writeK (partsV t l) = ((writeK (partsV t l)).1, 0) := by rw [← h3]
  obtain ⟨e, h16, hr⟩ := writeK_ok hw
  have hw2 := hw
  rw [e] at hw2
  have hsp : keyL (partsV t l) = keyL (frontV t.key l) ++ keyL (if t.apart then [l.getD t.fr.toNat zeroVl] else []) := by
    unfold partsV keyL; rw [List.flatMap_append]
  have hlen : (keyL (partsV t l)).length ≤ 100 := by have := writeK_len (partsV t l); rw [hw2] at this; exact this
  have hf : writeK (frontV t.key l) = (keyL (frontV t.key l), 0) := by
    refine writeK_good ((rowOk_iff _).2 ⟨?_, fun x hx => hr x ?_⟩) ?_
    · have : (partsV t l).length = (frontV t.key l).length + (if t.apart then [l.getD t.fr.toNat zeroVl] else []).length := by unfold partsV; rw [List.length_append]
      omega
    · unfold partsV; exact List.mem_append_left _ hx
    · rw [hsp, List.length_append] at hlen; omega
  refine ⟨?_, ?_, hw2, ?_⟩
  · rw [keyOf_good h, e]
  · unfold frontOf; rw [if_pos h]; exact hf
  · rw [hsp]; exact List.prefix_append _ _

/-- What stays: the table's box, the table, both rows. -/
structure KyW (w W : World) (t : Tb) (m : TM) (la : List Vl) (aa : Option Addr) (na ca : Nat) (lb : List Vl) (ab : Option Addr) (nb cb : Nat) : Prop where
  tab : TBox W w.heap.size m t
  at_ : TAt W t m
  ra : RowAt W la aa na ca
  rb : RowAt W lb ab nb cb
  bel : Below w.heap.size w W
  lt : w.heap.size < W.heap.size
theorem KyW.later {w W W' : World} {t : Tb} {m : TM} {la : List Vl} {aa : Option Addr} {na ca : Nat} {lb : List Vl} {ab : Option Addr} {nb cb : Nat} (h : KyW w W t m la aa na ca lb ab nb cb) (hb : Below W.heap.size W W') : KyW w W' t m la aa na ca lb ab nb cb :=
  ⟨h.tab.later h.lt hb, h.at_.later hb, h.ra.later hb, h.rb.later hb, h.bel.trans (hb.mono h.bel.size), Nat.lt_of_lt_of_le h.lt hb.size⟩
theorem RowIn.at_ {w : World} {a : Option Addr} {len cap : Nat} {l : List Vl} (h : RowIn w a len cap l) (hs : len ≤ 40) : RowAt w l a len cap := ⟨h.2.2.2.1, h.1, by omega, fun x hx => (h.2.2.2.2 x hx).fair⟩

/-- Bytes of the call's own, some of which are cut off. -/
structure KyB (W : World) (kx ky f : List Nat) (a2 a3 a4 a5 : Option Addr) : Prop where
  k2 : Bs W.heap.size W a2 kx
  k3 : Bs W.heap.size W a3 ky
  k4 : Bs W.heap.size W a4 f
  k5 : Bs W.heap.size W a5 f
theorem KyB.later {W W' : World} {kx ky f : List Nat} {a2 a3 a4 a5 : Option Addr} (h : KyB W kx ky f a2 a3 a4 a5) (hb : Below W.heap.size W W') : KyB W' kx ky f a2 a3 a4 a5 :=
  ⟨(h.k2.below hb).mono hb.size, (h.k3.below hb).mono hb.size, (h.k4.below hb).mono hb.size, (h.k5.below hb).mono hb.size⟩
end Go.Proofs.Ytialpfdhdcjpaaa

/- The law SchemaKeys: its walk. (Made by wip/gen/genlawk15.py.) -/
set_option linter.unusedSimpArgs false
set_option linter.unusedVariables false
set_option maxRecDepth 100000
namespace Go.Proofs.Ytialpfdhdcjpaaa
open Go.RowKit

set_option maxHeartbeats 16000000 in
theorem schemaKeys_walk (t : Tb) (m : TM) (aa : Option Addr) (na ca : Nat) (la : List Vl) (ab : Option Addr) (nb cb : Nat) (lb : List Vl) (w : World) (h : TbIn w t m) (h1 : RowIn w aa na ca la) (h2 : RowIn w ab nb cb lb) :
    Calls Try.prog 7 #[m.v t, .slice aa na ca, .slice ab nb cb] w fun e w' => e = .returned (.bool true) ∧ Below w.heap.size w w' := by
  obtain ⟨i0, hi, hz0, hz1, hz2⟩ := info_parts info_valS
  have HAl := Lib.hid (fun W => alive15 W)
  have HB0 : Hid (Below w.heap.size w (w.alloc (.cells (m.cs t) 25))) := (Below.refl _ w).alloc (Nat.le_refl _) _
  have HX0 : Hid (TBox (w.alloc (.cells (m.cs t) 25)) w.heap.size m t) := TBox.new w m t _
  have hs0 : w.heap.size < (w.alloc (.cells (m.cs t) 25)).heap.size := by simp
  have HI := Lib.hid h
  have H1 := Lib.hid h1
  have H2 := Lib.hid h2
  obtain ⟨w0, hw0⟩ : ∃ w0, (w.alloc (.cells (m.cs t) 25)) = w0 := ⟨_, rfl⟩
  rw [hw0] at HB0 HX0 hs0
  have HG := Lib.hid (fun W (hb : Below w.heap.size w W) => great15_any t m W (HI.out.later hb))
  have HG1 := Lib.hid (fun W (hb : Below w.heap.size w W) => (H1.out.later hb).great)
  have HG2 := Lib.hid (fun W (hb : Below w.heap.size w W) => (H2.out.later hb).great)
  have HW0 := Lib.hid hw0
  clear h h1 h2 hw0
  cases hg : greatT t with
  | true =>
    rw [hg] at HG
    clear hg
    go_enter Try.func7, Try.ntmps7
    go_upto_region 1 with (fail)
    rw [HW0.out]
    obtain ⟨x0, x1, x2, x3, x4, x5, x6, x7⟩ := HX0.out
    go_wp2_with fail
    refine (HG.out _ HB0.out).mono ?_
    rintro e w1 ⟨rfl, hb1⟩
    have HB1 := Lib.hid (HB0.out.trans (hb1.mono HB0.out.size))
    have HX1 := Lib.hid (HX0.out.later hs0 hb1)
    have hs1 : w.heap.size < w1.heap.size := Nat.lt_of_lt_of_le hs0 hb1.size
    clear hb1 x0 x1 x2 x3 x4 x5 x6 x7
    go_wp2_with fail
    refine (HAl.out _).mono ?_
    rintro e w9 ⟨rfl, hb9⟩
    have HB9 := Lib.hid (HB1.out.trans (hb9.mono HB1.out.size))
    clear hb9
    go_wp2
    go_ret
    exact ⟨rfl, HB9.out⟩
  | false =>
    rw [hg] at HG
    have hTa := HI.out.at_ hg
    have HTa := Lib.hid hTa
    clear hg hTa
    go_enter Try.func7, Try.ntmps7
    go_upto_region 1 with (fail)
    rw [HW0.out]
    obtain ⟨x0, x1, x2, x3, x4, x5, x6, x7⟩ := HX0.out
    go_wp2_with fail
    refine (HG.out _ HB0.out).mono ?_
    rintro e w1 ⟨rfl, hb1⟩
    have HB1 := Lib.hid (HB0.out.trans (hb1.mono HB0.out.size))
    have HX1 := Lib.hid (HX0.out.later hs0 hb1)
    have hs1 : w.heap.size < w1.heap.size := Nat.lt_of_lt_of_le hs0 hb1.size
    clear hb1 x0 x1 x2 x3 x4 x5 x6 x7
    obtain ⟨x0, x1, x2, x3, x4, x5, x6, x7⟩ := HX1.out
    go_wp2_with fail
    refine (HG1.out _ HB1.out).mono ?_
    rintro e w1x ⟨g, rfl, hg, rfl⟩
    cases g with
    | true =>
      clear hg
      go_wp2_with fail
      refine (HAl.out _).mono ?_
      rintro e w9 ⟨rfl, hb9⟩
      have HB9 := Lib.hid (HB1.out.trans (hb9.mono HB1.out.size))
      clear hb9
      go_wp2
      go_ret
      exact ⟨rfl, HB9.out⟩
    | false =>
      have S1 := hg rfl
      clear hg
      go_wp2_with fail
      refine (HG2.out _ HB1.out).mono ?_
      rintro e w1x ⟨g, rfl, hg, rfl⟩
      cases g with
      | true =>
        clear hg
        go_wp2_with fail
        refine (HAl.out _).mono ?_
        rintro e w9 ⟨rfl, hb9⟩
        have HB9 := Lib.hid (HB1.out.trans (hb9.mono HB1.out.size))
        clear hb9
        go_wp2
        go_ret
        exact ⟨rfl, HB9.out⟩
      | false =>
        have S2 := hg rfl
        clear hg
        have L1 : na ≤ 40 := by have := H1.out.1; have := S1.1; omega
        have L2 : nb ≤ 40 := by have := H2.out.1; have := S2.1; omega
        have HK1 : Hid (KyW w w1 t m la aa na ca lb ab nb cb) := ⟨HX1.out, HTa.out.later HB1.out, (H1.out.at_ L1).later HB1.out, (H2.out.at_ L2).later HB1.out, HB1.out, hs1⟩
        have HCa := Lib.hid (fun W (k : KyW w W t m la aa na ca lb ab nb cb) => sCheck_any t m la aa na ca W k.at_ k.ra)
        have HCb := Lib.hid (fun W (k : KyW w W t m la aa na ca lb ab nb cb) => sCheck_any t m lb ab nb cb W k.at_ k.rb)
        have HNa := H1.out.1
        have HNb := H2.out.1
        have HNA := Lib.hid HNa
        have HNB := Lib.hid HNb
        clear HB0 HX0 HB1 HX1 hs0 hs1 HG HG1 HG2 HW0 S1 S2 HNa HNb HI HTa
        by_cases ra : rowE t la = 0
        · rw [ra] at HCa
          by_cases rb : rowE t lb = 0
          · rw [rb] at HCb
            have hma := keys_math ra
            have hmb := keys_math rb
            have hOk := (rowE_ok ra).1
            have hla := (rowE_ok ra).2.1
            have hlb := (rowE_ok rb).2.1
            have hka : ∀ c ∈ keyL (partsV t la), c < 256 ∨ True := fun _ _ => .inr trivial
            have HKa := Lib.hid (fun W (k : KyW w W t m la aa na ca lb ab nb cb) => sKeyOf_any t m la aa na ca W k.at_ k.ra)
            have HKb := Lib.hid (fun W (k : KyW w W t m la aa na ca lb ab nb cb) => sKeyOf_any t m lb ab nb cb W k.at_ k.rb)
            have HFa := Lib.hid (fun W (k : KyW w W t m la aa na ca lb ab nb cb) => sFrontOf_any t m la aa na ca W k.at_ k.ra)
            rw [hma.1] at HKa
            rw [hmb.1] at HKb
            rw [hma.2.1] at HFa
            have hfa : ∀ x ∈ partsV t la, x.fair := partsV_fair fun x hx => (H1.out.2.2.2.2 x hx).fair
            have hfb : ∀ x ∈ partsV t lb, x.fair := partsV_fair fun x hx => (H2.out.2.2.2.2 x hx).fair
            have HCmp : Hid (∀ x y, x = keyL (partsV t la) → y = keyL (partsV t lb) → (∀ c ∈ x, c < 256) → (∀ c ∈ y, c < 256) → (decide ((strN x).toList < (strN y).toList) = decide (lexO (partsV t la) (partsV t lb) < 0)) ∧ (((strN x).toList == (strN y).toList) = decide (partsV t la = partsV t lb))) := by
              rintro x y rfl rfl hx hy
              have c1 := key_cmp hma.2.2.1 hmb.2.2.1 hfa hfb hx hy
              have c2 := key_eq hma.2.2.1 hmb.2.2.1 hfa hfb
              refine ⟨by rw [Bool.eq_iff_iff, decide_eq_true_iff, decide_eq_true_iff]; exact c1, ?_⟩
              rw [Bool.eq_iff_iff, beq_iff_eq, decide_eq_true_iff, ← c2]
              exact ⟨fun h => (strN_inj hx hy).1 (toList_inj h), fun h => by rw [h]⟩
            have hpl : (keyL (frontV t.key la)).length ≤ (keyL (partsV t la)).length := hma.2.2.2.length_le
            have htk : (keyL (partsV t la)).take (keyL (frontV t.key la)).length = keyL (frontV t.key la) := (List.prefix_iff_eq_take.1 hma.2.2.2).symm
            have HTk := Lib.hid htk
            have HPl := Lib.hid hpl
            have HKs : Hid (∀ k ∈ t.key, 0 ≤ k ∧ k.toNat < la.length ∧ k.toNat < lb.length) := fun k hk => by have := hOk.keys k hk; omega
            have HAp := Lib.hid (fun (ha : t.apart = true) => hOk.apartEdge ha)
            have HLa := Lib.hid hla
            have HLb := Lib.hid hlb
            have HPa : Hid (partsV t la = frontV t.key la ++ (if t.apart then [la.getD t.fr.toNat zeroVl] else [])) := rfl
            have HPb : Hid (partsV t lb = frontV t.key lb ++ (if t.apart then [lb.getD t.fr.toNat zeroVl] else [])) := rfl
            generalize hkx : keyL (partsV t la) = kx at *
            generalize hky : keyL (partsV t lb) = ky at *
            generalize hkf : keyL (frontV t.key la) = kf at *
            have HKx := Lib.hid hkx
            have HKy := Lib.hid hky
            clear hma hmb hOk hla hlb hfa hfb hpl htk hkx hky hkf hka ra rb
            obtain ⟨nx, hnx⟩ : ∃ n, n = kx.length := ⟨_, rfl⟩
            obtain ⟨ny, hny⟩ : ∃ n, n = ky.length := ⟨_, rfl⟩
            obtain ⟨nf, hnf⟩ : ∃ n, n = kf.length := ⟨_, rfl⟩
            have HNx := Lib.hid hnx
            have HNy := Lib.hid hny
            have HNf := Lib.hid hnf
            clear hnx hny hnf
            go_wp2_with fail
            refine (HCa.out _ HK1.out).mono ?_
            rintro e w2 ⟨rfl, hb⟩
            have HK2 := Lib.hid (HK1.out.later hb)
            clear hb HK1
            clear x0 x1 x2 x3 x4 x5 x6 x7
            obtain ⟨x0, x1, x2, x3, x4, x5, x6, x7⟩ := HK2.out.tab
            go_wp2_with fail
            refine (HCb.out _ HK2.out).mono ?_
            rintro e w3 ⟨rfl, hb⟩
            have HK3 := Lib.hid (HK2.out.later hb)
            clear hb HK2
            clear x0 x1 x2 x3 x4 x5 x6 x7
            obtain ⟨x0, x1, x2, x3, x4, x5, x6, x7⟩ := HK3.out.tab
            clear HCa HCb
            go_wp2_with fail
            refine (HKa.out _ HK3.out).mono ?_
            rintro e w4 ⟨a2, c2, rfl, hc2, hB2, hb⟩
            dsimp only at hc2 hB2 ⊢
            rw [← HNx.out] at hc2 ⊢
            have HK4 := Lib.hid (HK3.out.later hb)
            have HB2 := Lib.hid hB2
            clear hb HK3 hB2 HKa
            clear x0 x1 x2 x3 x4 x5 x6 x7
            obtain ⟨x0, x1, x2, x3, x4, x5, x6, x7⟩ := HK4.out.tab
            go_wp2_with fail
            refine (HKb.out _ HK4.out).mono ?_
            rintro e w5 ⟨a3, c3, rfl, hc3, hB3, hb⟩
            dsimp only at hc3 hB3 ⊢
            rw [← HNy.out] at hc3 ⊢
            have HK5 := Lib.hid (HK4.out.later hb)
            have HB2' := Lib.hid ((HB2.out.below hb).mono hb.size)
            have HB3 := Lib.hid hB3
            clear hb HK4 hB3 HKb HB2
            clear x0 x1 x2 x3 x4 x5 x6 x7
            obtain ⟨x0, x1, x2, x3, x4, x5, x6, x7⟩ := HK5.out.tab
            go_wp2_with fail
            refine (HFa.out _ HK5.out).mono ?_
            rintro e w6 ⟨a4, c4, rfl, hc4, hB4, hb⟩
            dsimp only at hc4 hB4 ⊢
            rw [← HNf.out] at hc4 ⊢
            have HK6 := Lib.hid (HK5.out.later hb)
            obtain ⟨a5, hB5, hsl⟩ := ((HB2'.out.below hb).mono hb.size).upTo 32 5 Try.underlying32 Try.sizeOf5 nx c2 nf HNx.out (by have := HPl.out; have := HNx.out; have := HNf.out; omega) hc2
            rw [HNf.out, HTk.out] at hB5
            have HY6 : Hid (KyB w6 kx ky kf a2 a3 a4 a5) := ⟨(HB2'.out.below hb).mono hb.size, (HB3.out.below hb).mono hb.size, hB4, hB5⟩
            have HSl := Lib.hid hsl
            have HB6 : Hid (Below w.heap.size w w6) := HK6.out.bel
            clear hb HK5 hB4 hB5 hsl HB2' HB3 HFa hc2 hc3 hc4 HTk
            clear x0 x1 x2 x3 x4 x5 x6 x7
            have s1 : ∀ W, Later w6.drew W → (convert 32 9 (.slice a5 nf c2)).run Try.prog W = .ok (.string (strN kf)) W := fun W hW => ((HY6.out.later (Later.undrew hW)).k5).str nf c2 HNf.out
            have s2 : ∀ W, Later w6.drew W → (convert 32 9 (.slice a4 nf c4)).run Try.prog W = .ok (.string (strN kf)) W := fun W hW => ((HY6.out.later (Later.undrew hW)).k4).str nf c4 HNf.out
            have s3 := HSl.out
            have q1 : decide (nx < nf) = false := by have := HPl.out; have := HNx.out; have := HNf.out; simp; omega
            have q2 : ((strN kf).toList != (strN kf).toList) = false := by simp
            go_wp2_with fail
            refine wp_region_ord [(0, true), (1, true), (2, true), (3, true), (4, true), (5, true), (6, true), (7, true), (8, true), (9, true), (10, true), (11, true), (12, true), (13, true), (14, true), (15, true), (16, true), (17, true), (18, true), (19, true), (20, true), (21, true), (22, true), (23, true), (24, true), (25, true), (26, true)] (by kernel_rfl) (by kernel_rfl) (by kernel_rfl) (by kernel_rfl) ?_
            repeat (first | (refine wpO_F (v := ?_) rfl (by rfl) (fun w' hL => ?_) ?_; rotate_left; (solve | (go_simp; with_reducible rfl) | go_simp); try simp only [Act.put, List.setIfInBounds_toArray, List.set_cons_zero, List.set_cons_succ]) | (refine wpO_G rfl (by rfl) ?_; try simp only [Act.put, List.setIfInBounds_toArray, List.set_cons_zero, List.set_cons_succ]))
            refine wpO_nil ?_
            clear s1 s2 s3 q1 q2
            have HK7 : Hid (KyW w w6.drew t m la aa na ca lb ab nb cb) := HK6.out.later (Below.refl _ _).drew
            have HY7 : Hid (KyB w6.drew kx ky kf a2 a3 a4 a5) := HY6.out.later (Below.refl _ _).drew
            clear HK6 HY6
            generalize w6.drew = w7 at *
            obtain ⟨x0, x1, x2, x3, x4, x5, x6, x7⟩ := HK7.out.tab
            have HKey := Lib.hid HK7.out.at_.karr
            have hkl := HK7.out.at_.hk
            have HFk : Hid (t.key.length ≤ 1000000) := HK7.out.at_.fair.kl
            obtain ⟨mca, mcl, mcc, mka, mkl, mkc⟩ := m
            dsimp only at x0 x1 x2 x3 x4 x5 x6 x7 hkl HKey
            subst hkl
            have HK8 := HK7
            go_wp2_with fail
            go_loopw [13, 14, 15] (fun vx0 vy0 i wr => ∃ (k : Nat) (vx vy : Value), k ≤ t.key.length ∧ i = .int .i64 k ∧ vx = vx0 ∧ vy = vy0 ∧ Hid (Two w7.heap.size 52 wr vx vy (frontV (t.key.take k) la) (frontV (t.key.take k) lb)) ∧ Hid (Below w7.heap.size w7 wr)) (fun _ _ i _ => t.key.length - (intOf i).toNat)
            case atStart => exact ⟨0, _, _, by omega, rfl, rfl, rfl, Two.nil _ _ _, Lib.hid (Below.refl _ _)⟩
            case round =>
              obtain ⟨k, vx, vy, hk, rfl, rfl, rfl, HTw, HBw⟩ := hrel
              clear x0 x1 x2 x3 x4 x5 x6 x7
              obtain ⟨x0, x1, x2, x3, x4, x5, x6, x7⟩ := (HK7.out.later HBw.out).tab
              dsimp only at x0 x1 x2 x3 x4 x5 x6 x7
              by_cases hlt : k < t.key.length
              · obtain ⟨kb, ko, rfl, hkN, k0⟩ := intAt HKey.out hlt
                have hks := HKs.out _ (List.getElem_mem hlt)
                have HSa := Lib.hid (frontV_snoc t.key la k hlt)
                have HSb := Lib.hid (frontV_snoc t.key lb k hlt)
                have hxl : (frontV (t.key.take k) la).length < 1000000000000 := by have := HFk.out; unfold frontV; rw [List.length_map, List.length_take]; omega
                have hyl : (frontV (t.key.take k) lb).length < 1000000000000 := by have := HFk.out; unfold frontV; rw [List.length_map, List.length_take]; omega
                have HLx := Lib.hid hxl
                have HLy := Lib.hid hyl
                obtain ⟨x, hx⟩ : ∃ x, x = t.key[k] := ⟨_, rfl⟩
                rw [← hx] at k0 hks HSa HSb
                clear hx hxl hyl
                obtain ⟨j, rfl⟩ : ∃ j : Nat, x = j := ⟨x.toNat, by omega⟩
                rw [Int.toNat_natCast] at hks HSa HSb
                have hja : j < na := by have := HNA.out; omega
                have hjb : j < nb := by have := HNB.out; omega
                obtain ⟨ba, oa, rfl, haN, p0, p1, p2⟩ := HK7.out.ra.vs.at_ hks.2.1
                obtain ⟨bb, ob, rfl, hbN, r0, r1, r2⟩ := HK7.out.rb.vs.at_ hks.2.2
                have ga : la.getD j zeroVl = la[j]'hks.2.1 := by simp [List.getD_eq_getElem?_getD, List.getElem?_eq_getElem hks.2.1]
                have gb : lb.getD j zeroVl = lb[j]'hks.2.2 := by simp [List.getD_eq_getElem?_getD, List.getElem?_eq_getElem hks.2.2]
                rw [ga] at HSa
                rw [gb] at HSb
                obtain ⟨ya, hya⟩ : ∃ y, y = la[j]'hks.2.1 := ⟨_, rfl⟩
                obtain ⟨yb, hyb⟩ : ∃ y, y = lb[j]'hks.2.2 := ⟨_, rfl⟩
                rw [← hya] at p0 p1 p2 HSa
                rw [← hyb] at r0 r1 r2 HSb
                clear ga gb hya hyb hks
                generalize frontV (t.key.take k) la = lx at *
                generalize frontV (t.key.take k) lb = ly at *
                have HF : Hid (∀ W, Chg (both vx vy) wr.drew W → Below w7.heap.size w7 W) := fun W hW => HBw.out.trans ((Chg.undrew hW).below HBw.out.size HTw.out.far)
                have f0 : ∀ W, Chg (both vx vy) wr.drew W → W.cell? ⟨w.heap.size, 2, none⟩ = some (.slice (some ⟨kb, ko, none⟩) t.key.length mkc) := fun W hW => ((HF.out W hW).cell (p := ⟨w.heap.size, 2, none⟩) HK7.out.lt).trans HK7.out.tab.c2
                have f1 : ∀ W, Chg (both vx vy) wr.drew W → W.cell? ⟨kb, ko + k, none⟩ = some (.int .i64 (j : Int)) := fun W hW => ((HF.out W hW).cell (p := ⟨kb, ko + k, none⟩) hkN).trans k0
                have g0 : ∀ W, Chg (both vx vy) wr.drew W → W.cell? ⟨ba, oa + j * 3, none⟩ = some (.int .u8 (ya.k : Int)) := fun W hW => ((HF.out W hW).cell (p := ⟨ba, oa + j * 3, none⟩) haN).trans p0
                have g1 : ∀ W, Chg (both vx vy) wr.drew W → W.cell? ⟨ba, oa + j * 3 + 1, none⟩ = some (.int .i64 ya.n) := fun W hW => ((HF.out W hW).cell (p := ⟨ba, oa + j * 3 + 1, none⟩) haN).trans p1
                have g2 : ∀ W, Chg (both vx vy) wr.drew W → W.cell? ⟨ba, oa + j * 3 + 2, none⟩ = some (.string ya.s) := fun W hW => ((HF.out W hW).cell (p := ⟨ba, oa + j * 3 + 2, none⟩) haN).trans p2
                have h0 : ∀ W, Chg (both vx vy) wr.drew W → W.cell? ⟨bb, ob + j * 3, none⟩ = some (.int .u8 (yb.k : Int)) := fun W hW => ((HF.out W hW).cell (p := ⟨bb, ob + j * 3, none⟩) hbN).trans r0
                have h1 : ∀ W, Chg (both vx vy) wr.drew W → W.cell? ⟨bb, ob + j * 3 + 1, none⟩ = some (.int .i64 yb.n) := fun W hW => ((HF.out W hW).cell (p := ⟨bb, ob + j * 3 + 1, none⟩) hbN).trans r1
                have h2 : ∀ W, Chg (both vx vy) wr.drew W → W.cell? ⟨bb, ob + j * 3 + 2, none⟩ = some (.string yb.s) := fun W hW => ((HF.out W hW).cell (p := ⟨bb, ob + j * 3 + 2, none⟩) hbN).trans r2
                clear k0 p0 p1 p2 r0 r1 r2 hkN haN hbN
                have HNE := Lib.hid HTw.out.ne
                have HNE' := Lib.hid HTw.out.ne'
                go_wp2_with fail
                clear x0 x1 x2 x3 x4 x5 x6 x7
                refine wp_region_par (both vx vy) [.f 0, .f 1, .f 2, .f 3, .f 4, .f 5, .f 6, .f 7, .f 8, .f 11, .f 12, .f 13, .f 14, .f 15, .f 16, .f 17, .f 18, .f 19, .p [[9, 10], [20]], .c 21, .f 22, .f 23] (by kernel_rfl) (by kernel_rfl) (by kernel_rfl) (by kernel_rfl) ?_
                repeat (first | (refine wpP_F (v := ?_) rfl (by rfl) (fun w' hL => ?_) ?_; rotate_left; (solve | (go_simp; with_reducible rfl) | go_simp); try simp only [Act.put, List.setIfInBounds_toArray, List.set_cons_zero, List.set_cons_succ]) | (refine wpP_G rfl (by rfl) ?_; try simp only [Act.put, List.setIfInBounds_toArray, List.set_cons_zero, List.set_cons_succ]) | (refine wpP_skip (Chg.refl _) rfl (by rfl) ?_; try simp only [Act.put, List.setIfInBounds_toArray, List.set_cons_zero, List.set_cons_succ]))
                clear f0 f1 g0 g1 g2 h0 h1 h2
                refine wpP_two ⟨Chg [], Chg vx.ownBlock.toList⟩ ⟨Chg vx.ownBlock.toList, Chg []⟩ (fun l W => ∃ v1 v2, l = [(some 100, v1), (some 101, v2)] ∧ OwnV W w7.heap.size 52 v2 (lx ++ [ya]) ∧ ∀ g, v2.ownBlock = some g → g ∉ vy.ownBlock.toList) (fun l W => ∃ b, l = [(some 111, .slice (some ⟨b, 0, none⟩) 1 1)] ∧ CellV W b 0 yb ∧ OwnV W w7.heap.size 52 vy ly) ?_ ?_ ?_ ?_ ?_ ?_
                · exact ⟨Chg.refl _, fun _ _ _ => Chg.trans, fun _ _ h => h.sub (fun k hk => List.mem_append_left _ hk)⟩
                · exact ⟨Chg.refl _, fun _ _ _ => Chg.trans, fun _ _ h => h.sub (by simp)⟩
                · exact ⟨fun _ _ h => h, fun _ _ h => h⟩
                · refine rob_C rfl (by rfl) ?_
                  intro z1 hL1 K HK
                  simp only [puts, List.nil_append, List.cons_append, List.foldl_cons, List.foldl_nil, Act.put, List.setIfInBounds_toArray, List.set_cons_zero, List.set_cons_succ]
                  have hO1 : OwnV z1 w7.heap.size 52 vx lx := OwnV.chg (w := wr) HTw.out.ox (Chg.undrew hL1) (by simp)
                  have hsz1 : wr.heap.size ≤ z1.heap.size := hL1.size
                  have HO1 := Lib.hid hO1
                  have HCn := Lib.hid (CellV.new z1 ya 52)
                  clear hO1 hL1
                  go_simp
                  refine HK.out (.slice (some ⟨z1.heap.size, 0, none⟩) 1 1) _ _ (by simp only [puts, List.nil_append, List.cons_append, List.foldl_cons, List.foldl_nil, Act.put, List.setIfInBounds_toArray, List.set_cons_zero, List.set_cons_succ]) ((Chg.refl _ _).alloc _) ?_
                  clear HK
                  refine rob_C rfl (by rfl) ?_
                  intro z2 hL2 K HK
                  simp only [puts, List.nil_append, List.cons_append, List.foldl_cons, List.foldl_nil, Act.put, List.setIfInBounds_toArray, List.set_cons_zero, List.set_cons_succ]
                  have hsz2 : z1.heap.size + 1 ≤ z2.heap.size := by have := hL2.size; simpa using this
                  refine wp_appV2 (.tmp 91) (.tmp 100) 42 rfl w7.heap.size 52 i0 _ 32 Try.underlying42 hi hz0 rfl hz1 hz2 (by omega) vx lx z2 (OwnV.chg (OwnV.below HO1.out (Nat.le_refl _) ((Below.refl _ _).alloc (Nat.le_refl _) _)) hL2 (by simp)) rfl z1.heap.size ya (HCn.out.chg hL2 (by simp) (by simp)) rfl HLx.out (by have := HBw.out.size; omega) ?_
                  intro v2 z3 hO3 hC3 hw3
                  refine HK.out v2 _ _ (by (simp only [puts, List.nil_append, List.cons_append, List.foldl_cons, List.foldl_nil, Act.put, List.setIfInBounds_toArray, List.set_cons_zero, List.set_cons_succ]) <;> rfl) hC3 ?_
                  refine rob_nil ?_
                  intro z4 hL4
                  refine ⟨_, v2, rfl, OwnV.chg hO3 hL4 (by simp), fun g hg hm => ?_⟩
                  rcases hw3 g hg with h3 | h3
                  · rw [Option.mem_toList] at h3
                    exact HNE.out g h3 hm
                  · rw [Option.mem_toList] at hm
                    have := own_lt HTw.out.oy hm
                    omega
                · refine rob_C rfl (by rfl) ?_
                  intro z1 hL1 K HK
                  simp only [puts, List.nil_append, List.cons_append, List.foldl_cons, List.foldl_nil, Act.put, List.setIfInBounds_toArray, List.set_cons_zero, List.set_cons_succ]
                  have hO1 : OwnV z1 w7.heap.size 52 vy ly := OwnV.chg (w := wr) HTw.out.oy (Chg.undrew hL1) HNE'.out
                  have hsz1 : wr.heap.size ≤ z1.heap.size := hL1.size
                  have HO1 := Lib.hid hO1
                  have HCn := Lib.hid (CellV.new z1 yb 52)
                  clear hO1 hL1
                  go_simp
                  refine HK.out (.slice (some ⟨z1.heap.size, 0, none⟩) 1 1) _ _ (by simp only [puts, List.nil_append, List.cons_append, List.foldl_cons, List.foldl_nil, Act.put, List.setIfInBounds_toArray, List.set_cons_zero, List.set_cons_succ]) ((Chg.refl _ _).alloc _) ?_
                  refine rob_nil ?_
                  intro z4 hL4
                  refine ⟨z1.heap.size, rfl, HCn.out.chg hL4 (by simp) (fun hm => ?_), OwnV.chg (OwnV.below HO1.out (Nat.le_refl _) ((Below.refl _ _).alloc (Nat.le_refl _) _)) hL4 HNE'.out⟩
                  rw [Option.mem_toList] at hm
                  have := own_lt HTw.out.ox hm
                  omega
                rintro l1 l2 z5 hL5 ⟨v1, vx', rfl, hOx, hne⟩ ⟨b, rfl, hcb, hOy⟩
                simp only [puts, List.nil_append, List.cons_append, List.foldl_cons, List.foldl_nil, Act.put, List.setIfInBounds_toArray, List.set_cons_zero, List.set_cons_succ]
                have HL5 := Lib.hid hL5
                have HOx := Lib.hid hOx
                have HNe := Lib.hid hne
                clear hL5 hOx hne
                refine wpP_C rfl (by rfl) ?_
                refine wp_appV2 (.tmp 102) (.tmp 111) 42 rfl w7.heap.size 52 i0 _ 32 Try.underlying42 hi hz0 rfl hz1 hz2 (by omega) vy ly z5 hOy rfl b yb hcb rfl HLy.out (Nat.le_trans HBw.out.size HL5.out.size) ?_
                intro vy' z6 hO6 hC6 hw6
                refine ⟨hC6.sub (fun k hk => List.mem_append_right _ hk), ?_⟩
                have HT6 : Hid (Two w7.heap.size 52 z6 vx' vy' (lx ++ [ya]) (ly ++ [yb])) := ⟨OwnV.chg HOx.out hC6 HNe.out, hO6, fun g hg hm => by
                  rw [Option.mem_toList] at hm
                  rcases hw6 g hm with h6 | h6
                  · exact HNe.out g hg h6
                  · have := own_lt HOx.out hg; omega⟩
                have HB6x : Hid (Below w7.heap.size w7 z6) := HF.out _ (HL5.out.trans (hC6.sub (fun k hk => List.mem_append_right _ hk)))
                clear hO6 hC6 hw6 hOy hcb HL5 HOx HNe HF HNE HNE'
                try simp only [puts, List.nil_append, List.cons_append, List.foldl_cons, List.foldl_nil, Act.put, List.setIfInBounds_toArray, List.set_cons_zero, List.set_cons_succ]
                repeat (first | (refine wpP_F (v := ?_) rfl (by rfl) (fun w' hL => ?_) ?_; rotate_left; (solve | (go_simp; with_reducible rfl) | go_simp); try simp only [Act.put, List.setIfInBounds_toArray, List.set_cons_zero, List.set_cons_succ]) | (refine wpP_G rfl (by rfl) ?_; try simp only [Act.put, List.setIfInBounds_toArray, List.set_cons_zero, List.set_cons_succ]) | (refine wpP_skip (Chg.refl _) rfl (by rfl) ?_; try simp only [Act.put, List.setIfInBounds_toArray, List.set_cons_zero, List.set_cons_succ]))
                refine wpP_nil ?_
                rw [← HSa.out, ← HSb.out] at HT6
                clear HTw HBw HLx HLy HSa HSb
                have hkm := HFk.out
                go_wp2
                go_roundw
                case rel => exact ⟨k + 1, vx', vy', by omega, by go_num, rfl, rfl, HT6, HB6x⟩
                case measure => simp [intOf]; omega
              · have hke : k = t.key.length := by omega
                subst hke
                rw [List.take_length] at HTw
                have hxl : (frontV t.key la).length < 1000000000000 := by have := HFk.out; unfold frontV; rw [List.length_map]; omega
                have hyl : (frontV t.key lb).length < 1000000000000 := by have := HFk.out; unfold frontV; rw [List.length_map]; omega
                have HLx := Lib.hid hxl
                have HLy := Lib.hid hyl
                have HSm := Lib.hid (fun (lx ly : List Vl) a n c a' n' c' W (h1 : Vs W.heap.size W a lx) (e1 : n = lx.length) (h2 : Vs W.heap.size W a' ly) (e2 : n' = ly.length) (l1 : n ≤ 1000000000001) (l2 : n' ≤ 1000000000001) => Same_any lx ly a n c a' n' c' W h1 e1 h2 e2 (by omega) (by omega))
                have HOr := Lib.hid (fun (lx ly : List Vl) a n c a' n' c' W (h1 : Vs W.heap.size W a lx) (e1 : n = lx.length) (h2 : Vs W.heap.size W a' ly) (e2 : n' = ly.length) (l1 : n ≤ 1000000000001) (l2 : n' ≤ 1000000000001) => ROrder_any lx ly a n c a' n' c' W h1 e1 h2 e2 (by omega) (by omega))
                clear hxl hyl
                by_cases hap : t.apart = true
                · have APQ : ∀ (z1 z2 : List Vl), (if t.apart then z1 else z2) = z1 := fun _ _ => if_pos hap
                  rw [hap] at x6
                  obtain ⟨j, hfj, hjl⟩ := HAp.out hap
                  rw [hfj] at x4
                  have hjla : j < la.length := by have := HLa.out; omega
                  have hjlb : j < lb.length := by have := HLb.out; omega
                  have hja : j < na := by have := HNA.out; omega
                  have hjb : j < nb := by have := HNB.out; omega
                  obtain ⟨ba, oa, rfl, haN, p0, p1, p2⟩ := HK7.out.ra.vs.at_ hjla
                  obtain ⟨bb, ob, rfl, hbN, r0, r1, r2⟩ := HK7.out.rb.vs.at_ hjlb
                  have ga : la.getD j zeroVl = la[j] := by simp [List.getD_eq_getElem?_getD, List.getElem?_eq_getElem hjla]
                  have gb : lb.getD j zeroVl = lb[j] := by simp [List.getD_eq_getElem?_getD, List.getElem?_eq_getElem hjlb]
                  rw [hfj, Int.toNat_natCast, ga] at HPa
                  rw [hfj, Int.toNat_natCast, gb] at HPb
                  obtain ⟨ya, hya⟩ : ∃ y, y = la[j] := ⟨_, rfl⟩
                  obtain ⟨yb, hyb⟩ : ∃ y, y = lb[j] := ⟨_, rfl⟩
                  rw [← hya] at p0 p1 p2 HPa
                  rw [← hyb] at r0 r1 r2 HPb
                  clear ga gb hya hyb hjla hjlb hjl hap
                  generalize frontV t.key la = lx at *
                  generalize frontV t.key lb = ly at *
                  have HFJ := Lib.hid hfj
                  clear hfj
                  have HF : Hid (∀ W, Chg (both vx vy) wr.drew W → Below w7.heap.size w7 W) := fun W hW => HBw.out.trans ((Chg.undrew hW).below HBw.out.size HTw.out.far)
                  have f0 : ∀ W, Chg (both vx vy) wr.drew W → W.cell? ⟨w.heap.size, 4, none⟩ = some (.int .i64 (j : Int)) := fun W hW => ((HF.out W hW).cell (p := ⟨w.heap.size, 4, none⟩) HK7.out.lt).trans (HK7.out.tab.c4.trans (by rw [HFJ.out]))
                  have g0 : ∀ W, Chg (both vx vy) wr.drew W → W.cell? ⟨ba, oa + j * 3, none⟩ = some (.int .u8 (ya.k : Int)) := fun W hW => ((HF.out W hW).cell (p := ⟨ba, oa + j * 3, none⟩) haN).trans p0
                  have g1 : ∀ W, Chg (both vx vy) wr.drew W → W.cell? ⟨ba, oa + j * 3 + 1, none⟩ = some (.int .i64 ya.n) := fun W hW => ((HF.out W hW).cell (p := ⟨ba, oa + j * 3 + 1, none⟩) haN).trans p1
                  have g2 : ∀ W, Chg (both vx vy) wr.drew W → W.cell? ⟨ba, oa + j * 3 + 2, none⟩ = some (.string ya.s) := fun W hW => ((HF.out W hW).cell (p := ⟨ba, oa + j * 3 + 2, none⟩) haN).trans p2
                  have h0 : ∀ W, Chg (both vx vy) wr.drew W → W.cell? ⟨bb, ob + j * 3, none⟩ = some (.int .u8 (yb.k : Int)) := fun W hW => ((HF.out W hW).cell (p := ⟨bb, ob + j * 3, none⟩) hbN).trans r0
                  have h1 : ∀ W, Chg (both vx vy) wr.drew W → W.cell? ⟨bb, ob + j * 3 + 1, none⟩ = some (.int .i64 yb.n) := fun W hW => ((HF.out W hW).cell (p := ⟨bb, ob + j * 3 + 1, none⟩) hbN).trans r1
                  have h2 : ∀ W, Chg (both vx vy) wr.drew W → W.cell? ⟨bb, ob + j * 3 + 2, none⟩ = some (.string yb.s) := fun W hW => ((HF.out W hW).cell (p := ⟨bb, ob + j * 3 + 2, none⟩) hbN).trans r2
                  clear p0 p1 p2 r0 r1 r2 haN hbN
                  have HNE := Lib.hid HTw.out.ne
                  have HNE' := Lib.hid HTw.out.ne'
                  go_wp2_with fail
                  clear x0 x1 x2 x3 x4 x5 x6 x7
                  refine wp_region_par (both vx vy) [.f 0, .f 1, .f 2, .f 3, .f 4, .f 5, .f 8, .f 9, .f 10, .f 11, .f 12, .f 13, .p [[6, 7], [14]], .c 15, .f 16, .f 17] (by kernel_rfl) (by kernel_rfl) (by kernel_rfl) (by kernel_rfl) ?_
                  repeat (first | (refine wpP_F (v := ?_) rfl (by rfl) (fun w' hL => ?_) ?_; rotate_left; (solve | (go_simp; with_reducible rfl) | go_simp); try simp only [Act.put, List.setIfInBounds_toArray, List.set_cons_zero, List.set_cons_succ]) | (refine wpP_G rfl (by rfl) ?_; try simp only [Act.put, List.setIfInBounds_toArray, List.set_cons_zero, List.set_cons_succ]) | (refine wpP_skip (Chg.refl _) rfl (by rfl) ?_; try simp only [Act.put, List.setIfInBounds_toArray, List.set_cons_zero, List.set_cons_succ]))
                  clear f0 g0 g1 g2 h0 h1 h2
                  refine wpP_two ⟨Chg [], Chg vx.ownBlock.toList⟩ ⟨Chg vx.ownBlock.toList, Chg []⟩ (fun l W => ∃ v1 v2, l = [(some 121, v1), (some 122, v2)] ∧ OwnV W w7.heap.size 52 v2 (lx ++ [ya]) ∧ ∀ g, v2.ownBlock = some g → g ∉ vy.ownBlock.toList) (fun l W => ∃ b, l = [(some 129, .slice (some ⟨b, 0, none⟩) 1 1)] ∧ CellV W b 0 yb ∧ OwnV W w7.heap.size 52 vy ly) ?_ ?_ ?_ ?_ ?_ ?_
                  · exact ⟨Chg.refl _, fun _ _ _ => Chg.trans, fun _ _ h => h.sub (fun k hk => List.mem_append_left _ hk)⟩
                  · exact ⟨Chg.refl _, fun _ _ _ => Chg.trans, fun _ _ h => h.sub (by simp)⟩
                  · exact ⟨fun _ _ h => h, fun _ _ h => h⟩
                  · refine rob_C rfl (by rfl) ?_
                    intro z1 hL1 K HK
                    simp only [puts, List.nil_append, List.cons_append, List.foldl_cons, List.foldl_nil, Act.put, List.setIfInBounds_toArray, List.set_cons_zero, List.set_cons_succ]
                    have hO1 : OwnV z1 w7.heap.size 52 vx lx := OwnV.chg (w := wr) HTw.out.ox (Chg.undrew hL1) (by simp)
                    have hsz1 : wr.heap.size ≤ z1.heap.size := hL1.size
                    have HO1 := Lib.hid hO1
                    have HCn := Lib.hid (CellV.new z1 ya 52)
                    clear hO1 hL1
                    go_simp
                    refine HK.out (.slice (some ⟨z1.heap.size, 0, none⟩) 1 1) _ _ (by simp only [puts, List.nil_append, List.cons_append, List.foldl_cons, List.foldl_nil, Act.put, List.setIfInBounds_toArray, List.set_cons_zero, List.set_cons_succ]) ((Chg.refl _ _).alloc _) ?_
                    clear HK
                    refine rob_C rfl (by rfl) ?_
                    intro z2 hL2 K HK
                    simp only [puts, List.nil_append, List.cons_append, List.foldl_cons, List.foldl_nil, Act.put, List.setIfInBounds_toArray, List.set_cons_zero, List.set_cons_succ]
                    have hsz2 : z1.heap.size + 1 ≤ z2.heap.size := by have := hL2.size; simpa using this
                    refine wp_appV2 (.tmp 115) (.tmp 121) 42 rfl w7.heap.size 52 i0 _ 32 Try.underlying42 hi hz0 rfl hz1 hz2 (by omega) vx lx z2 (OwnV.chg (OwnV.below HO1.out (Nat.le_refl _) ((Below.refl _ _).alloc (Nat.le_refl _) _)) hL2 (by simp)) rfl z1.heap.size ya (HCn.out.chg hL2 (by simp) (by simp)) rfl HLx.out (by have := HBw.out.size; omega) ?_
                    intro v2 z3 hO3 hC3 hw3
                    refine HK.out v2 _ _ (by (simp only [puts, List.nil_append, List.cons_append, List.foldl_cons, List.foldl_nil, Act.put, List.setIfInBounds_toArray, List.set_cons_zero, List.set_cons_succ]) <;> rfl) hC3 ?_
                    refine rob_nil ?_
                    intro z4 hL4
                    refine ⟨_, v2, rfl, OwnV.chg hO3 hL4 (by simp), fun g hg hm => ?_⟩
                    rcases hw3 g hg with h3 | h3
                    · rw [Option.mem_toList] at h3
                      exact HNE.out g h3 hm
                    · rw [Option.mem_toList] at hm
                      have := own_lt HTw.out.oy hm
                      omega
                  · refine rob_C rfl (by rfl) ?_
                    intro z1 hL1 K HK
                    simp only [puts, List.nil_append, List.cons_append, List.foldl_cons, List.foldl_nil, Act.put, List.setIfInBounds_toArray, List.set_cons_zero, List.set_cons_succ]
                    have hO1 : OwnV z1 w7.heap.size 52 vy ly := OwnV.chg (w := wr) HTw.out.oy (Chg.undrew hL1) HNE'.out
                    have hsz1 : wr.heap.size ≤ z1.heap.size := hL1.size
                    have HO1 := Lib.hid hO1
                    have HCn := Lib.hid (CellV.new z1 yb 52)
                    clear hO1 hL1
                    go_simp
                    refine HK.out (.slice (some ⟨z1.heap.size, 0, none⟩) 1 1) _ _ (by simp only [puts, List.nil_append, List.cons_append, List.foldl_cons, List.foldl_nil, Act.put, List.setIfInBounds_toArray, List.set_cons_zero, List.set_cons_succ]) ((Chg.refl _ _).alloc _) ?_
                    refine rob_nil ?_
                    intro z4 hL4
                    refine ⟨z1.heap.size, rfl, HCn.out.chg hL4 (by simp) (fun hm => ?_), OwnV.chg (OwnV.below HO1.out (Nat.le_refl _) ((Below.refl _ _).alloc (Nat.le_refl _) _)) hL4 HNE'.out⟩
                    rw [Option.mem_toList] at hm
                    have := own_lt HTw.out.ox hm
                    omega
                  rintro l1 l2 z5 hL5 ⟨v1, vx', rfl, hOx, hne⟩ ⟨b, rfl, hcb, hOy⟩
                  simp only [puts, List.nil_append, List.cons_append, List.foldl_cons, List.foldl_nil, Act.put, List.setIfInBounds_toArray, List.set_cons_zero, List.set_cons_succ]
                  have HL5 := Lib.hid hL5
                  have HOx := Lib.hid hOx
                  have HNe := Lib.hid hne
                  clear hL5 hOx hne
                  refine wpP_C rfl (by rfl) ?_
                  refine wp_appV2 (.tmp 123) (.tmp 129) 42 rfl w7.heap.size 52 i0 _ 32 Try.underlying42 hi hz0 rfl hz1 hz2 (by omega) vy ly z5 hOy rfl b yb hcb rfl HLy.out (Nat.le_trans HBw.out.size HL5.out.size) ?_
                  intro vy' z6 hO6 hC6 hw6
                  refine ⟨hC6.sub (fun k hk => List.mem_append_right _ hk), ?_⟩
                  have HT6 : Hid (Two w7.heap.size 52 z6 vx' vy' (lx ++ [ya]) (ly ++ [yb])) := ⟨OwnV.chg HOx.out hC6 HNe.out, hO6, fun g hg hm => by
                    rw [Option.mem_toList] at hm
                    rcases hw6 g hm with h6 | h6
                    · exact HNe.out g hg h6
                    · have := own_lt HOx.out hg; omega⟩
                  have HB6x : Hid (Below w7.heap.size w7 z6) := HF.out _ (HL5.out.trans (hC6.sub (fun k hk => List.mem_append_right _ hk)))
                  clear hO6 hC6 hw6 hOy hcb HL5 HOx HNe HF HNE HNE'
                  try simp only [puts, List.nil_append, List.cons_append, List.foldl_cons, List.foldl_nil, Act.put, List.setIfInBounds_toArray, List.set_cons_zero, List.set_cons_succ]
                  repeat (first | (refine wpP_F (v := ?_) rfl (by rfl) (fun w' hL => ?_) ?_; rotate_left; (solve | (go_simp; with_reducible rfl) | go_simp); try simp only [Act.put, List.setIfInBounds_toArray, List.set_cons_zero, List.set_cons_succ]) | (refine wpP_G rfl (by rfl) ?_; try simp only [Act.put, List.setIfInBounds_toArray, List.set_cons_zero, List.set_cons_succ]) | (refine wpP_skip (Chg.refl _) rfl (by rfl) ?_; try simp only [Act.put, List.setIfInBounds_toArray, List.set_cons_zero, List.set_cons_succ]))
                  refine wpP_nil ?_
                  clear HTw HBw
                  have hLx : (lx ++ [ya]).length ≤ 1000000000001 := by have := HLx.out; (try simp only [List.length_append, List.length_singleton]); omega
                  have hLy : (ly ++ [yb]).length ≤ 1000000000001 := by have := HLy.out; (try simp only [List.length_append, List.length_singleton]); omega
                  obtain ⟨ax, cx, hvx, -, hVx⟩ := HT6.out.ox.slice
                  obtain ⟨ay, cy, hvy, -, hVy⟩ := HT6.out.oy.slice
                  have HVx := Lib.hid hVx
                  have HVy := Lib.hid hVy
                  have HLX := Lib.hid hLx
                  have HLY := Lib.hid hLy
                  have HYw := Lib.hid (HY7.out.later HB6x.out)
                  have HBe : Hid (Below w.heap.size w z6) := HK7.out.bel.trans (HB6x.out.mono HK7.out.bel.size)
                  have hcmp := HCmp.out kx ky rfl rfl HY7.out.k2.1 HY7.out.k3.1
                  rw [HPa.out, HPb.out] at hcmp
                  simp only [APQ] at hcmp
                  have Q1 := Lib.hid hcmp.1
                  have Q2 := Lib.hid hcmp.2
                  obtain ⟨px, hpx⟩ : ∃ x, x = (lx ++ [ya]) := ⟨_, rfl⟩
                  obtain ⟨py, hpy⟩ : ∃ x, x = (ly ++ [yb]) := ⟨_, rfl⟩
                  obtain ⟨kx1, hkx1⟩ : ∃ n, n = (lx ++ [ya]).length := ⟨_, rfl⟩
                  obtain ⟨ky1, hky1⟩ : ∃ n, n = (ly ++ [yb]).length := ⟨_, rfl⟩
                  rw [← hkx1] at hvx HLX
                  rw [← hky1] at hvy HLY
                  rw [← hpx] at HVx Q1 Q2 hkx1
                  rw [← hpy] at HVy Q1 Q2 hky1
                  have HKX := Lib.hid hkx1
                  have HKY := Lib.hid hky1
                  clear hcmp hVx hVy hLx hLy hkx1 hky1 hpx hpy HT6 HB6x HPa HPb HCmp HKey HK7 HY7 HLx HLy HLa HLb HKs HAp HFk HKx HKy
                  subst hvx hvy
                  go_wp2_with fail
                  refine wp_region_ord [(0, false), (1, true), (2, true), (3, true), (4, true), (5, true), (6, true), (7, true), (8, true), (9, false), (10, true), (11, true), (12, true), (13, true), (14, true), (15, true), (16, true), (17, true), (18, true), (19, true), (20, false), (21, true), (22, true), (23, true), (24, true)] (by kernel_rfl) (by kernel_rfl) (by kernel_rfl) (by kernel_rfl) ?_
                  refine wpO_C rfl (by rfl) ?_
                  go_simp
                  refine (HAl.out _).mono ?_
                  rintro e u1 ⟨rfl, hb⟩
                  refine ⟨hb, ?_⟩
                  try simp only [Act.put, List.setIfInBounds_toArray, List.set_cons_zero, List.set_cons_succ]
                  have HYu := Lib.hid (HYw.out.later (Later.undrew hb))
                  have HVx1 := Lib.hid ((HVx.out.below (Later.undrew hb)).mono (Below.size (Later.undrew hb)))
                  have HVy1 := Lib.hid ((HVy.out.below (Later.undrew hb)).mono (Below.size (Later.undrew hb)))
                  have HBu := Lib.hid (HBe.out.trans ((Below.mono (Later.undrew hb) HBe.out.size)))
                  clear HYw HVx HVy HBe hb
                  have s1 : ∀ W, Later u1 W → (convert 32 9 (.slice a2 nx c2)).run Try.prog W = .ok (.string (strN kx)) W := fun W hW => ((HYu.out.later hW).k2).str nx c2 HNx.out
                  have s2 : ∀ W, Later u1 W → (convert 32 9 (.slice a3 ny c3)).run Try.prog W = .ok (.string (strN ky)) W := fun W hW => ((HYu.out.later hW).k3).str ny c3 HNy.out
                  repeat (first | (refine wpO_F (v := ?_) rfl (by rfl) (fun w' hL => ?_) ?_; rotate_left; (solve | (go_simp; with_reducible rfl) | go_simp); try simp only [Act.put, List.setIfInBounds_toArray, List.set_cons_zero, List.set_cons_succ]) | (refine wpO_G rfl (by rfl) ?_; try simp only [Act.put, List.setIfInBounds_toArray, List.set_cons_zero, List.set_cons_succ]))
                  clear s1 s2
                  refine wpO_C rfl (by rfl) ?_
                  go_simp
                  refine (HSm.out px py ax kx1 cx ay ky1 cy _ HVx1.out HKX.out HVy1.out HKY.out HLX.out HLY.out).mono ?_
                  rintro e u2 ⟨rfl, hb⟩
                  refine ⟨hb, ?_⟩
                  try simp only [Act.put, List.setIfInBounds_toArray, List.set_cons_zero, List.set_cons_succ]
                  have HYv := Lib.hid (HYu.out.later hb)
                  have HVx2 := Lib.hid ((HVx1.out.below hb).mono hb.size)
                  have HVy2 := Lib.hid ((HVy1.out.below hb).mono hb.size)
                  have HBv := Lib.hid (HBu.out.trans (Below.mono hb HBu.out.size))
                  clear HYu HVx1 HVy1 HBu hb
                  have s1 : ∀ W, Later u2 W → (convert 32 9 (.slice a2 nx c2)).run Try.prog W = .ok (.string (strN kx)) W := fun W hW => ((HYv.out.later hW).k2).str nx c2 HNx.out
                  have s2 : ∀ W, Later u2 W → (convert 32 9 (.slice a3 ny c3)).run Try.prog W = .ok (.string (strN ky)) W := fun W hW => ((HYv.out.later hW).k3).str ny c3 HNy.out
                  have e1 : (((strN kx).toList == (strN ky).toList) == decide (px = py)) = true := by rw [Q2.out]; simp
                  repeat (first | (refine wpO_F (v := ?_) rfl (by rfl) (fun w' hL => ?_) ?_; rotate_left; (solve | (go_simp; with_reducible rfl) | go_simp); try simp only [Act.put, List.setIfInBounds_toArray, List.set_cons_zero, List.set_cons_succ]) | (refine wpO_G rfl (by rfl) ?_; try simp only [Act.put, List.setIfInBounds_toArray, List.set_cons_zero, List.set_cons_succ]))
                  clear s1 s2
                  refine wpO_C rfl (by rfl) ?_
                  go_simp
                  refine (HOr.out px py ax kx1 cx ay ky1 cy _ HVx2.out HKX.out HVy2.out HKY.out HLX.out HLY.out).mono ?_
                  rintro e u3 ⟨rfl, hb⟩
                  refine ⟨hb, ?_⟩
                  try simp only [Act.put, List.setIfInBounds_toArray, List.set_cons_zero, List.set_cons_succ]
                  have HBx := Lib.hid (HBv.out.trans (Below.mono hb HBv.out.size))
                  have qq : Op.bytesLess (strN kx).toList (strN ky).toList = decide (lexO px py < 0) := by rw [bytesLess_eq]; exact Q1.out
                  clear HYv HVx2 HVy2 HBv hb
                  repeat (first | (refine wpO_F (v := ?_) rfl (by rfl) (fun w' hL => ?_) ?_; rotate_left; (solve | (go_simp; with_reducible rfl) | go_simp); try simp only [Act.put, List.setIfInBounds_toArray, List.set_cons_zero, List.set_cons_succ]) | (refine wpO_G rfl (by rfl) ?_; try simp only [Act.put, List.setIfInBounds_toArray, List.set_cons_zero, List.set_cons_succ]))
                  refine wpO_nil ?_
                  go_wp2
                  go_ret
                  exact ⟨by first | rfl | simp, HBx.out⟩
                · have hap2 : t.apart = false := by simpa using hap
                  rw [hap2] at x6
                  have APQ : ∀ (z1 z2 : List Vl), (if t.apart then z1 else z2) = z2 := fun _ _ => if_neg hap
                  rw [APQ, List.append_nil] at HPa HPb
                  clear hap hap2
                  generalize frontV t.key la = lx at *
                  generalize frontV t.key lb = ly at *
                  have hLx : (lx).length ≤ 1000000000001 := by have := HLx.out; (try simp only [List.length_append, List.length_singleton]); omega
                  have hLy : (ly).length ≤ 1000000000001 := by have := HLy.out; (try simp only [List.length_append, List.length_singleton]); omega
                  obtain ⟨ax, cx, hvx, -, hVx⟩ := HTw.out.ox.slice
                  obtain ⟨ay, cy, hvy, -, hVy⟩ := HTw.out.oy.slice
                  have HVx := Lib.hid hVx
                  have HVy := Lib.hid hVy
                  have HLX := Lib.hid hLx
                  have HLY := Lib.hid hLy
                  have HYw := Lib.hid (HY7.out.later HBw.out)
                  have HBe : Hid (Below w.heap.size w wr) := HK7.out.bel.trans (HBw.out.mono HK7.out.bel.size)
                  have hcmp := HCmp.out kx ky rfl rfl HY7.out.k2.1 HY7.out.k3.1
                  rw [HPa.out, HPb.out] at hcmp

                  have Q1 := Lib.hid hcmp.1
                  have Q2 := Lib.hid hcmp.2
                  obtain ⟨px, hpx⟩ : ∃ x, x = (lx) := ⟨_, rfl⟩
                  obtain ⟨py, hpy⟩ : ∃ x, x = (ly) := ⟨_, rfl⟩
                  obtain ⟨kx1, hkx1⟩ : ∃ n, n = (lx).length := ⟨_, rfl⟩
                  obtain ⟨ky1, hky1⟩ : ∃ n, n = (ly).length := ⟨_, rfl⟩
                  rw [← hkx1] at hvx HLX
                  rw [← hky1] at hvy HLY
                  rw [← hpx] at HVx Q1 Q2 hkx1
                  rw [← hpy] at HVy Q1 Q2 hky1
                  have HKX := Lib.hid hkx1
                  have HKY := Lib.hid hky1
                  clear hcmp hVx hVy hLx hLy hkx1 hky1 hpx hpy HTw HBw HPa HPb HCmp HKey HK7 HY7 HLx HLy HLa HLb HKs HAp HFk HKx HKy
                  subst hvx hvy
                  go_wp2_with fail
                  refine wp_region_ord [(0, false), (1, true), (2, true), (3, true), (4, true), (5, true), (6, true), (7, true), (8, true), (9, false), (10, true), (11, true), (12, true), (13, true), (14, true), (15, true), (16, true), (17, true), (18, true), (19, true), (20, false), (21, true), (22, true), (23, true), (24, true)] (by kernel_rfl) (by kernel_rfl) (by kernel_rfl) (by kernel_rfl) ?_
                  refine wpO_C rfl (by rfl) ?_
                  go_simp
                  refine (HAl.out _).mono ?_
                  rintro e u1 ⟨rfl, hb⟩
                  refine ⟨hb, ?_⟩
                  try simp only [Act.put, List.setIfInBounds_toArray, List.set_cons_zero, List.set_cons_succ]
                  have HYu := Lib.hid (HYw.out.later (Later.undrew hb))
                  have HVx1 := Lib.hid ((HVx.out.below (Later.undrew hb)).mono (Below.size (Later.undrew hb)))
                  have HVy1 := Lib.hid ((HVy.out.below (Later.undrew hb)).mono (Below.size (Later.undrew hb)))
                  have HBu := Lib.hid (HBe.out.trans ((Below.mono (Later.undrew hb) HBe.out.size)))
                  clear HYw HVx HVy HBe hb
                  have s1 : ∀ W, Later u1 W → (convert 32 9 (.slice a2 nx c2)).run Try.prog W = .ok (.string (strN kx)) W := fun W hW => ((HYu.out.later hW).k2).str nx c2 HNx.out
                  have s2 : ∀ W, Later u1 W → (convert 32 9 (.slice a3 ny c3)).run Try.prog W = .ok (.string (strN ky)) W := fun W hW => ((HYu.out.later hW).k3).str ny c3 HNy.out
                  repeat (first | (refine wpO_F (v := ?_) rfl (by rfl) (fun w' hL => ?_) ?_; rotate_left; (solve | (go_simp; with_reducible rfl) | go_simp); try simp only [Act.put, List.setIfInBounds_toArray, List.set_cons_zero, List.set_cons_succ]) | (refine wpO_G rfl (by rfl) ?_; try simp only [Act.put, List.setIfInBounds_toArray, List.set_cons_zero, List.set_cons_succ]))
                  clear s1 s2
                  refine wpO_C rfl (by rfl) ?_
                  go_simp
                  refine (HSm.out px py ax kx1 cx ay ky1 cy _ HVx1.out HKX.out HVy1.out HKY.out HLX.out HLY.out).mono ?_
                  rintro e u2 ⟨rfl, hb⟩
                  refine ⟨hb, ?_⟩
                  try simp only [Act.put, List.setIfInBounds_toArray, List.set_cons_zero, List.set_cons_succ]
                  have HYv := Lib.hid (HYu.out.later hb)
                  have HVx2 := Lib.hid ((HVx1.out.below hb).mono hb.size)
                  have HVy2 := Lib.hid ((HVy1.out.below hb).mono hb.size)
                  have HBv := Lib.hid (HBu.out.trans (Below.mono hb HBu.out.size))
                  clear HYu HVx1 HVy1 HBu hb
                  have s1 : ∀ W, Later u2 W → (convert 32 9 (.slice a2 nx c2)).run Try.prog W = .ok (.string (strN kx)) W := fun W hW => ((HYv.out.later hW).k2).str nx c2 HNx.out
                  have s2 : ∀ W, Later u2 W → (convert 32 9 (.slice a3 ny c3)).run Try.prog W = .ok (.string (strN ky)) W := fun W hW => ((HYv.out.later hW).k3).str ny c3 HNy.out
                  have e1 : (((strN kx).toList == (strN ky).toList) == decide (px = py)) = true := by rw [Q2.out]; simp
                  repeat (first | (refine wpO_F (v := ?_) rfl (by rfl) (fun w' hL => ?_) ?_; rotate_left; (solve | (go_simp; with_reducible rfl) | go_simp); try simp only [Act.put, List.setIfInBounds_toArray, List.set_cons_zero, List.set_cons_succ]) | (refine wpO_G rfl (by rfl) ?_; try simp only [Act.put, List.setIfInBounds_toArray, List.set_cons_zero, List.set_cons_succ]))
                  clear s1 s2
                  refine wpO_C rfl (by rfl) ?_
                  go_simp
                  refine (HOr.out px py ax kx1 cx ay ky1 cy _ HVx2.out HKX.out HVy2.out HKY.out HLX.out HLY.out).mono ?_
                  rintro e u3 ⟨rfl, hb⟩
                  refine ⟨hb, ?_⟩
                  try simp only [Act.put, List.setIfInBounds_toArray, List.set_cons_zero, List.set_cons_succ]
                  have HBx := Lib.hid (HBv.out.trans (Below.mono hb HBv.out.size))
                  have qq : Op.bytesLess (strN kx).toList (strN ky).toList = decide (lexO px py < 0) := by rw [bytesLess_eq]; exact Q1.out
                  clear HYv HVx2 HVy2 HBv hb
                  repeat (first | (refine wpO_F (v := ?_) rfl (by rfl) (fun w' hL => ?_) ?_; rotate_left; (solve | (go_simp; with_reducible rfl) | go_simp); try simp only [Act.put, List.setIfInBounds_toArray, List.set_cons_zero, List.set_cons_succ]) | (refine wpO_G rfl (by rfl) ?_; try simp only [Act.put, List.setIfInBounds_toArray, List.set_cons_zero, List.set_cons_succ]))
                  refine wpO_nil ?_
                  go_wp2
                  go_ret
                  exact ⟨by first | rfl | simp, HBx.out⟩
          · have q1 : (rowE t lb != 0) = true := by simpa using rb
            generalize rowE t lb = qb at *
            obtain ⟨x0, x1, x2, x3, x4, x5, x6, x7⟩ := HK1.out.tab
            go_wp2_with fail
            refine (HCa.out _ HK1.out).mono ?_
            rintro e w2 ⟨rfl, hb⟩
            have HK2 := Lib.hid (HK1.out.later hb)
            clear hb HK1
            clear x0 x1 x2 x3 x4 x5 x6 x7
            obtain ⟨x0, x1, x2, x3, x4, x5, x6, x7⟩ := HK2.out.tab
            go_wp2_with fail
            refine (HCb.out _ HK2.out).mono ?_
            rintro e w3 ⟨rfl, hb⟩
            have HK3 := Lib.hid (HK2.out.later hb)
            clear hb HK2
            clear x0 x1 x2 x3 x4 x5 x6 x7 HCa HCb
            go_wp2_with fail
            refine (HAl.out _).mono ?_
            rintro e w9 ⟨rfl, hb9⟩
            have HB9 := Lib.hid (HK3.out.bel.trans (hb9.mono HK3.out.bel.size))
            clear hb9
            go_wp2
            go_ret
            exact ⟨rfl, HB9.out⟩
        · have q1 : (rowE t la != 0) = true := by simpa using ra
          generalize rowE t la = qa at *
          obtain ⟨x0, x1, x2, x3, x4, x5, x6, x7⟩ := HK1.out.tab
          go_wp2_with fail
          refine (HCa.out _ HK1.out).mono ?_
          rintro e w2 ⟨rfl, hb⟩
          have HK2 := Lib.hid (HK1.out.later hb)
          clear hb HK1
          clear x0 x1 x2 x3 x4 x5 x6 x7 HCa HCb
          go_wp2_with fail
          refine (HAl.out _).mono ?_
          rintro e w9 ⟨rfl, hb9⟩
          have HB9 := Lib.hid (HK2.out.bel.trans (hb9.mono HK2.out.bel.size))
          clear hb9
          go_wp2
          go_ret
          exact ⟨rfl, HB9.out⟩
end Go.Proofs.Ytialpfdhdcjpaaa

/- The walk of the reference's value (layer 15). -/
set_option linter.unusedSimpArgs false
set_option linter.unusedVariables false
set_option maxRecDepth 100000
namespace Go.Proofs.Ytialpfdhdcjpaaa
open Go.RowKit

set_option maxHeartbeats 2000000 in
theorem rValue_any (c : Col) (x : Vl) (w : World) :
    Calls Try.prog 51 #[.agg #[.string c.nm, .int .u8 (c.kd : Int), .bool c.nn], .agg #[.int .u8 (x.k : Int), .int .i64 x.n, .string x.s]] w fun e w' => e = .returned (.int .i64 (chkV c x)) ∧ Below w.heap.size w w' := by
  obtain ⟨nm, kd, nn⟩ := c
  obtain ⟨k, n, s⟩ := x
  have HR := Lib.hid (fun W => rright_any k n s W)
  have HB0 : Hid (Below w.heap.size w ((w.alloc (.cells #[.string nm, .int .u8 (kd : Int), .bool nn] 69)).alloc (.cells #[.int .u8 (k : Int), .int .i64 n, .string s] 52))) := ((Below.refl _ w).alloc (Nat.le_refl _) _).alloc (by simp) _
  have HF : Hid (∀ W, Below (w.heap.size + 2) ((w.alloc (.cells #[.string nm, .int .u8 (kd : Int), .bool nn] 69)).alloc (.cells #[.int .u8 (k : Int), .int .i64 n, .string s] 52)) W → W.cell? ⟨w.heap.size, 1, none⟩ = some (.int .u8 (kd : Int)) ∧ W.cell? ⟨w.heap.size, 2, none⟩ = some (.bool nn) ∧ W.cell? ⟨w.heap.size + 1, 0, none⟩ = some (.int .u8 (k : Int))) := by
    intro W hb
    exact ⟨(hb.cell (p := ⟨w.heap.size, 1, none⟩) (by show w.heap.size < _; omega)).trans (by simp), (hb.cell (p := ⟨w.heap.size, 2, none⟩) (by show w.heap.size < _; omega)).trans (by simp), (hb.cell (p := ⟨w.heap.size + 1, 0, none⟩) (by show w.heap.size + 1 < _; omega)).trans (by simp)⟩
  unfold chkV
  dsimp only
  generalize Vl.right ⟨k, n, s⟩ = b at *
  obtain ⟨E, hE⟩ : ∃ E : Int, (if b = false then 3 else if k = 0 then (if nn then 23 else 0) else if k = kd then 0 else 20) = E := ⟨_, rfl⟩
  rw [hE]
  have HE := Lib.hid hE
  clear hE
  cases b with
  | false =>
    go_enter Try.func51, Try.ntmps51
    go_wp2_with fail
    refine (HR.out _).mono ?_
    rintro e w1 ⟨rfl, hb1⟩
    have HB1 := Lib.hid (HB0.out.trans (hb1.mono (by simp; omega)))
    clear hb1
    go_wp2
    go_ret
    exact ⟨by rw [← HE.out]; rfl, HB1.out⟩
  | true =>
    by_cases h0 : k = 0
    · subst h0
      cases nn with
      | true =>
        go_enter Try.func51, Try.ntmps51
        go_wp2_with fail
        refine (HR.out _).mono ?_
        rintro e w1 ⟨rfl, hb1⟩
        have HB1 := Lib.hid (HB0.out.trans (hb1.mono (by simp; omega)))
        obtain ⟨c1, c2, c3⟩ := HF.out w1 (hb1.mono (by simp))
        clear hb1
        go_wp2
        go_ret
        exact ⟨by rw [← HE.out]; rfl, HB1.out⟩
      | false =>
        go_enter Try.func51, Try.ntmps51
        go_wp2_with fail
        refine (HR.out _).mono ?_
        rintro e w1 ⟨rfl, hb1⟩
        have HB1 := Lib.hid (HB0.out.trans (hb1.mono (by simp; omega)))
        obtain ⟨c1, c2, c3⟩ := HF.out w1 (hb1.mono (by simp))
        clear hb1
        go_wp2
        go_ret
        exact ⟨by rw [← HE.out]; rfl, HB1.out⟩
    · have q0 : ((k : Int) == 0) = false := by simp; omega
      have q0n : ((k : Int) != 0) = true := by simp; omega
      by_cases h1 : k = kd
      · have HE2 : Hid (E = 0) := by rw [Hid, ← HE.out, if_neg (by simp), if_neg h0, if_pos h1]
        subst h1
        clear h0
        go_enter Try.func51, Try.ntmps51
        go_wp2_with fail
        refine (HR.out _).mono ?_
        rintro e w1 ⟨rfl, hb1⟩
        have HB1 := Lib.hid (HB0.out.trans (hb1.mono (by simp; omega)))
        obtain ⟨c1, c2, c3⟩ := HF.out w1 (hb1.mono (by simp))
        clear hb1
        go_wp2
        go_ret
        exact ⟨by rw [HE2.out]; rfl, HB1.out⟩
      · have HE2 : Hid (E = 20) := by rw [Hid, ← HE.out, if_neg (by simp), if_neg h0, if_neg h1]
        have q1 : ((k : Int) != (kd : Int)) = true := by simp; omega
        clear h0 h1
        go_enter Try.func51, Try.ntmps51
        go_wp2_with fail
        refine (HR.out _).mono ?_
        rintro e w1 ⟨rfl, hb1⟩
        have HB1 := Lib.hid (HB0.out.trans (hb1.mono (by simp; omega)))
        obtain ⟨c1, c2, c3⟩ := HF.out w1 (hb1.mono (by simp))
        clear hb1
        go_wp2
        go_ret
        exact ⟨by rw [HE2.out]; rfl, HB1.out⟩
end Go.Proofs.Ytialpfdhdcjpaaa

/- The bytes of nodes. -/
set_option linter.unusedSimpArgs false
set_option linter.unusedVariables false
set_option maxRecDepth 100000
namespace Go.Proofs.Ytialpfdhdcjpaaa
open Go.RowKit

/-- n in s bytes, the highest first. -/
def beL : Nat → Nat → List Nat
  | 0, _ => []
  | s + 1, n => beL s (n / 256) ++ [n % 256]
/-- The number that bytes make. -/
def valL (l : List Nat) : Nat := l.foldl (fun v c => 256 * v + c) 0

theorem beL_len : ∀ s n, (beL s n).length = s
  | 0, _ => rfl
  | s + 1, n => by simp [beL, beL_len s]
theorem beL_lt : ∀ s n, ∀ c ∈ beL s n, c < 256
  | 0, _, c, h => by simp [beL] at h
  | s + 1, n, c, h => by
    simp [beL] at h
    rcases h with h | h
    · exact beL_lt s _ c h
    · omega
theorem beL_cons : ∀ s n, beL (s + 1) n = (n / 256 ^ s % 256) :: beL s n
  | 0, n => by simp [beL]
  | s + 1, n => by
    rw [beL, beL_cons s (n / 256), beL, List.cons_append, Nat.div_div_eq_div_mul, Nat.pow_succ, Nat.mul_comm 256]
theorem valL_snoc (l : List Nat) (c : Nat) : valL (l ++ [c]) = 256 * valL l + c := by simp [valL]
theorem valL_beL : ∀ s n, valL (beL s n) = n % 256 ^ s
  | 0, n => by simp [beL, valL]; omega
  | s + 1, n => by
    rw [beL, valL_snoc, valL_beL s, Nat.pow_succ, Nat.mul_comm (256 ^ s) 256, Nat.mod_mul]
    omega
theorem rev_ind {P : List Nat → Prop} (h0 : P []) (h1 : ∀ l c, P l → P (l ++ [c])) (l : List Nat) : P l := by
  have : ∀ r : List Nat, P r.reverse := by
    intro r
    induction r with
    | nil => exact h0
    | cons c r ih => rw [List.reverse_cons]; exact h1 _ _ ih
  have h := this l.reverse
  rwa [List.reverse_reverse] at h
theorem beL_valL (l : List Nat) : (∀ c ∈ l, c < 256) → beL l.length (valL l) = l := by
  refine rev_ind (P := fun l => (∀ c ∈ l, c < 256) → beL l.length (valL l) = l) (fun _ => rfl) (fun l c ih h => ?_) l
  have hc := h c (by simp)
  have := ih (fun d hd => h d (by simp [hd]))
  rw [List.length_append, valL_snoc]
  show beL (l.length + 1) _ = _
  rw [beL, show (256 * valL l + c) / 256 = valL l by omega, show (256 * valL l + c) % 256 = c by omega, this]
theorem valL_lt (l : List Nat) : (∀ c ∈ l, c < 256) → valL l < 256 ^ l.length := by
  refine rev_ind (P := fun l => (∀ c ∈ l, c < 256) → valL l < 256 ^ l.length) (fun _ => by simp [valL]) (fun l c ih h => ?_) l
  have hc := h c (by simp)
  have := ih (fun d hd => h d (by simp [hd]))
  rw [List.length_append, valL_snoc]
  show _ < 256 ^ (l.length + 1)
  rw [Nat.pow_succ]; omega

/-- A part's bytes. -/
def encPt (leaf : Bool) (x : Pt) : List Nat :=
  x.key.size :: ((if leaf then beL 2 x.len.toNat else []) ++ (bytesOf x.key ++ (if leaf && decide (x.len ≤ 120) then bytesOf x.data else beL 4 x.page.toNat)))
def headN (n : Rn) : List Nat := (if n.leaf then 1 else 2) :: (beL 2 n.l.length ++ (if n.leaf then [] else beL 4 n.kid.toNat))
def encPs (leaf : Bool) (l : List Pt) : List Nat := l.flatMap (encPt leaf)
/-- A node's bytes. -/
def encN (n : Rn) : List Nat := headN n ++ encPs n.leaf n.l
/-- .. and its page. -/
def pageN (n : Rn) : List Nat := encN n ++ List.replicate (512 - (encN n).length) 0

theorem encPs_snoc (leaf : Bool) (l : List Pt) (x : Pt) : encPs leaf (l ++ [x]) = encPs leaf l ++ encPt leaf x := by simp [encPs]
theorem encPs_take (leaf : Bool) (l : List Pt) (i : Nat) (x : Pt) (h : l[i]? = some x) : encPs leaf (l.take (i + 1)) = encPs leaf (l.take i) ++ encPt leaf x := by
  rw [List.take_add_one, h]; simp [encPs]

/-- The length of a part's bytes. -/
def lenPt (leaf : Bool) (x : Pt) : Nat := 1 + x.key.size + (if leaf then 2 + (if x.len ≤ 120 then x.data.size else 4) else 4)
theorem encPt_len (leaf : Bool) (x : Pt) : (encPt leaf x).length = lenPt leaf x := by
  unfold encPt lenPt
  cases leaf with
  | true =>
    by_cases h : x.len ≤ 120 <;> simp [h, beL_len, bytesOf_len] <;> omega
  | false => simp [beL_len, bytesOf_len]; omega
theorem encPt_pos (leaf : Bool) (x : Pt) : 0 < (encPt leaf x).length := by simp [encPt]
theorem headN_len (n : Rn) : (headN n).length = if n.leaf then 3 else 7 := by
  unfold headN
  cases n.leaf <;> simp [beL_len]

/-- The node's bytes up to some part. -/
theorem encN_len_take (n : Rn) (i : Nat) (x : Pt) (h : n.l[i]? = some x) : (encPs n.leaf (n.l.take (i + 1))).length = (encPs n.leaf (n.l.take i)).length + lenPt n.leaf x := by
  rw [encPs_take _ _ _ _ h, List.length_append, encPt_len]
theorem encPs_le (leaf : Bool) (l : List Pt) (i : Nat) : (encPs leaf (l.take i)).length ≤ (encPs leaf l).length := by
  conv => rhs; rw [← List.take_append_drop i l]
  unfold encPs
  rw [List.flatMap_append, List.length_append]; omega

/-- What is known of a node's parts and what the program has of them. -/
theorem part_leaf {n : Nd} (h : n.shaped = true) (hl : n.leaf = true) : n.asR.leaf = true ∧ n.asR.l.length = n.keys.length ∧ ∀ (i : Nat) x, n.asR.l[i]? = some x → n.keys[i]? = some x.key ∧ n.cells[i]? = some ⟨x.len, x.data, x.page⟩ := by
  have h1 := (asN_asR h).1
  obtain ⟨leaf, ks, cs, ps⟩ := n
  simp only at hl; subst hl
  have hz := zipL_key ks cs (by simp only [Nd.shaped, if_true, decide_eq_true_eq] at h; exact h.1)
  simp only [Nd.asR, if_true]
  refine ⟨trivial, by conv => rhs; rw [← hz.1, List.length_map], fun i x hx => ⟨?_, ?_⟩⟩
  · conv => lhs; rw [← hz.1, List.getElem?_map, hx]
    rfl
  · conv => lhs; rw [← hz.2, List.getElem?_map, hx]
    rfl
theorem part_inner {n : Nd} (h : n.shaped = true) (hl : n.leaf = false) : n.asR.leaf = false ∧ n.asR.l.length = n.keys.length ∧ n.kids[0]? = some n.asR.kid ∧ ∀ (i : Nat) x, n.asR.l[i]? = some x → n.keys[i]? = some x.key ∧ n.kids[i + 1]? = some x.page ∧ x.len = 0 ∧ x.data = ⟨#[]⟩ := by
  obtain ⟨leaf, ks, cs, ps⟩ := n
  simp only at hl; subst hl
  simp only [Nd.shaped, Bool.false_eq_true, if_false, decide_eq_true_eq] at h
  match ps, h with
  | p :: ps, h =>
    have hz := zipI_key ks ps (by simpa using h.1)
    simp only [Nd.asR, Bool.false_eq_true, if_false, List.headD_cons, List.tail_cons]
    refine ⟨trivial, by conv => rhs; rw [← hz.1, List.length_map], by simp, fun i x hx => ⟨?_, ?_, zipI_plain ks ps x (List.mem_of_getElem? hx)⟩⟩
    · conv => lhs; rw [← hz.1, List.getElem?_map, hx]
      rfl
    · rw [List.getElem?_cons_succ]
      conv => lhs; rw [← hz.2, List.getElem?_map, hx]
      rfl

/-- What may be: its bounds. -/
theorem okL_bd {x : Pt} (h : x.okL = true) : 0 ≤ x.len ∧ x.len ≤ 8192 ∧ (x.len ≤ 120 → (x.data.size : Int) = x.len ∧ x.page = 0) ∧ (¬ x.len ≤ 120 → x.data.size = 0 ∧ 1 ≤ x.page ∧ x.page ≤ 4095) := of_decide_eq_true h
theorem okI_bd {x : Pt} (h : x.okI = true) : x.len = 0 ∧ x.data.size = 0 ∧ 1 ≤ x.page ∧ x.page ≤ 4095 := of_decide_eq_true h
theorem Rn.Ok.key {n : Rn} (h : n.Ok) {i : Nat} {x : Pt} (hx : n.l[i]? = some x) : x.key.size ≤ 100 :=
  (h.1 i x.key (by rw [List.getElem?_map, hx]; rfl)).1
theorem Rn.Ok.okL {n : Rn} (h : n.Ok) (hl : n.leaf = true) {x : Pt} (hx : x ∈ n.l) : x.okL = true := by
  have := h.2; rw [hl] at this; exact this.2 x hx
theorem Rn.Ok.okI {n : Rn} (h : n.Ok) (hl : n.leaf = false) {x : Pt} (hx : x ∈ n.l) : x.okI = true := by
  have := h.2; rw [hl] at this; exact this.2.2 x hx
theorem Rn.Ok.lenPt {n : Rn} (h : n.Ok) {i : Nat} {x : Pt} (hx : n.l[i]? = some x) : lenPt n.leaf x ≤ 223 := by
  have hk := h.key hx
  unfold Go.Proofs.Ytialpfdhdcjpaaa.lenPt
  cases hl : n.leaf with
  | true =>
    have := okL_bd (h.okL hl (List.mem_of_getElem? hx))
    by_cases h1 : x.len ≤ 120
    · have := (this.2.2.1 h1).1
      simp [h1]; omega
    · simp [h1]; omega
  | false => simp; omega
theorem Rn.Ok.plain {n : Rn} (h : n.Ok) : n.plain := by
  unfold Rn.plain
  have h2 := h.2
  cases hl : n.leaf with
  | true => rw [hl] at h2; exact h2.1
  | false =>
    rw [hl] at h2
    intro p hp
    have := okI_bd (h2.2.2 p hp)
    exact ⟨this.1, ByteArray.ext (Array.size_eq_zero_iff.1 this.2.1)⟩
end Go.Proofs.Ytialpfdhdcjpaaa

/- The walk of the reference's number and value. -/
set_option linter.unusedSimpArgs false
set_option linter.unusedVariables false
set_option maxRecDepth 100000
namespace Go.Proofs.Ytialpfdhdcjpaaa
open Go.RowKit

/-- A call hands back bytes in a row of its own. -/
def RetOwn (w : World) (l : List Nat) (e : Ending) (w' : World) : Prop := ∃ v, e = .returned v ∧ (∀ c ∈ l, c < 256) ∧ w'.ownsRow w.heap.size 5 1 v l.length (cellsU l) ∧ Below w.heap.size w w'

end Go.Proofs.Ytialpfdhdcjpaaa
