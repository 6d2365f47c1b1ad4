/- Several texts of one proof, one behind the other. -/
import Derived.Test.YtcepbindmdakkaaVPk8
import Derived.Shelf.Lays
import Derived.Shelf.Lays2
import Derived.Test.YtcepbindmdakkaaProg
import Derived.Shelf.Sort.Plain
import Derived.Shelf.Slices.In.SortNone
import Derived.Shelf.Slices.CompactI
import Derived.Sort.OwnSortedInts
import Derived.Sort.Grow
set_option linter.unusedSimpArgs false
set_option linter.unusedVariables false

/- typing.Used: the walks of its closure and of typing.visit at it. -/
set_option linter.unusedSimpArgs false
set_option linter.unusedVariables false
set_option maxRecDepth 100000
namespace Go.Proofs.Ytcepbindmdakkaa
open Go.RowKit

/-- The slots of the columns of a node, as visit meets them. -/
def useL (x : Nx) : List Int := if x.lab.kd = 2 then [x.lab.sl] else []
def useN : Nx → List Int
  | .mk l args => useL (.mk l args) ++ args.attach.flatMap fun x => useN x.1
termination_by e => SizeOf.sizeOf e
decreasing_by exact Rose.size_arg x.2
theorem useN_eq (x : Nx) : useN x = useL x ++ x.args.flatMap useN := by
  obtain ⟨l, args⟩ := x
  rw [useN, Rose.args]
  congr 1
  rw [List.flatMap_def, List.flatMap_def, List.attach_map_val (f := useN)]
theorem useL_len (x : Nx) : (useL x).length ≤ 1 := by unfold useL; split <;> simp
theorem useN_len (x : Nx) : (useN x).length ≤ x.count := by
  induction x using Rose.ind with
  | h l args ih =>
    rw [useN_eq, Rose.count_eq, List.length_append]
    have h1 := useL_len (Rose.mk l args)
    have h2 : (args.flatMap useN).length ≤ (args.map Rose.count).sum := by
      clear h1
      induction args with
      | nil => simp
      | cons y r ih2 =>
        have := ih y List.mem_cons_self
        have := ih2 (fun z hz => ih z (List.mem_cons_of_mem _ hz))
        simp only [List.flatMap_cons, List.length_append, List.map_cons, List.sum_cons]; omega
    show _ + (args.flatMap useN).length ≤ 1 + (args.map Rose.count).sum
    omega
theorem useT_len (l : List Nx) (k : Nat) : ((l.take k).flatMap useN).length ≤ ((l.take k).map Rose.count).sum := by
  generalize l.take k = q
  induction q with
  | nil => simp
  | cons y r ih =>
    have := useN_len y
    simp only [List.flatMap_cons, List.length_append, List.map_cons, List.sum_cons]; omega

theorem own_blk {w : World} {base : Nat} {e : TypeId} {z n : Nat} {v : Value} {xs : List Value} (h : w.ownsRow base e z v n xs) {g : Nat} (hg : v.ownBlock = some g) : base ≤ g ∧ ∃ cur, Blk w g e cur := by
  rcases h.2 with ⟨rfl, _⟩ | ⟨g', cap, cur, rfl, hb, hh, _⟩
  · simp [Value.ownBlock] at hg
  · have : g' = g := by simpa [Value.ownBlock] using hg
    subst this
    exact ⟨hb, cur, hh⟩

abbrev rowZ (l : List Int) : List Value := l.map fun (c : Int) => Value.int .i64 c
/-- Using is under way: the variable in block G holds the row. -/
structure UseIn (G : Nat) (W : World) (cv : Value) (L : List Int) : Prop where
  var : Blk W G 27 #[cv]
  row : W.ownsRow (G + 1) 3 1 cv L.length (rowZ L)
theorem UseIn.lt {G : Nat} {W : World} {cv : Value} {L : List Int} (h : UseIn G W cv L) : G < W.heap.size := h.var.lt
theorem UseIn.keep {G : Nat} {W W' : World} {cv : Value} {L : List Int} (h : UseIn G W cv L) (hb : Below W.heap.size W W') : UseIn G W' cv L :=
  ⟨(hb.block G h.lt).trans h.var, own_below h.row (Nat.le_refl _) hb⟩
/-- What using comes to. -/
structure UseOut (G : Nat) (W : World) (L p : List Int) (W' : World) (cv' : Value) : Prop where
  inn : UseIn G W' cv' (L ++ p)
  bel : Below G W W'
  keep : ∀ (b : Nat) (T : TypeId) (cs : Array Value), G < b → T ≠ 3 → Blk W b T cs → Blk W' b T cs
def RetUse (G : Nat) (W : World) (L p : List Int) (e : Ending) (W' : World) : Prop := e = .returned (.tuple #[]) ∧ ∃ cv', UseOut G W L p W' cv'
theorem UseOut.none {G : Nat} {W W' : World} {cv : Value} {L : List Int} (h : UseIn G W cv L) (hb : Below W.heap.size W W') : UseOut G W L [] W' cv :=
  ⟨by rw [List.append_nil]; exact h.keep hb, hb.mono (Nat.le_of_lt h.lt), fun b T cs _ _ hB => (hb.block b hB.lt).trans hB⟩
theorem UseOut.trans {G : Nat} {W W1 W2 : World} {cv1 cv2 : Value} {L p q : List Int} (h : UseOut G W L p W1 cv1) (k : UseOut G W1 (L ++ p) q W2 cv2) : UseOut G W L (p ++ q) W2 cv2 :=
  ⟨by rw [← List.append_assoc]; exact k.inn, h.bel.trans k.bel, fun b T cs hb hT hB => k.keep b T cs hb hT (h.keep b T cs hb hT hB)⟩

theorem info_intZ : (Try.prog.info? 3).map (fun i => (i.zero, i.size, i.bytes)) = some (some (.int .i64 0), 1, 8) := by kernel_rfl

/-- The end of the closure: the row has grown and is stored. -/
theorem use_end {G : Nat} {W w0 w5 : World} {cv : Value} {L : List Int} {s : Int} {a5 : Option Addr} {c5 k : Nat} (hP : UseIn G W cv L) (hk : L.length = k) (h0 : Below W.heap.size W w0)
    (hown : w5.ownsRow (G + 1) 3 1 (.slice a5 (k + 1) c5) (k + 1) (rowZ L ++ [.int .i64 s])) (hc : Chg cv.ownBlock.toList w0 w5) :
    UseOut G W L [s] (w5.setCell ⟨G, 0, none⟩ (.slice a5 (k + 1) c5)) (.slice a5 (k + 1) c5) := by
  have hG := hP.lt
  have hs0 := h0.size
  have hnb : ∀ b T cs, T ≠ 3 → Blk W b T cs → b ∉ cv.ownBlock.toList := fun b T cs hT hB hm => by
    rw [Option.mem_toList] at hm
    obtain ⟨_, cur, hcur⟩ := own_blk hP.row hm
    exact hB.ne_ hcur hT rfl
  have hv5 : Blk w5 G 27 #[cv] := (hc.block G (by omega) (hnb G _ _ (by decide) hP.var)).trans ((h0.block G hG).trans hP.var)
  refine ⟨⟨hv5.set_ 0 _, ?_⟩, ?_, fun b T cs hb hT hB => ?_⟩
  · have hl : (L ++ [s]).length = k + 1 := by simp [hk]
    rw [hl]
    have e : rowZ (L ++ [s]) = rowZ L ++ [.int .i64 s] := by simp [rowZ]
    rw [e]
    exact own_keep hown fun g hg => Below.heap_setCell w5 ⟨G, 0, none⟩ _ g (by have := (own_blk hown hg).1; show g ≠ G; omega)
  · have h1 : Below G w0 w5 := hc.below (by omega) (fun g hg => by rw [Option.mem_toList] at hg; have := (own_blk hP.row hg).1; omega)
    exact ((h0.mono (Nat.le_of_lt hG)).trans h1).setCell (p := ⟨G, 0, none⟩) (Nat.le_refl G) _
  · have h5 : Blk w5 b T cs := (hc.block b (by have := hB.lt; omega) (hnb b T cs hT hB)).trans ((h0.block b hB.lt).trans hB)
    exact h5.far (by omega) _

theorem use_pre {G : Nat} {W w0 w5 : World} {cv v5 : Value} {L : List Int} {s : Int} {ac : Option Addr} {cc k : Nat} (hP : UseIn G W cv L) (hk : L.length = k) (h0 : Below W.heap.size W w0) (hcv : cv = .slice ac k cc)
    (hown : w5.ownsRow (G + 1) 3 1 v5 (k + 1) (rowZ L ++ [.int .i64 s])) (hc : Chg (Value.slice ac k cc).ownBlock.toList w0 w5) :
    ∃ a5 c5, v5 = .slice a5 (k + 1) c5 ∧ w5.cell? ⟨G, 0, none⟩ = some (.slice ac k cc) ∧ w5.frozen? ⟨G, 0, none⟩ = false ∧ UseOut G W L [s] (w5.setCell ⟨G, 0, none⟩ (.slice a5 (k + 1) c5)) (.slice a5 (k + 1) c5) := by
  obtain ⟨a5, c5, rfl, -, -, -⟩ := own_slice hown
  subst hcv
  have hG := hP.lt
  have hs0 := h0.size
  have hv5 : Blk w5 G 27 #[.slice ac k cc] := (hc.block G (by omega) (fun hm => by rw [Option.mem_toList] at hm; have := (own_blk hP.row hm).1; omega)).trans ((h0.block G hG).trans hP.var)
  exact ⟨a5, c5, rfl, (hv5.cell 0).trans rfl, hv5.frozen 0, use_end hP hk h0 hown hc⟩

set_option maxHeartbeats 2000000 in
theorem usedDo_any (G : Nat) (x : NM) (W : World) (cv : Value) (L : List Int) (hP : UseIn G W cv L) (hL : L.length ≤ 1000000) :
    Calls Try.prog 26 #[.agg #[.int .i64 x.t.lab.kd, .string x.t.lab.op, .int .u8 x.t.lab.v.k, .int .i64 x.t.lab.v.n, .string x.t.lab.v.s, .int .i64 x.t.lab.sl, .int .u8 (x.t.lab.ty : Int), .slice x.a x.t.args.length x.cap], .pointer (some ⟨G, 0, none⟩)] W (RetUse G W L (useL x.t)) := by
  have HP := Lib.hid hP
  have hG := hP.lt
  have HX := Lib.hid (Slot8.new W 36 (.int .i64 x.t.lab.kd) (.string x.t.lab.op) (.int .u8 x.t.lab.v.k) (.int .i64 x.t.lab.v.n) (.string x.t.lab.v.s) (.int .i64 x.t.lab.sl) (.int .u8 (x.t.lab.ty : Int)) (.slice x.a x.t.args.length x.cap))
  obtain ⟨w0, hw0⟩ : ∃ w0, W.alloc (.cells #[.int .i64 x.t.lab.kd, .string x.t.lab.op, .int .u8 x.t.lab.v.k, .int .i64 x.t.lab.v.n, .string x.t.lab.v.s, .int .i64 x.t.lab.sl, .int .u8 (x.t.lab.ty : Int), .slice x.a x.t.args.length x.cap] 36) = w0 := ⟨_, rfl⟩
  rw [hw0] at HX
  have HB0 : Hid (Below W.heap.size W w0) := by rw [← hw0]; exact (Below.refl _ W).alloc (Nat.le_refl _) _
  have hs0 : w0.heap.size = W.heap.size + 1 := by rw [← hw0]; simp
  have HZ := Lib.hid hs0
  obtain ⟨x0, x1, x2, x3, x4, x5, x6, x7⟩ := HX.out
  by_cases hk : x.t.lab.kd = 2
  · have hu : useL x.t = [x.t.lab.sl] := if_pos hk
    rw [hu]
    have qk : (x.t.lab.kd == 2) = true := by simpa using hk
    obtain ⟨k, hk5⟩ : ∃ k, L.length = k := ⟨_, rfl⟩
    have HK := Lib.hid hk5
    have HRow := Lib.hid hP.row
    rw [hk5] at HRow hL
    obtain ⟨ac, cc, hcv, hcc, hcm, -⟩ := own_slice HRow.out
    have HCv := Lib.hid hcv
    have l0 : w0.cell? ⟨G, 0, none⟩ = some (.slice ac k cc) := by rw [← hcv]; exact ((HP.out.keep HB0.out).var.cell 0).trans rfl
    obtain ⟨iI, hiI, hzI, hsI, hbI⟩ := info_parts info_intZ
    have HR0 : Hid (w0.ownsRow (G + 1) 3 1 (.slice ac k cc) k (rowZ L)) := by rw [← hcv]; exact own_below HRow.out (Nat.le_refl _) HB0.out
    generalize hsl : x.t.lab.sl = sl at *
    clear hP hk hu hk5 hcv hs0 hsl
    go_enter Try.func26, Try.ntmps26
    go_wp2_with (first | (at_builtin; refine wpList_appC rfl _ _ 27 rfl (G + 1) 3 iI (.int .i64 0) 1 8 Try.underlying27 hiI hzI rfl hsI (by omega) hbI (by omega) (.slice ac k cc) k _ [.int .i64 sl] w0 HR0.out rfl _ rfl rfl (by simp [Value.oneCell']) rfl (by omega) (by have := HZ.out; omega) ?_; intro v5 w5 hown5 hc5 hsz5; have hE := use_pre (w0 := w0.alloc (.cells #[.int .i64 sl] 3)) HP.out HK.out (HB0.out.alloc (by have := HZ.out; omega) _) HCv.out hown5 hc5; obtain ⟨a5, c5, hv5, l5, f5, hE⟩ := hE; have HE := Lib.hid hE; clear hE hown5 hc5 hsz5; subst hv5))
    exact bodyPost_ret (v := .tuple #[]) (by simp [results, Try.results26, go_sem]) rfl ⟨rfl, _, HE.out⟩
  · have hu : useL x.t = [] := if_neg hk
    rw [hu]
    have qk : (x.t.lab.kd == 2) = false := by simpa using hk
    clear hP hk hu hs0
    go_enter Try.func26, Try.ntmps26
    go_wp2
    exact bodyPost_ret (v := .tuple #[]) (by simp [results, Try.results26, go_sem]) rfl ⟨rfl, cv, UseOut.none HP.out HB0.out⟩

set_option maxHeartbeats 4000000 in
theorem visitUse_is (G : Nat) : ∀ (n : Nat) (x : NM) (W : World) (cv : Value) (L : List Int), UseIn G W cv L → NdAt G W n x → L.length + x.t.count ≤ 1000000 →
    Calls Try.prog 25 #[x.nv, .func (.func 26) #[] #[.pointer (some ⟨G, 0, none⟩)]] W (RetUse G W L (useN x.t))
  | 0, _, _, _, _, _, h, _ => h.elim
  | n + 1, x, W, cv, L, hP, h, hlen => by
    rw [NM.nv_eq]
    have HA := Lib.hid h
    have hax := h.fair.2.1
    have hcx := h.fair.2.2
    have HPk := Lib.hid (useN_eq x.t)
    have hG := hP.lt
    have HGlt := Lib.hid hG
    have HP := Lib.hid hP
    have HLen := Lib.hid hlen
    have HDo := Lib.hid (fun V cv' L' hP' hL' => usedDo_any G x V cv' L' hP' hL')
    have IH : Hid (∀ (y : NM) (V : World) (cv' : Value) (L' : List Int), UseIn G V cv' L' → NdAt G V n y → L'.length + y.t.count ≤ 1000000 → Calls Try.prog 25 #[.agg #[.int .i64 y.t.lab.kd, .string y.t.lab.op, .int .u8 y.t.lab.v.k, .int .i64 y.t.lab.v.n, .string y.t.lab.v.s, .int .i64 y.t.lab.sl, .int .u8 (y.t.lab.ty : Int), .slice y.a y.t.args.length y.cap], .func (.func 26) #[] #[.pointer (some ⟨G, 0, none⟩)]] V (RetUse G V L' (useN y.t))) := fun y V cv' L' h1 h2 h3 => by
      have := visitUse_is G n y V cv' L' h1 h2 h3
      rw [NM.nv_eq] at this; exact this
    have HX := Lib.hid (Slot8.new W 36 (.int .i64 x.t.lab.kd) (.string x.t.lab.op) (.int .u8 x.t.lab.v.k) (.int .i64 x.t.lab.v.n) (.string x.t.lab.v.s) (.int .i64 x.t.lab.sl) (.int .u8 (x.t.lab.ty : Int)) (.slice x.a x.t.args.length x.cap))
    have HBx := Lib.hid (Blk.new W 36 #[.int .i64 x.t.lab.kd, .string x.t.lab.op, .int .u8 x.t.lab.v.k, .int .i64 x.t.lab.v.n, .string x.t.lab.v.s, .int .i64 x.t.lab.sl, .int .u8 (x.t.lab.ty : Int), .slice x.a x.t.args.length x.cap])
    obtain ⟨w0, hw0⟩ : ∃ w0, W.alloc (.cells #[.int .i64 x.t.lab.kd, .string x.t.lab.op, .int .u8 x.t.lab.v.k, .int .i64 x.t.lab.v.n, .string x.t.lab.v.s, .int .i64 x.t.lab.sl, .int .u8 (x.t.lab.ty : Int), .slice x.a x.t.args.length x.cap] 36) = w0 := ⟨_, rfl⟩
    have HB0 : Hid (Below W.heap.size W w0) := by rw [← hw0]; exact (Below.refl _ W).alloc (Nat.le_refl _) _
    have hs0 : w0.heap.size = W.heap.size + 1 := by rw [← hw0]; simp
    rw [hw0] at HX HBx
    have HZ := Lib.hid hs0
    have hb0 := HB0.out
    have HY := Lib.hid (HDo.out w0 cv L (hP.keep hb0) (by have := x.t.count_pos; omega))
    clear h hP hlen hG hs0 hb0 HDo
    obtain ⟨x0, x1, x2, x3, x4, x5, x6, x7⟩ := HX.out
    go_enter Try.func25, Try.ntmps25
    go_wp2_with fail
    refine HY.out.mono ?_
    rintro e w1 ⟨rfl, cv1, hpk1⟩
    have HPk1 := Lib.hid hpk1
    have z7 : w1.cell? ⟨W.heap.size, 7, none⟩ = some (.slice x.a x.t.args.length x.cap) := ((hpk1.keep W.heap.size _ _ HGlt.out (by decide) HBx.out).cell 7).trans rfl
    clear hpk1 HY x0 x1 x2 x3 x4 x5 x6 x7
    obtain ⟨t, a, cap⟩ := x
    obtain ⟨m, hm⟩ : ∃ m, t.args.length = m := ⟨_, rfl⟩
    have HM := Lib.hid hm
    simp only at hax hcx z7 HA HPk HLen HX HBx HPk1 ⊢
    rw [hm] at hax z7 HX HBx ⊢
    clear hm
    go_wp2
    clear z7
    go_loopw [12] (fun i wr => ∃ (k : Nat) (cv2 : Value), k ≤ m ∧ i = .int .i64 (k : Int) ∧ Hid (UseOut G W L (useL t ++ (t.args.take k).flatMap useN) wr cv2)) (fun i _ => m - (intOf i).toNat)
    case atStart => exact ⟨0, cv1, by omega, rfl, by have := (UseOut.none HP.out HB0.out).trans (by rw [List.append_nil]; exact HPk1.out); simpa [Hid] using this⟩
    case round =>
      obtain ⟨k, cv2, hk, rfl, HR⟩ := hrel
      by_cases hlt : k < m
      · have hkl : k < t.args.length := by rw [HM.out]; exact hlt
        obtain ⟨y, hy, hAy, b, o, hab, hbN, hKid⟩ := (HA.out.below HR.out.bel).kid8 (k := k) hkl
        simp only at hab hy
        subst hab
        obtain ⟨y0, y1, y2, y3, y4, y5, y6, y7⟩ := hKid
        have hb1 : Below wr.heap.size wr (wr.alloc (.cells #[.int .i64 y.t.lab.kd, .string y.t.lab.op, .int .u8 y.t.lab.v.k, .int .i64 y.t.lab.v.n, .string y.t.lab.v.s, .int .i64 y.t.lab.sl, .int .u8 (y.t.lab.ty : Int), .slice y.a y.t.args.length y.cap] 36)) := (Below.refl _ wr).alloc (Nat.le_refl _) _
        have hGr : G ≤ wr.heap.size := Nat.le_of_lt HR.out.inn.lt
        have hcnt : (L ++ (useL t ++ (t.args.take k).flatMap useN)).length + y.t.count ≤ 1000000 := by
          have h2 := useL_len t
          have h3 := useT_len t.args k
          have h4 := HLen.out
          have h5 := sumN_take_succ hkl
          have h6 := sumN_take_le t.args (k + 1)
          have h7 := t.count_eq
          rw [hy]
          simp only [List.length_append]
          omega
        have HTk : Hid ((t.args.take (k + 1)).flatMap useN = (t.args.take k).flatMap useN ++ useN y.t) := by
          rw [List.take_succ_eq_append_getElem hkl, List.flatMap_append, ← hy]; simp [Hid]
        have HY2 := Lib.hid (IH.out y _ cv2 _ (HR.out.inn.keep hb1) (hAy.below (hb1.mono hGr)) hcnt)
        have HB1 := Lib.hid hb1
        clear hy hAy hb1 hGr hcnt hkl HA IH
        go_wp2_with fail
        refine HY2.out.mono ?_
        rintro e w3 ⟨rfl, cv3, hpk3⟩
        have HN : Hid (UseOut G W L (useL t ++ (t.args.take (k + 1)).flatMap useN) w3 cv3) := by
          have h1 := UseOut.none HR.out.inn HB1.out
          have := HR.out.trans (h1.trans (by rw [List.append_nil]; exact hpk3))
          rw [HTk.out, ← List.append_assoc]; exact this
        clear hpk3 HY2 HB1 y0 y1 y2 y3 y4 y5 y6 y7
        go_wp2
        go_roundw
        case rel => exact ⟨k + 1, cv3, by omega, by go_num, HN.out⟩
        case measure => simp [intOf]; omega
      · have HFin : Hid (UseOut G W L (useN t) wr cv2) := by
          have := HR.out
          rw [show k = m by omega, ← HM.out, List.take_length] at this
          rw [HPk.out]; exact this
        go_wp2
        exact bodyPost_ret (v := .tuple #[]) (by simp [results, Try.results25, go_sem]) rfl ⟨rfl, cv2, HFin.out⟩
end Go.Proofs.Ytcepbindmdakkaa

/-
  DERIVED: THE SHELF's CONTRACTS AT THIS DUMP, IN PLAIN WORDS (tools/lay-plain.mjs out of 'YtcepbindmdakkaaShelf3.lean', which tools/lay-shelf.mjs wrote): THE SAME DECLARATIONS UNDER THE SAME NAMES: 'import', 'namespace', 'open', 'def', 'theorem' AND NOTHING ELSE: no command of the shelf's: FOR A HAND-IN. Each laying: the table of numbers ('.._ren') and one theorem, a field a fact of the dump's own or the kernel's comparison; each contract: ONE APPLICATION.
-/
namespace Go.Proofs
open Go.Shelf
def Try.laysSortI_ren : Go.Shelf.Ren := ⟨fun | 189 => 27 | 125 => 39 | 257 => 38 | 128 => 54 | 129 => 55 | 294 => 45 | 295 => 46 | 296 => 47 | 297 => 48 | 298 => 49 | 299 => 50 | 216 => 51 | 300 => 52 | 301 => 53 | 328 => 58 | 329 => 59 | 330 => 60 | 331 => 61 | 332 => 62 | 215 => 63 | 343 => 66 | n => n, fun | 28 => 27 | 3 => 3 | 46 => 74 | 0 => 0 | 51 => 91 | 53 => 93 | 4 => 4 | 183 => 83 | 182 => 82 | 131 => 88 | 5 => 5 | 9 => 9 | 218 => 95 | 222 => 99 | 228 => 102 | 229 => 103 | n => n, fun | n => n⟩
theorem Try.laysSortI : Go.Proofs.Lays.n189 Try.prog Try.laysSortI_ren := {
  mixed := by kernel_rfl
  f125 := Try.func39.trans (congrArg some (by kernel_rfl))
  f128 := Try.func54.trans (congrArg some (by kernel_rfl))
  f129 := Try.func55.trans (congrArg some (by kernel_rfl))
  f189 := Try.func27.trans (congrArg some (by kernel_rfl))
  f215 := Try.func63.trans (congrArg some (by kernel_rfl))
  f216 := Try.func51.trans (congrArg some (by kernel_rfl))
  f257 := Try.func38.trans (congrArg some (by kernel_rfl))
  f294 := Try.func45.trans (congrArg some (by kernel_rfl))
  f295 := Try.func46.trans (congrArg some (by kernel_rfl))
  f296 := Try.func47.trans (congrArg some (by kernel_rfl))
  f297 := Try.func48.trans (congrArg some (by kernel_rfl))
  f298 := Try.func49.trans (congrArg some (by kernel_rfl))
  f299 := Try.func50.trans (congrArg some (by kernel_rfl))
  f300 := Try.func52.trans (congrArg some (by kernel_rfl))
  f301 := Try.func53.trans (congrArg some (by kernel_rfl))
  f328 := Try.func58.trans (congrArg some (by kernel_rfl))
  f329 := Try.func59.trans (congrArg some (by kernel_rfl))
  f330 := Try.func60.trans (congrArg some (by kernel_rfl))
  f331 := Try.func61.trans (congrArg some (by kernel_rfl))
  f332 := Try.func62.trans (congrArg some (by kernel_rfl))
  f343 := Try.func66.trans (congrArg some (by kernel_rfl))
  t0 := Try.underlying0
  a0 := Try.isAgg0
  z0 := Try.sizeOf0
  v0 := Try.zeroValue0
  t3 := Try.underlying3
  a3 := Try.isAgg3
  z3 := Try.sizeOf3
  v3 := Try.zeroValue3
  t4 := Try.underlying4
  a4 := Try.isAgg4
  z4 := Try.sizeOf4
  v4 := Try.zeroValue4
  t5 := Try.underlying5
  a5 := Try.isAgg5
  z5 := Try.sizeOf5
  v5 := Try.zeroValue5
  t9 := Try.underlying9
  a9 := Try.isAgg9
  z9 := Try.sizeOf9
  v9 := Try.zeroValue9
  t28 := Try.underlying27
  a28 := Try.isAgg27
  z28 := Try.sizeOf27
  v28 := Try.zeroValue27
  t46 := Try.underlying74
  a46 := Try.isAgg74
  z46 := Try.sizeOf74
  v46 := Try.zeroValue74
  t51 := Try.underlying91
  a51 := Try.isAgg91
  z51 := Try.sizeOf91
  v51 := Try.zeroValue91
  t53 := Try.underlying93
  a53 := Try.isAgg93
  z53 := Try.sizeOf93
  v53 := Try.zeroValue93
  t131 := Try.underlying88
  a131 := Try.isAgg88
  z131 := Try.sizeOf88
  v131 := Try.zeroValue88
  t182 := Try.underlying82
  a182 := Try.isAgg82
  z182 := Try.sizeOf82
  v182 := Try.zeroValue82
  t183 := Try.underlying83
  a183 := Try.isAgg83
  z183 := Try.sizeOf83
  v183 := Try.zeroValue83
  t218 := Try.underlying95
  a218 := Try.isAgg95
  z218 := Try.sizeOf95
  v218 := Try.zeroValue95
  t222 := Try.underlying99
  a222 := Try.isAgg99
  z222 := Try.sizeOf99
  v222 := Try.zeroValue99
  t228 := Try.underlying102
  a228 := Try.isAgg102
  z228 := Try.sizeOf102
  v228 := Try.zeroValue102
  t229 := Try.underlying103
  a229 := Try.isAgg103
  z229 := Try.sizeOf103
  v229 := Try.zeroValue103 }
def Try.laysCompI_ren : Go.Shelf.Ren := ⟨fun | 20 => 28 | n => n, fun | 22 => 27 | 3 => 3 | 4 => 4 | 0 => 0 | n => n, fun | n => n⟩
theorem Try.laysCompI : Go.Proofs.Lays2.n20 Try.prog Try.laysCompI_ren := {
  mixed := by kernel_rfl
  f20 := Try.func28.trans (congrArg some (by kernel_rfl))
  t0 := Try.underlying0
  a0 := Try.isAgg0
  z0 := Try.sizeOf0
  v0 := Try.zeroValue0
  t3 := Try.underlying3
  a3 := Try.isAgg3
  z3 := Try.sizeOf3
  v3 := Try.zeroValue3
  t4 := Try.underlying4
  a4 := Try.isAgg4
  z4 := Try.sizeOf4
  v4 := Try.zeroValue4
  t22 := Try.underlying27
  a22 := Try.isAgg27
  z22 := Try.sizeOf27
  v22 := Try.zeroValue27
  i3 := by kernel_rfl }
end Go.Proofs

/- slices.Sort and slices.Compact at a row of integers of the call's own; typing.Used. -/
set_option linter.unusedSimpArgs false
set_option linter.unusedVariables false
set_option maxRecDepth 100000
namespace Go.Proofs.Ytcepbindmdakkaa
open Go.RowKit Go.Sort

def sortZ (l : List Int) : List Int := l.mergeSort fun x y => decide (x ≤ y)
theorem sortZ_len (l : List Int) : (sortZ l).length = l.length := List.length_mergeSort l

theorem compact_le (l : List Int) : (Lib.compact l).length ≤ l.length := by
  unfold Lib.compact Lib.compactUpTo
  rw [List.length_map]
  exact Nat.le_trans (List.length_filter_le _ _) (by simp)
theorem own_basP {w : World} {base b0 : Nat} {e : TypeId} {z n : Nat} {v : Value} {xs : List Value} (h : w.ownsRow base e z v n xs) (hb : b0 ≤ base) : w.ownsRow b0 e z v n xs := by
  obtain ⟨h1, h2⟩ := h
  rcases h2 with h2 | ⟨g, cap, cur, hv, hg, r⟩
  · exact ⟨h1, .inl h2⟩
  · exact ⟨h1, .inr ⟨g, cap, cur, hv, by omega, r⟩⟩
theorem own_cut {w : World} {base : Nat} {e : TypeId} {n k cap : Nat} {a : Option Addr} {xs : List Value} (h : w.ownsRow base e 1 (.slice a n cap) n xs) (hk : k ≤ n) (ha : a ≠ none) : w.ownsRow base e 1 (.slice a k cap) k (xs.take k) := by
  obtain ⟨h1, h2⟩ := h
  rcases h2 with ⟨hv, hn⟩ | ⟨g, cap', cur, hv, hg, hh, hnc, hcm, hcs, hcur⟩
  · injection hv with h3; exact absurd h3 ha
  · injection hv with e1 e2 e3
    subst e1 e3
    refine ⟨by rw [List.length_take, h1]; omega, .inr ⟨g, cap, cur, rfl, hg, hh, by omega, hcm, hcs, ?_⟩⟩
    rw [← hcur, List.take_take]; congr 1; omega

theorem sortI_own (base : Nat) (W : World) (v : Value) (L : List Int) (h : W.ownsRow base 3 1 v L.length (rowZ L)) (hL : L.length ≤ 1000000) :
    Calls Try.prog 27 #[v] W fun e w' => e = .returned (.tuple #[]) ∧ w'.ownsRow base 3 1 v L.length (rowZ (sortZ L)) ∧ W.grownBy w' v.ownBlock := by
  rcases h.2 with ⟨rfl, hn⟩ | ⟨g, cap, cur, rfl, hg, hh, hnc, hcm, hcs, hcur⟩
  · have hl : L = [] := List.length_eq_zero_iff.1 hn
    subst hl
    refine (Any.slices_Sort_int_none Try.laysSortI none 0 W).mono ?_
    rintro e w' ⟨rfl, rfl⟩
    exact ⟨rfl, by rw [show sortZ [] = [] by simp [sortZ]]; exact h, World.grownBy.refl _ _⟩
  · have hlt : g < W.heap.size := (Array.getElem?_eq_some_iff.1 hh).1
    have hH : Holds (Value.int .i64) W g 0 L.toArray := holds_of_blockI hh (by rw [Nat.mul_one] at hcur; exact hcur)
    refine (Any.slices_Sort_int Try.laysSortI g 0 cap L W hH hlt (by omega)).mono ?_
    rintro e w' ⟨rfl, n, os, rfl⟩
    exact ⟨rfl, ownsRow_sortedI (ts := sortZ L) (ss := L) (sortZ_len L) hg hh hnc hcm hcs, grownBy_sortedI _⟩

theorem compI_own (base : Nat) (W : World) (v : Value) (L : List Int) (h : W.ownsRow base 3 1 v L.length (rowZ L)) (hL : L.length ≤ 1000000) :
    Calls Try.prog 28 #[v] W fun e w' => ∃ v', e = .returned v' ∧ w'.ownsRow base 3 1 v' (Lib.compact L).length (rowZ (Lib.compact L)) ∧ W.grownBy w' v.ownBlock := by
  rcases h.2 with ⟨rfl, hn⟩ | ⟨g, cap, cur, rfl, hg, hh, hnc, hcm, hcs, hcur⟩
  · have hl : L = [] := List.length_eq_zero_iff.1 hn
    subst hl
    refine (Any.slices_Compact_int_empty Try.laysCompI none 0 W).mono ?_
    rintro e w' ⟨rfl, rfl⟩
    exact ⟨_, rfl, h, World.grownBy.refl _ _⟩
  · have hlt : g < W.heap.size := (Array.getElem?_eq_some_iff.1 hh).1
    have hH : Holds (Value.int .i64) W g 0 L.toArray := holds_of_blockI hh (by rw [Nat.mul_one] at hcur; exact hcur)
    have hle := compact_le L
    refine (Any.slices_Compact_int Try.laysCompI g 0 cap L W hH (by omega) hnc).mono ?_
    rintro e w' ⟨rfl, q, rfl⟩
    have hs := ownsRow_sortedI (n := q) (os := #[]) (ts := Lib.compact L ++ List.replicate (L.length - (Lib.compact L).length) 0) (ss := L) (by simp; omega) hg hh hnc hcm hcs
    rw [grow_empty] at hs
    have hc := own_cut hs hle (by simp)
    have ht : (rowZ (Lib.compact L ++ List.replicate (L.length - (Lib.compact L).length) 0)).take (Lib.compact L).length = rowZ (Lib.compact L) := by
      unfold rowZ; rw [← List.map_take, List.take_left]
    have hgb := grownBy_sortedI (w := W) (g := g) (n := q) (os := #[]) (Lib.compact L ++ List.replicate (L.length - (Lib.compact L).length) 0).toArray
    rw [grow_empty] at hgb
    exact ⟨_, rfl, by rw [← ht]; exact hc, hgb⟩

/-- The slots that a node uses, in order. -/
def usedZ (x : Nx) : List Int := Lib.compact (sortZ (useN x))
/-- What Used hands back. -/
def RetUsed (W : World) (x : Nx) (e : Ending) (W' : World) : Prop := ∃ v, e = .returned v ∧ W'.ownsRow W.heap.size 3 1 v (usedZ x).length (rowZ (usedZ x)) ∧ Below W.heap.size W W'

set_option maxHeartbeats 2000000 in
theorem used_any (n : Nat) (x : NM) (W : World) (h : NdAt W.heap.size W n x) (hc : x.t.count ≤ 1000000) :
    Calls Try.prog 12 #[x.nv] W (RetUsed W x.t) := by
  rw [NM.nv_eq]
  have HX := Lib.hid (Slot8.new W 36 (.int .i64 x.t.lab.kd) (.string x.t.lab.op) (.int .u8 x.t.lab.v.k) (.int .i64 x.t.lab.v.n) (.string x.t.lab.v.s) (.int .i64 x.t.lab.sl) (.int .u8 (x.t.lab.ty : Int)) (.slice x.a x.t.args.length x.cap))
  obtain ⟨w0, hw0⟩ : ∃ w0, W.alloc (.cells #[.int .i64 x.t.lab.kd, .string x.t.lab.op, .int .u8 x.t.lab.v.k, .int .i64 x.t.lab.v.n, .string x.t.lab.v.s, .int .i64 x.t.lab.sl, .int .u8 (x.t.lab.ty : Int), .slice x.a x.t.args.length x.cap] 36) = w0 := ⟨_, rfl⟩
  have HB0 : Hid (Below W.heap.size W w0) := by rw [← hw0]; exact (Below.refl _ W).alloc (Nat.le_refl _) _
  have hs0 : w0.heap.size = W.heap.size + 1 := by rw [← hw0]; simp
  rw [hw0] at HX
  obtain ⟨G, hG⟩ : ∃ G, w0.heap.size = G := ⟨_, rfl⟩
  obtain ⟨w1, hw1⟩ : ∃ w1, w0.alloc (.cells #[.slice none 0 0] 27) = w1 := ⟨_, rfl⟩
  have hV1 : Blk w1 G 27 #[.slice none 0 0] := by rw [← hw1, ← hG]; exact Blk.new w0 _ _
  have hb1 : Below w0.heap.size w0 w1 := by rw [← hw1]; exact (Below.refl _ w0).alloc (Nat.le_refl _) _
  have HX1 := Lib.hid (HX.out.later (by omega) hb1)
  have HB1 : Hid (Below W.heap.size W w1) := HB0.out.trans (hb1.mono (by omega))
  have hA : NdAt G w1 n x := (h.below HB1.out).mono (by omega)
  have hU : UseIn G w1 (.slice none 0 0) [] := ⟨hV1, World.ownsRow_nil _ _ _ _⟩
  have HY := Lib.hid (visitUse_is G n x w1 _ [] hU hA (by simpa using hc))
  rw [NM.nv_eq] at HY
  have hUL : (useN x.t).length ≤ 1000000 := Nat.le_trans (useN_len _) hc
  have HUL := Lib.hid hUL
  have HSz := Lib.hid hs0
  have HGe := Lib.hid hG
  obtain ⟨L, hL⟩ : ∃ L, useN x.t = L := ⟨_, rfl⟩
  have HE : Hid (usedZ x.t = Lib.compact (sortZ L)) := by rw [← hL]; exact rfl
  rw [hL] at HY HUL
  have z0 : w1.cell? ⟨G, 0, none⟩ = some (.slice none 0 0) := (hV1.cell 0).trans rfl
  clear h hc hV1 hb1 hA hU hUL hL hs0
  obtain ⟨x0, x1, x2, x3, x4, x5, x6, x7⟩ := HX1.out
  go_enter Try.func12, Try.ntmps12
  go_wp2_with fail
  refine HY.out.mono ?_
  rintro e w2 ⟨rfl, cv2, hu⟩
  have hI := hu.inn
  rw [List.nil_append] at hI
  have HI := Lib.hid hI
  have HB2 : Hid (Below W.heap.size W w2) := HB1.out.trans (hu.bel.mono (by have := HSz.out; have := HGe.out; omega))
  obtain ⟨a2, c2, hcv, -, -, -⟩ := own_slice hI.row
  have HCv := Lib.hid hcv
  obtain ⟨m, hm⟩ : ∃ m, L.length = m := ⟨_, rfl⟩
  have HM := Lib.hid hm
  rw [hm] at hcv
  subst hcv
  have z2 : w2.cell? ⟨G, 0, none⟩ = some (.slice a2 m c2) := (hI.var.cell 0).trans rfl
  have HS := Lib.hid (sortI_own (G + 1) w2 _ L hI.row HUL.out)
  clear hu hI hm HY x0 x1 x2 x3 x4 x5 x6 x7 z0
  go_wp2_with fail
  refine HS.out.mono ?_
  rintro e w3 ⟨rfl, hown3, hg3⟩
  have hGn : (Value.slice a2 m c2).ownBlock ≠ some G := fun hg => by have := (own_blk HI.out.row hg).1; omega
  have z3 : w3.cell? ⟨G, 0, none⟩ = some (.slice a2 m c2) := (World.cell?_of_block (a := ⟨G, 0, none⟩) (hg3.block G HI.out.lt (fun he => hGn he.symm))).trans z2
  have HB3 : Hid (Below W.heap.size W w3) := HB2.out.grown hg3 HB2.out.size (fun j hj => by have := (own_blk HI.out.row hj).1; have := HSz.out; have := HGe.out; omega)
  have hown3' : w3.ownsRow (G + 1) 3 1 (.slice a2 m c2) (sortZ L).length (rowZ (sortZ L)) := by rw [sortZ_len]; exact hown3
  have HO3 := Lib.hid hown3'
  have HC := Lib.hid (compI_own (G + 1) w3 _ (sortZ L) hown3' (by rw [sortZ_len]; exact HUL.out))
  clear hown3 hg3 hGn HS z2 hown3'
  go_wp2_with fail
  refine HC.out.mono ?_
  rintro e w4 ⟨v4, rfl, hown4, hg4⟩
  have HB4 : Hid (Below W.heap.size W w4) := HB3.out.grown hg4 HB3.out.size (fun j hj => by have := (own_blk HO3.out hj).1; have := HSz.out; have := HGe.out; omega)
  have HO4 : Hid (w4.ownsRow W.heap.size 3 1 v4 (usedZ x.t).length (rowZ (usedZ x.t))) := by rw [HE.out]; exact own_basP hown4 (by have := HSz.out; have := HGe.out; omega)
  clear hown4 hg4 HC z3
  go_wp2
  go_ret
  exact ⟨_, rfl, HO4.out, HB4.out⟩
end Go.Proofs.Ytcepbindmdakkaa

/- The walks of plan.isSafeBinary, isSafe, Safe (layer 24). -/
set_option linter.unusedSimpArgs false
set_option linter.unusedVariables false
set_option maxRecDepth 100000
namespace Go.Proofs.Ytcepbindmdakkaa
open Go.RowKit

def bs (l : List UInt8) : ByteArray := ⟨l.toArray⟩
theorem bs_eq (s : ByteArray) (l : List UInt8) : (s.toList == l) = decide (s = bs l) := by
  rw [Bool.eq_iff_iff, beq_iff_eq, decide_eq_true_eq]
  constructor
  · intro h
    have h2 : s.toList = (bs l).toList := by rw [h, ByteArray.toList_eq]; simp [bs]
    rw [ByteArray.toList_eq, ByteArray.toList_eq] at h2
    exact ByteArray.ext (Array.toList_inj.1 h2)
  · rintro rfl
    rw [ByteArray.toList_eq]; simp [bs]
def safeOps : List (List UInt8) := [[111, 114], [97, 110, 100], [61], [60, 62], [60], [60, 61], [62], [62, 61]]
def isSafeB (s : ByteArray) : Bool := safeOps.any fun l => s.toList == l

set_option maxHeartbeats 2000000 in
theorem isSafeB_any (s : ByteArray) (w : World) : Calls Try.prog 40 #[.string s] w fun e w' => e = .returned (.bool (isSafeB s)) ∧ w' = w := by
  obtain ⟨b0, h0⟩ : ∃ b, (s.toList == [111, 114]) = b := ⟨_, rfl⟩
  obtain ⟨b1, h1⟩ : ∃ b, (s.toList == [97, 110, 100]) = b := ⟨_, rfl⟩
  obtain ⟨b2, h2⟩ : ∃ b, (s.toList == [61]) = b := ⟨_, rfl⟩
  obtain ⟨b3, h3⟩ : ∃ b, (s.toList == [60, 62]) = b := ⟨_, rfl⟩
  obtain ⟨b4, h4⟩ : ∃ b, (s.toList == [60]) = b := ⟨_, rfl⟩
  obtain ⟨b5, h5⟩ : ∃ b, (s.toList == [60, 61]) = b := ⟨_, rfl⟩
  obtain ⟨b6, h6⟩ : ∃ b, (s.toList == [62]) = b := ⟨_, rfl⟩
  obtain ⟨b7, h7⟩ : ∃ b, (s.toList == [62, 61]) = b := ⟨_, rfl⟩
  have HV : Hid (isSafeB s = (b0 || (b1 || (b2 || (b3 || (b4 || (b5 || (b6 || b7)))))))) := by
    show _ = _
    unfold isSafeB safeOps
    simp only [List.any_cons, List.any_nil, h0, h1, h2, h3, h4, h5, h6, h7, Bool.or_false]
  cases b0 with
  | true =>
    go_enter Try.func40, Try.ntmps40
    go_wp2
    go_ret
    exact ⟨by rw [HV.out]; rfl, rfl⟩
  | false =>
  cases b1 with
  | true =>
    go_enter Try.func40, Try.ntmps40
    go_wp2
    go_ret
    exact ⟨by rw [HV.out]; rfl, rfl⟩
  | false =>
  cases b2 with
  | true =>
    go_enter Try.func40, Try.ntmps40
    go_wp2
    go_ret
    exact ⟨by rw [HV.out]; rfl, rfl⟩
  | false =>
  cases b3 with
  | true =>
    go_enter Try.func40, Try.ntmps40
    go_wp2
    go_ret
    exact ⟨by rw [HV.out]; rfl, rfl⟩
  | false =>
  cases b4 with
  | true =>
    go_enter Try.func40, Try.ntmps40
    go_wp2
    go_ret
    exact ⟨by rw [HV.out]; rfl, rfl⟩
  | false =>
  cases b5 with
  | true =>
    go_enter Try.func40, Try.ntmps40
    go_wp2
    go_ret
    exact ⟨by rw [HV.out]; rfl, rfl⟩
  | false =>
  cases b6 <;> cases b7
  all_goals
    go_enter Try.func40, Try.ntmps40
    go_wp2
    go_ret
    exact ⟨by rw [HV.out]; rfl, rfl⟩

/-- Is a node safe, if its arguments are? -/
def isSafeN (l : NLb) (n : Nat) : Bool :=
  if l.kd = 1 ∨ l.kd = 2 then true
  else if l.kd = 3 then (l.op.toList == [110, 111, 116]) && decide (n = 1)
  else if l.kd = 5 then ((l.op.toList == [105, 115, 32, 110, 117, 108, 108]) || (l.op.toList == [105, 115, 32, 110, 111, 116, 32, 110, 117, 108, 108])) && decide (n = 1)
  else if l.kd = 4 then isSafeB l.op && decide (n = 2)
  else false

set_option maxHeartbeats 4000000 in
theorem isSafe_any (l : NLb) (a : Option Addr) (n cap : Nat) (w : World) :
    Calls Try.prog 29 #[.agg #[.int .i64 l.kd, .string l.op, .int .u8 l.v.k, .int .i64 l.v.n, .string l.v.s, .int .i64 l.sl, .int .u8 (l.ty : Int), .slice a n cap]] w fun e w' => e = .returned (.bool (isSafeN l n)) ∧ Below w.heap.size w w' := by
  obtain ⟨kd, op, ⟨vk, vn, vs⟩, sl, ty⟩ := l
  dsimp only
  have HX := Lib.hid (Slot8.new w 36 (.int .i64 kd) (.string op) (.int .u8 vk) (.int .i64 vn) (.string vs) (.int .i64 sl) (.int .u8 (ty : Int)) (.slice a n cap))
  have HB0 : Hid (∀ o, Below w.heap.size w (w.alloc o)) := fun o => (Below.refl _ w).alloc (Nat.le_refl _) _
  have HSB := Lib.hid (fun W => isSafeB_any op W)
  obtain ⟨r, hr⟩ : ∃ r, isSafeN ⟨kd, op, ⟨vk, vn, vs⟩, sl, ty⟩ n = r := ⟨_, rfl⟩
  rw [hr]
  unfold isSafeN at hr
  dsimp only at hr
  obtain ⟨x0, x1, x2, x3, x4, x5, x6, x7⟩ := HX.out
  by_cases k1 : kd = 1
  · subst k1
    rw [if_pos (.inl rfl)] at hr
    subst hr
    go_enter Try.func29, Try.ntmps29
    go_wp2
    go_ret
    exact ⟨rfl, HB0.out _⟩
  by_cases k2 : kd = 2
  · subst k2
    rw [if_pos (.inr rfl)] at hr
    subst hr
    go_enter Try.func29, Try.ntmps29
    go_wp2
    go_ret
    exact ⟨rfl, HB0.out _⟩
  rw [if_neg (by intro h; rcases h with h | h; exact k1 h; exact k2 h)] at hr
  by_cases k3 : kd = 3
  · subst k3
    rw [if_pos rfl] at hr
    obtain ⟨b, hb⟩ : ∃ b, (op.toList == [110, 111, 116]) = b := ⟨_, rfl⟩
    rw [hb] at hr
    cases b with
    | false =>
      subst hr
      go_enter Try.func29, Try.ntmps29
      go_wp2
      go_ret
      exact ⟨rfl, HB0.out _⟩
    | true =>
      rw [Bool.true_and] at hr
      have hn : ((n : Int) == 1) = r := by rw [← hr, Bool.eq_iff_iff]; simp; omega
      have hn2 : (n == 1) = r := by rw [← hr, Bool.eq_iff_iff]; simp
      clear hr
      go_enter Try.func29, Try.ntmps29
      go_wp2
      go_ret
      exact ⟨ret_b (by first | rfl | exact hn | exact hn2 | simp_all), HB0.out _⟩
  rw [if_neg k3] at hr
  by_cases k5 : kd = 5
  · subst k5
    rw [if_pos rfl] at hr
    obtain ⟨b, hb⟩ : ∃ b, (op.toList == [105, 115, 32, 110, 117, 108, 108]) = b := ⟨_, rfl⟩
    obtain ⟨c, hc⟩ : ∃ c, (op.toList == [105, 115, 32, 110, 111, 116, 32, 110, 117, 108, 108]) = c := ⟨_, rfl⟩
    rw [hb, hc] at hr
    obtain ⟨d, hd⟩ : ∃ d, decide (n = 1) = d := ⟨_, rfl⟩
    rw [hd] at hr
    have hn : ((n : Int) == 1) = d := by rw [← hd, Bool.eq_iff_iff]; simp; omega
    have hn2 : (n == 1) = d := by rw [← hd, Bool.eq_iff_iff]; simp
    clear hd
    subst hr
    cases b <;> cases c
    all_goals
      go_enter Try.func29, Try.ntmps29
      go_wp2
      go_ret
      exact ⟨ret_b (by first | rfl | exact hn | exact hn2 | simp_all), HB0.out _⟩
  rw [if_neg k5] at hr
  by_cases k4 : kd = 4
  · subst k4
    rw [if_pos rfl] at hr
    obtain ⟨b, hb⟩ : ∃ b, isSafeB op = b := ⟨_, rfl⟩
    rw [hb] at hr HSB
    obtain ⟨d, hd⟩ : ∃ d, decide (n = 2) = d := ⟨_, rfl⟩
    rw [hd] at hr
    have hn : ((n : Int) == 2) = d := by rw [← hd, Bool.eq_iff_iff]; simp; omega
    have hn2 : (n == 2) = d := by rw [← hd, Bool.eq_iff_iff]; simp
    clear hd hb
    subst hr
    cases b
    all_goals
      go_enter Try.func29, Try.ntmps29
      go_wp2_with fail
      refine (HSB.out _).mono ?_
      rintro e w1 ⟨rfl, rfl⟩
      go_wp2
      go_ret
      exact ⟨ret_b (by first | rfl | exact hn | exact hn2 | simp_all), HB0.out _⟩
  rw [if_neg k4] at hr
  subst hr
  have q1 : (kd == 1) = false := by simpa using k1
  have q2 : (kd == 2) = false := by simpa using k2
  have q3 : (kd == 3) = false := by simpa using k3
  have q4 : (kd == 4) = false := by simpa using k4
  have q5 : (kd == 5) = false := by simpa using k5
  go_enter Try.func29, Try.ntmps29
  go_wp2
  go_ret
  exact ⟨rfl, HB0.out _⟩

/-- Is a node safe? -/
def safeN (x : Nx) : Bool := Rose.allB isSafeN x
theorem safeN_eq (x : Nx) : safeN x = (isSafeN x.lab x.args.length && x.args.all safeN) := by
  unfold safeN
  rw [Rose.allB_eq]
def SafeIs (n : Nat) : Prop := ∀ (x : NM) (w : World), NdAt w.heap.size w n x → Calls Try.prog 14 #[.agg #[.int .i64 x.t.lab.kd, .string x.t.lab.op, .int .u8 x.t.lab.v.k, .int .i64 x.t.lab.v.n, .string x.t.lab.v.s, .int .i64 x.t.lab.sl, .int .u8 (x.t.lab.ty : Int), .slice x.a x.t.args.length x.cap]] w fun e w' => e = .returned (.bool (safeN x.t)) ∧ Below w.heap.size w w'
theorem safe_clo (n : Nat) (IH : SafeIs n) (y : NM) (W : World) (hy : NdAt W.heap.size W n y) :
    Calls Try.prog 31 #[.agg #[.int .i64 y.t.lab.kd, .string y.t.lab.op, .int .u8 y.t.lab.v.k, .int .i64 y.t.lab.v.n, .string y.t.lab.v.s, .int .i64 y.t.lab.sl, .int .u8 (y.t.lab.ty : Int), .slice y.a y.t.args.length y.cap]] W fun e w' => e = .returned (.bool (!safeN y.t)) ∧ Below W.heap.size W w' := by
  have HD := Lib.hid (fun V (hb : Below W.heap.size W V) => IH y V (hy.later hb))
  have HX := Lib.hid (Slot8.new W 36 (.int .i64 y.t.lab.kd) (.string y.t.lab.op) (.int .u8 y.t.lab.v.k) (.int .i64 y.t.lab.v.n) (.string y.t.lab.v.s) (.int .i64 y.t.lab.sl) (.int .u8 (y.t.lab.ty : Int)) (.slice y.a y.t.args.length y.cap))
  have HB0 : Hid (∀ o, Below W.heap.size W (W.alloc o)) := fun o => (Below.refl _ W).alloc (Nat.le_refl _) _
  generalize safeN y.t = d at *
  clear hy IH
  obtain ⟨x0, x1, x2, x3, x4, x5, x6, x7⟩ := HX.out
  go_enter Try.func31, Try.ntmps31
  go_wp2_with fail
  refine (HD.out _ (HB0.out _)).mono ?_
  rintro e w1 ⟨rfl, hb1⟩
  have HB1 := Lib.hid ((HB0.out _).trans (hb1.mono (HB0.out _).size))
  clear hb1 x0 x1 x2 x3 x4 x5 x6 x7
  go_wp2
  go_ret
  exact ⟨rfl, HB1.out⟩

set_option maxHeartbeats 2000000 in
theorem safe_idx (n : Nat) (IH : SafeIs n) (t : Nx) (a : Option Addr) (cap : Nat) (w : World) (h : NdAt w.heap.size w (n + 1) ⟨t, a, cap⟩) :
    Calls Try.prog 41 #[.slice a t.args.length cap, .func (.func 31) #[] #[]] w fun e w' => ∃ r : Int, e = .returned (.int .i64 r) ∧ decide (0 ≤ r) = (!t.args.all safeN) ∧ Below w.heap.size w w' := by
  have HA := Lib.hid h
  have hlen := h.fair.2.1
  have hcap := h.fair.2.2
  simp only at hlen hcap
  have HCl := Lib.hid (fun y V hy => safe_clo n IH y V hy)
  obtain ⟨m, hm⟩ : ∃ m, t.args.length = m := ⟨_, rfl⟩
  rw [hm] at hlen ⊢
  have HM := Lib.hid hm
  clear h hm IH
  go_enter Try.func41, Try.ntmps41
  go_wp2
  go_loopw [8] (fun i wr => ∃ k : Nat, k ≤ m ∧ i = .int .i64 k ∧ Hid ((t.args.take k).all safeN = true) ∧ Hid (Below w.heap.size w wr)) (fun i _ => m - (intOf i).toNat)
  case atStart => exact ⟨0, by omega, rfl, by simp [Hid], Below.refl _ _⟩
  case round =>
    obtain ⟨k, hk, rfl, HI, HBr⟩ := hrel
    by_cases hlt : k < m
    · have hkl : k < t.args.length := by rw [HM.out]; exact hlt
      obtain ⟨y, hy, hAy, b, o, hab, hbN, hKid⟩ := (HA.out.later HBr.out).kid8 (k := k) hkl
      simp only at hab hy
      subst hab
      obtain ⟨y0, y1, y2, y3, y4, y5, y6, y7⟩ := hKid
      have HTk : Hid ((t.args.take (k + 1)).all safeN = safeN y.t) := by
        rw [List.take_succ_eq_append_getElem hkl, List.all_append, HI.out, ← hy]; simp [Hid]
      have HTf : Hid (safeN y.t = false → t.args.all safeN = false) := fun hf => by
        rw [List.all_eq_false]; exact ⟨_, List.getElem_mem hkl, by rw [← hy, hf]; simp⟩
      have HY := Lib.hid (HCl.out y wr hAy)
      generalize safeN y.t = d at *
      clear hy hAy HA hkl HI HCl
      go_wp2_with fail
      refine HY.out.mono ?_
      rintro e w2 ⟨rfl, hb2⟩
      have HB2 := Lib.hid (HBr.out.trans (hb2.mono HBr.out.size))
      clear hb2 HY y0 y1 y2 y3 y4 y5 y6 y7
      cases d with
      | true =>
        go_wp2
        go_roundw
        case rel => exact ⟨k + 1, by omega, by go_num, HTk.out, HB2.out⟩
        case measure => simp [intOf]; omega
      | false =>
        go_wp2
        go_ret
        exact ⟨k, rfl, by rw [HTf.out (by trivial)]; simp, HB2.out⟩
    · have HT : Hid (t.args.all safeN = true) := by
        have := HI.out
        rwa [show k = m by omega, ← HM.out, List.take_length] at this
      go_wp2
      go_ret
      exact ⟨-1, rfl, by rw [HT.out]; rfl, HBr.out⟩

set_option maxHeartbeats 1000000 in
theorem safe_con (n : Nat) (IH : SafeIs n) (t : Nx) (a : Option Addr) (cap : Nat) (w : World) (h : NdAt w.heap.size w (n + 1) ⟨t, a, cap⟩) :
    Calls Try.prog 30 #[.slice a t.args.length cap, .func (.func 31) #[] #[]] w fun e w' => e = .returned (.bool (!t.args.all safeN)) ∧ Below w.heap.size w w' := by
  have HC := Lib.hid (safe_idx n IH t a cap w h)
  clear h
  generalize t.args.all safeN = d at *
  go_enter Try.func30, Try.ntmps30
  go_wp2_with fail
  refine HC.out.mono ?_
  rintro e w1 ⟨r, rfl, hr, hb⟩
  have HR := Lib.hid hr
  clear hr HC
  go_wp2
  go_ret
  exact ⟨ret_b HR.out, hb⟩

set_option maxHeartbeats 2000000 in
theorem safe_is : ∀ n, SafeIs n
  | 0 => fun x w h => h.elim
  | n + 1 => fun ⟨t, a, cap⟩ w h => by
    have HC := Lib.hid (fun V (hb : Below w.heap.size w V) => safe_con n (safe_is n) t a cap V (h.later hb))
    have HI := Lib.hid (fun W => isSafe_any t.lab a t.args.length cap W)
    have HE := Lib.hid (safeN_eq t)
    dsimp only
    obtain ⟨r, hr⟩ : ∃ r, safeN t = r := ⟨_, rfl⟩
    rw [hr] at HE ⊢
    have HX := Lib.hid (Slot8.new w 36 (.int .i64 t.lab.kd) (.string t.lab.op) (.int .u8 t.lab.v.k) (.int .i64 t.lab.v.n) (.string t.lab.v.s) (.int .i64 t.lab.sl) (.int .u8 (t.lab.ty : Int)) (.slice a t.args.length cap))
    obtain ⟨w0, hw0⟩ : ∃ w0, w.alloc (.cells #[.int .i64 t.lab.kd, .string t.lab.op, .int .u8 t.lab.v.k, .int .i64 t.lab.v.n, .string t.lab.v.s, .int .i64 t.lab.sl, .int .u8 (t.lab.ty : Int), .slice a t.args.length cap] 36) = w0 := ⟨_, rfl⟩
    rw [hw0] at HX
    have HB0 : Hid (Below w.heap.size w w0) := by rw [← hw0]; exact (Below.refl _ w).alloc (Nat.le_refl _) _
    have hs0 : w.heap.size < w0.heap.size := by rw [← hw0]; simp
    have HS0 := Lib.hid hs0
    generalize isSafeN t.lab t.args.length = b at *
    generalize t.args.all safeN = d at *
    clear h hr hs0
    obtain ⟨x0, x1, x2, x3, x4, x5, x6, x7⟩ := HX.out
    go_enter Try.func14, Try.ntmps14
    go_wp2_with fail
    refine (HI.out _).mono ?_
    rintro e w1 ⟨rfl, hb1⟩
    have HB1 := Lib.hid (HB0.out.trans (hb1.mono HB0.out.size))
    have HX1 := Lib.hid (HX.out.later HS0.out hb1)
    clear hb1 x0 x1 x2 x3 x4 x5 x6 x7
    cases b with
    | false =>
      go_wp2
      go_ret
      exact ⟨ret_b (by rw [HE.out]; rfl), HB1.out⟩
    | true =>
      obtain ⟨x0, x1, x2, x3, x4, x5, x6, x7⟩ := HX1.out
      go_wp2_with fail
      refine (HC.out _ HB1.out).mono ?_
      rintro e w2 ⟨rfl, hb2⟩
      have HB2 := Lib.hid (HB1.out.trans (hb2.mono HB1.out.size))
      clear hb2 x0 x1 x2 x3 x4 x5 x6 x7
      go_wp2
      go_ret
      exact ⟨ret_b (by rw [HE.out]; simp), HB2.out⟩
end Go.Proofs.Ytcepbindmdakkaa

/- plan.isBelow, plan.isBinary; law 24's great and small. -/
set_option linter.unusedSimpArgs false
set_option linter.unusedVariables false
set_option maxRecDepth 100000
namespace Go.Proofs.Ytcepbindmdakkaa
open Go.RowKit

theorem belowDo_any (s f : Int) (B : Nat) (W : World) (h : W.cell? ⟨B, 0, none⟩ = some (.int .i64 f)) :
    Calls Try.prog 64 #[.int .i64 s, .pointer (some ⟨B, 0, none⟩)] W fun e w' => e = .returned (.bool (decide (f ≤ s))) ∧ w' = W := by
  go_enter Try.func64, Try.ntmps64
  go_wp2
  go_ret
  exact ⟨rfl, rfl⟩

set_option maxHeartbeats 2000000 in
theorem idxI_any (f : Int) (B : Nat) (L : List Int) (a : Option Addr) (m cap : Nat) (w : World) (hA : Arr w.heap.size w a (rowZ L)) (hm : L.length = m) (hcap : m ≤ cap) (hcm : cap ≤ 9223372036854775807) (h : w.cell? ⟨B, 0, none⟩ = some (.int .i64 f)) :
    Calls Try.prog 42 #[.slice a m cap, .func (.func 64) #[] #[.pointer (some ⟨B, 0, none⟩)]] w fun e w' => ∃ r : Int, e = .returned (.int .i64 r) ∧ decide (0 ≤ r) = L.any (fun s => decide (f ≤ s)) ∧ w' = w := by
  have HA := Lib.hid hA
  have HCl := Lib.hid (fun s => belowDo_any s f B w h)
  have HM := Lib.hid hm
  clear hA h hm
  go_enter Try.func42, Try.ntmps42
  go_wp2
  go_loopw [8] (fun i wr => ∃ k : Nat, k ≤ m ∧ i = .int .i64 k ∧ Hid ((L.take k).any (fun s => decide (f ≤ s)) = false) ∧ wr = w) (fun i _ => m - (intOf i).toNat)
  case atStart => exact ⟨0, by omega, rfl, by simp [Hid], rfl⟩
  case round =>
    obtain ⟨k, hk, rfl, HI, rfl⟩ := hrel
    by_cases hlt : k < m
    · have hkl : k < L.length := by rw [HM.out]; exact hlt
      obtain ⟨s, hs⟩ : ∃ s, L[k] = s := ⟨_, rfl⟩
      rcases HA.out with h0 | ⟨b, o, rfl, hb, hc⟩
      · have : L = [] := by simpa [rowZ] using h0
        rw [this] at hkl; exact absurd hkl (by simp)
      have y0 : wr.cell? ⟨b, o + k, none⟩ = some (.int .i64 s) := hc k _ (by simp [rowZ, List.getElem?_eq_getElem hkl, hs])
      have HTk : Hid ((L.take (k + 1)).any (fun s => decide (f ≤ s)) = decide (f ≤ s)) := by
        rw [List.take_succ_eq_append_getElem hkl, List.any_append, HI.out, hs]; simp [Hid]
      have HTf : Hid (decide (f ≤ s) = true → L.any (fun s => decide (f ≤ s)) = true) := fun hf => by
        rw [List.any_eq_true]; exact ⟨_, List.getElem_mem hkl, by rw [hs]; exact hf⟩
      have HY := Lib.hid (HCl.out s)
      generalize decide (f ≤ s) = d at *
      clear hs hkl HI HCl HA hc
      go_wp2_with fail
      refine HY.out.mono ?_
      rintro e w2 ⟨rfl, rfl⟩
      clear HY
      cases d with
      | false =>
        go_wp2
        go_roundw
        case rel => exact ⟨k + 1, by omega, by go_num, HTk.out, by first | rfl | trivial⟩
        case measure => simp [intOf]; omega
      | true =>
        go_wp2
        go_ret
        exact ⟨k, rfl, by rw [HTf.out (by trivial)]; simp, rfl⟩
    · have HT : Hid (L.any (fun s => decide (f ≤ s)) = false) := by
        have := HI.out
        rwa [show k = m by omega, ← HM.out, List.take_length] at this
      go_wp2
      go_ret
      exact ⟨-1, rfl, by rw [HT.out]; rfl, rfl⟩

theorem conI_any (f : Int) (B : Nat) (L : List Int) (a : Option Addr) (m cap : Nat) (w : World) (hA : Arr w.heap.size w a (rowZ L)) (hm : L.length = m) (hcap : m ≤ cap) (hcm : cap ≤ 9223372036854775807) (h : w.cell? ⟨B, 0, none⟩ = some (.int .i64 f)) :
    Calls Try.prog 34 #[.slice a m cap, .func (.func 64) #[] #[.pointer (some ⟨B, 0, none⟩)]] w fun e w' => e = .returned (.bool (L.any (fun s => decide (f ≤ s)))) ∧ w' = w := by
  have HC := Lib.hid (idxI_any f B L a m cap w hA hm hcap hcm h)
  clear hA h hm
  generalize L.any (fun s => decide (f ≤ s)) = d at *
  go_enter Try.func34, Try.ntmps34
  go_wp2_with fail
  refine HC.out.mono ?_
  rintro e w1 ⟨r, rfl, hr, rfl⟩
  have HR := Lib.hid hr
  clear hr HC
  go_wp2
  go_ret
  exact ⟨ret_b HR.out, rfl⟩

/-- Does a node use slots below f alone? -/
def lowZ (f : Int) (x : Nx) : Bool := !(usedZ x).any fun s => decide (f ≤ s)
set_option maxHeartbeats 2000000 in
theorem isBelow_any (f : Int) (n : Nat) (x : NM) (W : World) (h : NdAt W.heap.size W n x) (hc : x.t.count ≤ 1000000) :
    Calls Try.prog 56 #[.agg #[.int .i64 x.t.lab.kd, .string x.t.lab.op, .int .u8 x.t.lab.v.k, .int .i64 x.t.lab.v.n, .string x.t.lab.v.s, .int .i64 x.t.lab.sl, .int .u8 (x.t.lab.ty : Int), .slice x.a x.t.args.length x.cap], .int .i64 f] W fun e w' => e = .returned (.bool (lowZ f x.t)) ∧ Below W.heap.size W w' := by
  have HX := Lib.hid (Slot8.new W 36 (.int .i64 x.t.lab.kd) (.string x.t.lab.op) (.int .u8 x.t.lab.v.k) (.int .i64 x.t.lab.v.n) (.string x.t.lab.v.s) (.int .i64 x.t.lab.sl) (.int .u8 (x.t.lab.ty : Int)) (.slice x.a x.t.args.length x.cap))
  obtain ⟨w0, hw0⟩ : ∃ w0, W.alloc (.cells #[.int .i64 x.t.lab.kd, .string x.t.lab.op, .int .u8 x.t.lab.v.k, .int .i64 x.t.lab.v.n, .string x.t.lab.v.s, .int .i64 x.t.lab.sl, .int .u8 (x.t.lab.ty : Int), .slice x.a x.t.args.length x.cap] 36) = w0 := ⟨_, rfl⟩
  have hb0 : Below W.heap.size W w0 := by rw [← hw0]; exact (Below.refl _ W).alloc (Nat.le_refl _) _
  have hs0 : w0.heap.size = W.heap.size + 1 := by rw [← hw0]; simp
  rw [hw0] at HX
  obtain ⟨B, hB⟩ : ∃ B, w0.heap.size = B := ⟨_, rfl⟩
  obtain ⟨w1, hw1⟩ : ∃ w1, w0.alloc (.cells #[.int .i64 f] 3) = w1 := ⟨_, rfl⟩
  have hV1 : Blk w1 B 3 #[.int .i64 f] := by rw [← hw1, ← hB]; exact Blk.new w0 _ _
  have hb1 : Below w0.heap.size w0 w1 := by rw [← hw1]; exact (Below.refl _ w0).alloc (Nat.le_refl _) _
  have HX1 := Lib.hid (HX.out.later (by omega) hb1)
  have HB1 : Hid (Below W.heap.size W w1) := hb0.trans (hb1.mono (by omega))
  have HY := Lib.hid (used_any n x w1 (h.later HB1.out) hc)
  rw [NM.nv_eq] at HY
  have HV := Lib.hid hV1
  clear h hc hV1 hb1 hb0 hs0
  obtain ⟨x0, x1, x2, x3, x4, x5, x6, x7⟩ := HX1.out
  go_enter Try.func56, Try.ntmps56
  go_wp2_with fail
  refine HY.out.mono ?_
  rintro e w2 ⟨v, rfl, hown, hb2⟩
  obtain ⟨a2, c2, rfl, hc1, hc2, hA⟩ := own_slice hown
  obtain ⟨m, hm⟩ : ∃ m, (usedZ x.t).length = m := ⟨_, rfl⟩
  have hcell : w2.cell? ⟨B, 0, none⟩ = some (.int .i64 f) := (Blk.cell (show Blk w2 B 3 #[.int .i64 f] from (hb2.block B HV.out.lt).trans HV.out) 0).trans rfl
  have HZ := Lib.hid (conI_any f B (usedZ x.t) a2 m c2 w2 hA hm (by omega) hc2 hcell)
  rw [hm]
  have HB2 := Lib.hid (HB1.out.trans (hb2.mono HB1.out.size))
  obtain ⟨d, hd⟩ : ∃ d, (usedZ x.t).any (fun s => decide (f ≤ s)) = d := ⟨_, rfl⟩
  have HD : Hid (lowZ f x.t = !d) := by unfold lowZ; rw [hd]; exact rfl
  rw [hd] at HZ
  clear hown hb2 hA hm hcell hd HY x0 x1 x2 x3 x4 x5 x6 x7
  go_wp2_with fail
  refine HZ.out.mono ?_
  rintro e w3 ⟨rfl, rfl⟩
  clear HZ
  go_wp2
  go_ret
  exact ⟨ret_b HD.out.symm, HB2.out⟩

/-- Is a node this operation of two arguments? -/
def binN (x : Nx) (op : List UInt8) : Bool := decide (x.lab.kd = 4) && (x.lab.op.toList == op) && decide (x.args.length = 2)
set_option maxHeartbeats 2000000 in
theorem pBin_any (x : NM) (op : ByteArray) (W : World) :
    Calls Try.prog 32 #[.agg #[.int .i64 x.t.lab.kd, .string x.t.lab.op, .int .u8 x.t.lab.v.k, .int .i64 x.t.lab.v.n, .string x.t.lab.v.s, .int .i64 x.t.lab.sl, .int .u8 (x.t.lab.ty : Int), .slice x.a x.t.args.length x.cap], .string op] W fun e w' => e = .returned (.bool (binN x.t op.toList)) ∧ Below W.heap.size W w' := by
  have HX := Lib.hid (Slot8.new W 36 (.int .i64 x.t.lab.kd) (.string x.t.lab.op) (.int .u8 x.t.lab.v.k) (.int .i64 x.t.lab.v.n) (.string x.t.lab.v.s) (.int .i64 x.t.lab.sl) (.int .u8 (x.t.lab.ty : Int)) (.slice x.a x.t.args.length x.cap))
  have HB0 : Hid (∀ o, Below W.heap.size W (W.alloc o)) := fun o => (Below.refl _ W).alloc (Nat.le_refl _) _
  obtain ⟨b1, h1⟩ : ∃ b, decide (x.t.lab.kd = 4) = b := ⟨_, rfl⟩
  obtain ⟨b2, h2⟩ : ∃ b, (x.t.lab.op.toList == op.toList) = b := ⟨_, rfl⟩
  obtain ⟨b3, h3⟩ : ∃ b, decide (x.t.args.length = 2) = b := ⟨_, rfl⟩
  have HV : Hid (binN x.t op.toList = (b1 && b2 && b3)) := by unfold binN; rw [h1, h2, h3]; exact rfl
  have q1 : (x.t.lab.kd == 4) = b1 := by rw [← h1, Bool.eq_iff_iff]; simp
  have q3 : ((x.t.args.length : Int) == 2) = b3 := by rw [← h3, Bool.eq_iff_iff]; simp; omega
  have q4 : (x.t.args.length == 2) = b3 := by rw [← h3, Bool.eq_iff_iff]; simp
  clear h1 h3
  obtain ⟨x0, x1, x2, x3, x4, x5, x6, x7⟩ := HX.out
  cases b1 <;> cases b2
  all_goals
    go_enter Try.func32, Try.ntmps32
    go_wp2
    go_ret
    exact ⟨ret_b (by first | (rw [HV.out]; rfl) | (rw [HV.out]; exact q3) | (rw [HV.out]; exact q4) | (rw [HV.out]; simp_all)), HB0.out _⟩
end Go.Proofs.Ytcepbindmdakkaa
