/- Several texts of one proof, one behind the other. -/
import Derived.Test.YtapbhhehnbfdfaaWPk21
import Derived.WalkMore
import Derived.Deep.QuietTactic
import Derived.BigQuiet
import Derived.WalkSmall
set_option linter.unusedSimpArgs false
set_option linter.unusedVariables false

/- The walk of typing.Slot. -/
set_option linter.unusedSimpArgs false
set_option linter.unusedVariables false
set_option maxRecDepth 100000
namespace Go.Proofs.Ytapbhhehnbfdfaa
open Go.RowKit

/-- The place of the last one that is meant; 0: none is. -/
def lastI {α : Type} (p : α → Bool) (l : List α) : Nat := (l.foldl (fun (s : Nat × Nat) x => (s.1 + 1, if p x then s.1 else s.2)) (0, 0)).2
theorem lastI_cnt {α : Type} (p : α → Bool) (l : List α) : (l.foldl (fun (s : Nat × Nat) x => (s.1 + 1, if p x then s.1 else s.2)) (0, 0)).1 = l.length := by
  have h : ∀ (l : List α) (a b : Nat), (l.foldl (fun (s : Nat × Nat) x => (s.1 + 1, if p x then s.1 else s.2)) (a, b)).1 = a + l.length := by
    intro l
    induction l with
    | nil => intro a b; rfl
    | cons x r ih => intro a b; rw [List.foldl_cons, ih, List.length_cons]; omega
  rw [h, Nat.zero_add]
theorem lastI_snoc {α : Type} (p : α → Bool) (l : List α) (x : α) : lastI p (l ++ [x]) = if p x then l.length else lastI p l := by
  unfold lastI
  rw [List.foldl_append, List.foldl_cons, List.foldl_nil, lastI_cnt]
/-- The slot, and an error. -/
def slotV {α : Type} (p : α → Bool) (l : List α) : Int × Int := if l.countP p = 1 then ((lastI p l : Int), 0) else (0, 31)

/-- The places of a scope: the source's name, and the column. -/
def plOf (L : List Sx) : List (ByteArray × Col) := L.flatMap fun x => (colsOf x.t).map fun c => (x.al, c)
theorem plOf_snoc (L : List Sx) (x : Sx) : plOf (L ++ [x]) = plOf L ++ (colsOf x.t).map fun c => (x.al, c) := by simp [plOf]
theorem plOf_all (L : List Sx) : (plOf L).map (·.2) = allOf L := by
  unfold plOf allOf
  induction L with
  | nil => rfl
  | cons x r ih => rw [List.flatMap_cons, List.flatMap_cons, List.map_append, ih, List.map_map, show ((fun p : ByteArray × Col => p.2) ∘ fun c => (x.al, c)) = id from rfl, List.map_id]
theorem plOf_len (L : List Sx) : (plOf L).length = (allOf L).length := by rw [← plOf_all, List.length_map]
def hitP (table name : ByteArray) (p : ByteArray × Col) : Bool := decide (p.2.nm = name) && (decide (table = ⟨#[]⟩) || decide (p.1 = table))
theorem toL_eq (a b : ByteArray) : (a.toList == b.toList) = decide (a = b) := by
  rw [Bool.eq_iff_iff, beq_iff_eq, decide_eq_true_eq]
  exact ⟨toList_inj, fun h => by rw [h]⟩

/-- What is known behind some places. -/
structure SlI (p : (ByteArray × Col) → Bool) (l : List (ByteArray × Col)) (nx fd sl : Nat) : Prop where
  n : nx = l.length
  f : fd = l.countP p
  s : sl = lastI p l
theorem SlI.nil (p : (ByteArray × Col) → Bool) : SlI p [] 0 0 0 := ⟨rfl, rfl, rfl⟩
theorem SlI.yes {p : (ByteArray × Col) → Bool} {l : List (ByteArray × Col)} {nx fd sl : Nat} {x : ByteArray × Col} (h : SlI p l nx fd sl) (hx : p x = true) : SlI p (l ++ [x]) (nx + 1) (fd + 1) nx :=
  ⟨by rw [h.n]; simp, by rw [h.f, List.countP_append, List.countP_cons, hx]; simp, by rw [lastI_snoc, hx, h.n]; rfl⟩
theorem SlI.no {p : (ByteArray × Col) → Bool} {l : List (ByteArray × Col)} {nx fd sl : Nat} {x : ByteArray × Col} (h : SlI p l nx fd sl) (hx : p x = false) : SlI p (l ++ [x]) (nx + 1) fd sl :=
  ⟨by rw [h.n]; simp, by rw [h.f, List.countP_append, List.countP_cons, hx]; simp, by rw [lastI_snoc, hx, h.s]; rfl⟩

end Go.Proofs.Ytapbhhehnbfdfaa

/- Rows that grow: where the new one lies; trees that lie in blocks of a kind. -/
set_option linter.unusedSimpArgs false
set_option linter.unusedVariables false
set_option maxRecDepth 100000
namespace Go.Proofs.Ytapbhhehnbfdfaa
open Go.RowKit

section
variable {P : Program}
/-- A row that has grown lies where it lay, or in a new block. -/
theorem append_fresh (w : World) (base : Nat) (t ty e : TypeId) (i : TypeInfo) (z : Value) (size bytes : Nat) (ht : P.underlying t = some (.slice e)) (hi : P.info? e = some i) (hz : i.zero = some z)
    (hsize : i.size = size) (hby : i.bytes = bytes) (hzs : z.cells.size = size) (hsz : 0 < size)
    (v : Value) (n : Nat) (xs : List Value) (hown : w.ownsRow base e size v n xs)
    (a : Addr) (m c : Nat) (news : List Value) (hl : news.length = m * size) (hnews : ∀ j u, news[j]? = some u → w.cell? (a.add j) = some u) (h1 : ∀ u ∈ news, u.oneCell' = true)
    (h63 : n + m ≤ maxLen) (hbytes : (n + m) * bytes ≤ 140737488355328) (v' : Value) (w' : World) (hr : (Builtin.append_ #[t, t] ty #[v, .slice (some a) m c]).run P w = .ok v' w') :
    v'.ownBlock = v.ownBlock ∨ ∀ g, v'.ownBlock = some g → w.heap.size ≤ g := by
  have hsmall : n + m ≤ 9223372036854775807 := by simp only [maxLen] at h63; omega
  rcases hown.2 with ⟨rfl, rfl⟩ | ⟨g, cap, cur, rfl, hbg, hg, hnc, hcm, hcs, htake⟩
  · right
    have h0 : w.ownsRow w.heap.size e size (.slice none 0 0) 0 xs := ⟨hown.1, .inl ⟨rfl, rfl⟩⟩
    obtain ⟨v2, w2, hr2, h2, _, _⟩ := run_append_own (P := P) w w.heap.size t ty e i z size bytes ht hi hz hsize hby hzs hsz _ 0 xs h0 a m c news hl hnews h1 h63 hbytes (Nat.le_refl _)
    rw [hr] at hr2
    injection hr2 with e1 e2
    subst e1 e2
    exact fun g hg => (h2.lt g hg).1
  · subst hsize
    by_cases hroom : n + m ≤ cap
    · left
      have hr2 := run_append_room (P := P) w t ty e i ht hi g n cap cur hg a m c news hl hnews h1 hroom (by rw [hl, hcs, ← Nat.add_mul]; exact Nat.mul_le_mul_right _ hroom)
      rw [hr] at hr2
      injection hr2 with e1 e2
      rw [e1]; rfl
    · right
      have holds : ∀ j u, xs[j]? = some u → w.cell? ((⟨g, 0, none⟩ : Addr).add j) = some u := hown.cells (g := g) rfl
      have hr2 := run_append_grow (P := P) w t ty e i z ht hi hz ⟨g, 0, none⟩ n cap xs hown.1 holds a m c news hl hnews (by omega) (by omega) (growslice_fits (by omega) (by rw [hby]; exact hbytes))
      rw [hr] at hr2
      injection hr2 with e1 e2
      rw [e1]
      intro g' hg'
      simp [Value.ownBlock] at hg'
      omega

/-- 'append(s, x..)', m values just laid in a block of their own: one operation; where the row lies behind it. -/
theorem wp_appF {o : Oper} {a : Act} {K : Act → World → Prop} {Q : Exit → Act → World → Prop} (s x : Operand) (t : TypeId)
    (ho : o.op = .call { callee := .builtin .append, args := #[s, x], argTypes := #[t, t] })
    (base : Nat) (e : TypeId) (i : TypeInfo) (zr : Value) (z bytes m : Nat) (ht : P.underlying t = some (.slice e)) (hi : P.info? e = some i) (hz : i.zero = some zr) (hzs : zr.cells.size = z)
    (hsize : i.size = z) (hz0 : 0 < z) (hby : i.bytes = bytes) (hb1000 : bytes ≤ 1000)
    (v : Value) (n : Nat) (l news : List Value) (w : World) (hown : w.ownsRow base e z v n l) (hs : a.eval s = v) (cs : Array Value) (hcs : cs = news.toArray) (hl : news.length = m * z) (h1 : ∀ u ∈ news, u.oneCell' = true)
    (hx : a.eval x = .slice (some ⟨w.heap.size, 0, none⟩) m m) (hlen : n + m < 100000000000) (hbase : base ≤ w.heap.size)
    (h : ∀ v' w', w'.ownsRow base e z v' (n + m) (l ++ news) → Chg v.ownBlock.toList (w.alloc (.cells cs e)) w' → w.heap.size < w'.heap.size → (v'.ownBlock = v.ownBlock ∨ ∀ g, v'.ownBlock = some g → w.heap.size < g) → K (a.put o.dst v') w') :
    o.wp P a (w.alloc (.cells cs e)) K Q := by
  subst hcs
  have hnews : ∀ j u, news[j]? = some u → (w.alloc (.cells news.toArray e)).cell? ((⟨w.heap.size, 0, none⟩ : Addr).add j) = some u := by
    intro j u hj
    have e0 : (⟨w.heap.size, 0, none⟩ : Addr).add j = ⟨w.heap.size, j, none⟩ := by
      unfold Addr.add; split <;> simp_all
    rw [e0, World.cell?_alloc_at _ _ _ _ rfl]
    simpa using hj
  have h63 : n + m ≤ maxLen := by unfold maxLen; omega
  have hbs : (n + m) * bytes ≤ 140737488355328 := by
    have : (n + m) * bytes ≤ 100000000000 * 1000 := Nat.mul_le_mul (by omega) hb1000
    omega
  have ho2 := World.ownsRow.alloc hown (.cells news.toArray e)
  obtain ⟨v', w', hrun, h2, h3, _⟩ := run_append_own (P := P) (w.alloc (.cells news.toArray e)) base t o.type e i zr z bytes ht hi hz hsize hby hzs hz0 v n l ho2 ⟨w.heap.size, 0, none⟩ m m news hl hnews h1 h63 hbs (by simp; omega)
  have hfr := append_fresh (P := P) (w.alloc (.cells news.toArray e)) base t o.type e i zr z bytes ht hi hz hsize hby hzs hz0 v n l ho2 ⟨w.heap.size, 0, none⟩ m m news hl hnews h1 h63 hbs v' w' hrun
  unfold Oper.wp execOp
  simp only [ho, resolve, invoke, builtin, Sem.run_bind, Sem.run_pure, Result.andThen_ok, List.map_toArray, List.map_cons, List.map_nil, hs, hx, hrun]
  have hsz := h3.size
  refine h v' w' h2 ⟨h3.os, h3.tape, h3.output, h3.size, fun k hk hn => h3.block k hk (by intro he; apply hn; rw [Option.mem_toList]; exact he.symm)⟩ (by simp at hsz; omega) ?_
  rcases hfr with hfr | hfr
  · exact .inl hfr
  · exact .inr fun g hg => by have := hfr g hg; simp at this; omega
theorem wpList_appF {ops : Array Oper} {rest : List Oper} {o : Oper} {a : Act} {Q : Exit → Act → World → Prop} (hgd : o.guard = none) (s x : Operand) (t : TypeId)
    (ho : o.op = .call { callee := .builtin .append, args := #[s, x], argTypes := #[t, t] })
    (base : Nat) (e : TypeId) (i : TypeInfo) (zr : Value) (z bytes m : Nat) (ht : P.underlying t = some (.slice e)) (hi : P.info? e = some i) (hz : i.zero = some zr) (hzs : zr.cells.size = z)
    (hsize : i.size = z) (hz0 : 0 < z) (hby : i.bytes = bytes) (hb1000 : bytes ≤ 1000)
    (v : Value) (n : Nat) (l news : List Value) (w : World) (hown : w.ownsRow base e z v n l) (hs : a.eval s = v) (cs : Array Value) (hcs : cs = news.toArray) (hl : news.length = m * z) (h1 : ∀ u ∈ news, u.oneCell' = true)
    (hx : a.eval x = .slice (some ⟨w.heap.size, 0, none⟩) m m) (hlen : n + m < 100000000000) (hbase : base ≤ w.heap.size)
    (h : ∀ v' w', w'.ownsRow base e z v' (n + m) (l ++ news) → Chg v.ownBlock.toList (w.alloc (.cells cs e)) w' → w.heap.size < w'.heap.size → (v'.ownBlock = v.ownBlock ∨ ∀ g, v'.ownBlock = some g → w.heap.size < g) → wpList P ops Q rest (a.put o.dst v') w') :
    wpList P ops Q (o :: rest) a (w.alloc (.cells cs e)) :=
  wpList_plain hgd fun _ hK => wp_appF s x t ho base e i zr z bytes m ht hi hz hzs hsize hz0 hby hb1000 v n l news w hown hs cs hcs hl h1 hx hlen hbase fun v' w' h2 h3 h4 h5 => hK _ _ (h v' w' h2 h3 h4 h5)
end

/-- The address leads to the cells vs, in a block of which p holds. -/
def ArrIn (p : Nat → Prop) (w : World) (a : Option Addr) (vs : List Value) : Prop :=
  vs = [] ∨ ∃ b o, a = some ⟨b, o, none⟩ ∧ p b ∧ ∀ (i : Nat) (v : Value), vs[i]? = some v → w.cell? ⟨b, o + i, none⟩ = some v
theorem ArrIn.imp {p q : Nat → Prop} (h : ∀ b, p b → q b) {w : World} {a : Option Addr} {vs : List Value} (hA : ArrIn p w a vs) : ArrIn q w a vs := by
  rcases hA with h0 | ⟨b, o, ha, hp, hc⟩
  · exact .inl h0
  · exact .inr ⟨b, o, ha, h b hp, hc⟩
theorem ArrIn.keep {p : Nat → Prop} {w w' : World} (h : ∀ b, p b → w'.heap[b]? = w.heap[b]?) {a : Option Addr} {vs : List Value} (hA : ArrIn p w a vs) : ArrIn p w' a vs := by
  rcases hA with h0 | ⟨b, o, ha, hp, hc⟩
  · exact .inl h0
  · exact .inr ⟨b, o, ha, hp, fun i v hi => (World.cell?_of_block (w := w) (a := ⟨b, o + i, none⟩) (h b hp)).trans (hc i v hi)⟩
theorem ArrIn.arr {N : Nat} {w : World} {a : Option Addr} {vs : List Value} (h : ArrIn (· < N) w a vs) : Arr N w a vs := h

section
variable {α : Type} {F : α → Prop} {c : α → List Value}
/-- The tree lies in blocks of which p holds. -/
def RoseIn (F : α → Prop) (c : α → List Value) (p : Nat → Prop) (w : World) : Nat → RM α → Prop
  | 0, _ => False
  | n + 1, x => F x.t.lab ∧ x.t.args.length ≤ x.cap ∧ x.cap ≤ 9223372036854775807 ∧
      ∃ L : List (RM α), L.map (·.t) = x.t.args ∧ ArrIn p w x.a (cellsOf (cellsR c) L) ∧ ∀ y ∈ L, RoseIn F c p w n y
theorem RoseIn.imp {p q : Nat → Prop} (h : ∀ b, p b → q b) {w : World} : ∀ {n : Nat} {x : RM α}, RoseIn F c p w n x → RoseIn F c q w n x
  | 0, _, h0 => h0.elim
  | _ + 1, _, ⟨h1, h2, h3, L, h4, h5, h6⟩ => ⟨h1, h2, h3, L, h4, h5.imp h, fun y hy => RoseIn.imp h (h6 y hy)⟩
theorem RoseIn.keep {p : Nat → Prop} {w w' : World} (h : ∀ b, p b → w'.heap[b]? = w.heap[b]?) : ∀ {n : Nat} {x : RM α}, RoseIn F c p w n x → RoseIn F c p w' n x
  | 0, _, h0 => h0.elim
  | _ + 1, _, ⟨h1, h2, h3, L, h4, h5, h6⟩ => ⟨h1, h2, h3, L, h4, h5.keep h, fun y hy => RoseIn.keep h (h6 y hy)⟩
theorem RoseIn.at_ {N : Nat} {w : World} : ∀ {n : Nat} {x : RM α}, RoseIn F c (· < N) w n x → RoseAt F c N w n x
  | 0, _, h0 => h0.elim
  | _ + 1, _, ⟨h1, h2, h3, L, h4, h5, h6⟩ => ⟨h1, h2, h3, L, h4, h5, fun y hy => RoseIn.at_ (h6 y hy)⟩
theorem RoseIn.of_at {N : Nat} {w : World} : ∀ {n : Nat} {x : RM α}, RoseAt F c N w n x → RoseIn F c (· < N) w n x
  | 0, _, h0 => h0.elim
  | _ + 1, _, ⟨h1, h2, h3, L, h4, h5, h6⟩ => ⟨h1, h2, h3, L, h4, h5, fun y hy => RoseIn.of_at (h6 y hy)⟩
end
/-- An expression in blocks of which p holds. -/
def XIn (p : Nat → Prop) (w : World) (n : Nat) (x : XM) : Prop := RoseIn Lb.fair Lb.cells p w n x
theorem XIn.imp {p q : Nat → Prop} (h : ∀ b, p b → q b) {w : World} {n : Nat} {x : XM} (hx : XIn p w n x) : XIn q w n x := RoseIn.imp h hx
theorem XIn.keep {p : Nat → Prop} {w w' : World} (h : ∀ b, p b → w'.heap[b]? = w.heap[b]?) {n : Nat} {x : XM} (hx : XIn p w n x) : XIn p w' n x := RoseIn.keep h hx
theorem XIn.at_ {N : Nat} {w : World} {n : Nat} {x : XM} (hx : XIn (· < N) w n x) : XAt N w n x := RoseIn.at_ hx
end Go.Proofs.Ytapbhhehnbfdfaa

/- A row of expressions that grows, each with arguments of its own. -/
set_option linter.unusedSimpArgs false
set_option linter.unusedVariables false
set_option maxRecDepth 100000
namespace Go.Proofs.Ytapbhhehnbfdfaa
open Go.RowKit

structure KidsIn (lo : Nat) (W : World) (T : TypeId) (n : Nat) (cv : Value) (L : List XM) : Prop where
  row : W.ownsRow lo T 8 cv L.length (cellsOf cellsX L)
  kid : ∀ y ∈ L, XIn (fun b => lo ≤ b ∧ b < W.heap.size ∧ cv.ownBlock ≠ some b) W n y
theorem KidsIn.nil (lo : Nat) (W : World) (T : TypeId) (n : Nat) : KidsIn lo W T n (.slice none 0 0) [] := ⟨World.ownsRow_nil _ _ _ _, fun y hy => by cases hy⟩

theorem KidsIn.keep {lo : Nat} {W W' : World} {T : TypeId} {n : Nat} {cv : Value} {L : List XM} (h : KidsIn lo W T n cv L) (hs : W.heap.size ≤ W'.heap.size) (hk : ∀ b, lo ≤ b → b < W.heap.size → W'.heap[b]? = W.heap[b]?) : KidsIn lo W' T n cv L := by
  refine ⟨own_keep h.row fun g hg => hk g (h.row.lt g hg).1 (own_lt h.row hg), fun y hy => ?_⟩
  exact ((h.kid y hy).keep (fun b hb => hk b hb.1 hb.2.1)).imp fun b hb => ⟨hb.1, by omega, hb.2.2⟩

theorem KidsIn.add {lo : Nat} {W w2 w5 : World} {T : TypeId} {n : Nat} {cv v5 : Value} {L : List XM} {y : XM} (h : KidsIn lo W T n cv L) (hs : W.heap.size ≤ w2.heap.size) (hk : ∀ b, lo ≤ b → b < W.heap.size → w2.heap[b]? = W.heap[b]?) (hlo : lo ≤ W.heap.size)
    (hy : XIn (fun b => W.heap.size ≤ b ∧ b < w2.heap.size) w2 n y) (hr : w5.ownsRow lo T 8 v5 (L.length + 1) (cellsOf cellsX L ++ cellsX y)) {o : Obj} (hc : Chg cv.ownBlock.toList (w2.alloc o) w5) (hf : v5.ownBlock = cv.ownBlock ∨ ∀ g, v5.ownBlock = some g → w2.heap.size < g) :
    KidsIn lo w5 T n v5 (L ++ [y]) := by
  have hsz := hc.size
  simp at hsz
  have hold : ∀ b, b < w2.heap.size → cv.ownBlock ≠ some b → w5.heap[b]? = w2.heap[b]? := fun b hb hn =>
    (hc.block b (by simp; omega) (by rw [Option.mem_toList]; exact hn)).trans (Below.heap_alloc w2 o b hb)
  have hown : ∀ g, cv.ownBlock = some g → g < W.heap.size := fun g hg => own_lt h.row hg
  refine ⟨by rw [List.length_append]; exact (cellsOf_snoc cellsX L y).symm ▸ hr, fun z hz => ?_⟩
  rcases List.mem_append.1 hz with hz | hz
  · have hz2 := h.kid z hz
    refine (hz2.keep (w' := w5) (fun b hb => (hold b (by omega) hb.2.2).trans (hk b hb.1 hb.2.1))).imp fun b hb => ⟨hb.1, by omega, ?_⟩
    rcases hf with hf | hf
    · rw [hf]; exact hb.2.2
    · intro hg; have := hf b hg; omega
  · rw [List.mem_singleton.1 hz]
    refine (hy.keep (w' := w5) (fun b hb => hold b hb.2 (fun hg => by have := hown b hg; omega))).imp fun b hb => ⟨by omega, by omega, ?_⟩
    rcases hf with hf | hf
    · rw [hf]; intro hg; have := hown b hg; omega
    · intro hg; have := hf b hg; omega

theorem KidsIn.tree {lo : Nat} {W : World} {T : TypeId} {n : Nat} {cv : Value} {L : List XM} (h : KidsIn lo W T n cv L) (l : Lb) (hl : l.fair) :
    ∃ ac cc, cv = .slice ac L.length cc ∧ XIn (fun b => lo ≤ b ∧ b < W.heap.size) W (n + 1) ⟨.mk l (L.map (·.t)), ac, cc⟩ := by
  obtain ⟨h1, h2⟩ := h.row
  rcases h2 with ⟨rfl, hn⟩ | ⟨g, cap, cur, rfl, hg, hh, hnc, hcm, hcs, hcur⟩
  · have hL : L = [] := List.length_eq_zero_iff.1 hn
    subst hL
    exact ⟨none, 0, rfl, hl, by simp [Rose.args], by simp, [], rfl, .inl rfl, fun y hy => by cases hy⟩
  · have hglt : g < W.heap.size := (Array.getElem?_eq_some_iff.1 hh).1
    refine ⟨_, cap, rfl, hl, by simpa [Rose.args] using hnc, by unfold maxLen at hcm; simp only; omega, L, rfl, .inr ⟨g, 0, rfl, ⟨hg, hglt⟩, fun i v hi => ?_⟩, fun y hy => (h.kid y hy).imp fun b hb => ⟨hb.1, hb.2.1⟩⟩
    have e1 : (cur.toList.take (L.length * 8))[i]? = some v := by rw [hcur]; exact hi
    rw [List.getElem?_take] at e1
    split at e1
    · simp only [World.cell?, hh, Nat.zero_add]
      simpa using e1
    · simp at e1

/-- What a call hands back: an expression in memory of its own. -/
def RetX (w : World) (n : Nat) (t : Ex) (e : Ending) (w' : World) : Prop :=
  ∃ y : XM, e = .returned (.agg #[.int .i64 y.t.lab.kd, .int .u8 y.t.lab.v.k, .int .i64 y.t.lab.v.n, .string y.t.lab.v.s, .string y.t.lab.tb, .string y.t.lab.nm, .string y.t.lab.op, .slice y.a y.t.args.length y.cap]) ∧ y.t = t ∧ XIn (fun b => w.heap.size ≤ b ∧ b < w'.heap.size) w' n y ∧ Below w.heap.size w w'

theorem results_cell1x {P : Program} {fn : Func} {p : Tmp} {ty : TypeId} (h : fn.results = #[.cell p ty]) (tmps : Array Value) (w : World) {ad : Addr} {v : Value}
    (hp : tmps.getD p undef = .pointer (some ad)) (hl : (loadVar ty ad).run P w = .ok v w) : (results fn tmps).run P w = .ok v w := by
  have hp' : tmps[p]?.getD undef = .pointer (some ad) := by simpa using hp
  simp [results, h, hp', asAddr, hl]
end Go.Proofs.Ytapbhhehnbfdfaa

/- A region that draws its order, walked along a tree of orders: as Ord's, but where two operations may come up at once both ways are walked. -/
set_option linter.unusedSimpArgs false
set_option linter.unusedVariables false
set_option maxRecDepth 100000
namespace Go.Proofs.Ytapbhhehnbfdfaa
open Go.RowKit

theorem undrewL {a w : World} (h : Later a.drew w) : Later a w := ⟨h.os, h.tape, h.output, h.size, h.block⟩

/-- A tree of orders. -/
inductive OT where
  | nil : OT
  | free : Nat → OT → OT
  | one : Nat → OT → OT
  | two : Nat → Nat → OT → OT → OT
  | three : Nat → Nat → Nat → OT → OT → OT → OT

section
variable {P : Program} {ops : Array Oper} {Q : Exit → Act → World → Prop} {md : Region.Mode}

def wpT (P : Program) (ops : Array Oper) (Q : Exit → Act → World → Prop) (L : World → World → Prop) : OT → Act → World → Prop
  | .nil, a, w => Q .normal a w
  | .free i r, a, w => ∃ o v, ops[i]? = some o ∧ YieldsIf P ops (L w) o v a ∧ wpT P ops Q L r (a.put o.dst v) w
  | .one i r, a, w => wpOp P ops Q i (fun a' w' => L w w' ∧ wpT P ops Q L r a' w') a w
  | .two i j r s, a, w => wpOp P ops Q i (fun a' w' => L w w' ∧ wpT P ops Q L r a' w') a w ∧ wpOp P ops Q j (fun a' w' => L w w' ∧ wpT P ops Q L s a' w') a w
  | .three i j k r s t, a, w => wpOp P ops Q i (fun a' w' => L w w' ∧ wpT P ops Q L r a' w') a w ∧ wpOp P ops Q j (fun a' w' => L w w' ∧ wpT P ops Q L s a' w') a w ∧ wpOp P ops Q k (fun a' w' => L w w' ∧ wpT P ops Q L t a' w') a w

def OT.high : OT → Nat
  | .nil => 0
  | .free _ r => r.high + 1
  | .one _ r => r.high + 1
  | .two _ _ r s => max r.high s.high + 1
  | .three _ _ _ r s t => max r.high (max s.high t.high) + 1

def checkT (md : Region.Mode) (ops : Array Oper) : OT → Array Bool → Bool
  | .nil, l => Region.ready md ops l == []
  | .free i r, l => Region.free md ops l i && (Region.ready md ops l).contains i && checkT md ops r (l.setIfInBounds i true)
  | .one i r, l => Region.ready md ops l == [i] && checkT md ops r (l.setIfInBounds i true)
  | .two i j r s, l => Region.ready md ops l == [i, j] && checkT md ops r (l.setIfInBounds i true) && checkT md ops s (l.setIfInBounds j true)
  | .three i j k r s t, l => Region.ready md ops l == [i, j, k] && checkT md ops r (l.setIfInBounds i true) && checkT md ops s (l.setIfInBounds j true) && checkT md ops t (l.setIfInBounds k true)

theorem wpT_sound {L : World → World → Prop} (Lr : ∀ w, L w w) (Lt : ∀ {a b c}, L a b → L b c → L a c) (hs : Region.noSelect ops = true) (hQ : ∀ c (a : Act) d v w, Q (.panic c) (a.put d v) w → Q (.panic c) a w) :
    ∀ (t : OT) (fuel : Nat) (listed : Array Bool) (a : Act) (w : World), t.high ≤ fuel → checkT md ops t listed = true → wpT P ops Q L t a w → wpAnyH P md ops Q (L w) fuel listed a w
  | .nil, fuel, listed, a, w, _, hc, h => wpAnyH_done (by simpa [checkT] using hc) h fuel
  | .free i r, fuel, listed, a, w, hf, hc, h => by
    obtain ⟨o, v, ho, hy, h⟩ := h
    simp only [checkT, Bool.and_eq_true] at hc
    cases fuel with
    | zero => simp [OT.high] at hf
    | succ fuel =>
      exact wpAnyH_take ho hs hc.1.1 hc.1.2 (fun c a w => hQ c a o.dst v w) hy (Lr w) (wpT_sound Lr Lt hs hQ r fuel _ _ w (by simpa [OT.high] using hf) hc.2 h)
  | .one i r, fuel, listed, a, w, hf, hc, h => by
    simp only [checkT, Bool.and_eq_true, beq_iff_eq] at hc
    cases fuel with
    | zero => simp [OT.high] at hf
    | succ fuel =>
      refine wpAnyH_all (rs := [i]) hc.1 (by simp) ?_
      intro j hj
      rw [List.mem_singleton.1 hj]
      exact wpOp_mono (fun a' w' h' => ⟨h'.1, wpAnyH_stronger (fun x hx => Lt h'.1 hx) fuel _ _ _ (wpT_sound Lr Lt hs hQ r fuel _ a' w' (by simpa [OT.high] using hf) hc.2 h'.2)⟩) h
  | .two i j r s, fuel, listed, a, w, hf, hc, h => by
    simp only [checkT, Bool.and_eq_true, beq_iff_eq] at hc
    cases fuel with
    | zero => simp [OT.high] at hf
    | succ fuel =>
      refine wpAnyH_all (rs := [i, j]) hc.1.1 (by simp) ?_
      have hf1 : r.high ≤ fuel ∧ s.high ≤ fuel := by simp [OT.high] at hf; omega
      intro k hk
      rcases List.mem_cons.1 hk with hk | hk
      · rw [hk]
        exact wpOp_mono (fun a' w' h' => ⟨h'.1, wpAnyH_stronger (fun x hx => Lt h'.1 hx) fuel _ _ _ (wpT_sound Lr Lt hs hQ r fuel _ a' w' hf1.1 hc.1.2 h'.2)⟩) h.1
      · rw [List.mem_singleton.1 hk]
        exact wpOp_mono (fun a' w' h' => ⟨h'.1, wpAnyH_stronger (fun x hx => Lt h'.1 hx) fuel _ _ _ (wpT_sound Lr Lt hs hQ s fuel _ a' w' hf1.2 hc.2 h'.2)⟩) h.2
  | .three i j k r s t, fuel, listed, a, w, hf, hc, h => by
    simp only [checkT, Bool.and_eq_true, beq_iff_eq] at hc
    cases fuel with
    | zero => simp [OT.high] at hf
    | succ fuel =>
      refine wpAnyH_all (rs := [i, j, k]) hc.1.1.1 (by simp) ?_
      have hf1 : r.high ≤ fuel ∧ s.high ≤ fuel ∧ t.high ≤ fuel := by simp [OT.high] at hf; omega
      intro x hx
      rcases List.mem_cons.1 hx with hx | hx
      · rw [hx]
        exact wpOp_mono (fun a' w' h' => ⟨h'.1, wpAnyH_stronger (fun x hx => Lt h'.1 hx) fuel _ _ _ (wpT_sound Lr Lt hs hQ r fuel _ a' w' hf1.1 hc.1.1.2 h'.2)⟩) h.1
      rcases List.mem_cons.1 hx with hx | hx
      · rw [hx]
        exact wpOp_mono (fun a' w' h' => ⟨h'.1, wpAnyH_stronger (fun x hx => Lt h'.1 hx) fuel _ _ _ (wpT_sound Lr Lt hs hQ s fuel _ a' w' hf1.2.1 hc.1.2 h'.2)⟩) h.2.1
      · rw [List.mem_singleton.1 hx]
        exact wpOp_mono (fun a' w' h' => ⟨h'.1, wpAnyH_stronger (fun x hx => Lt h'.1 hx) fuel _ _ _ (wpT_sound Lr Lt hs hQ t fuel _ a' w' hf1.2.2 hc.2 h'.2)⟩) h.2.2

/-- The beginning, where blocks S may be written. -/
theorem wp_region_tree {id : Nat} {a : Act} {w : World} (S : List Nat) (t : OT) (hm : P.follows .mixedOrders = true) (hs : Region.noSelect ops = true)
    (hl : decide (t.high ≤ ops.size) = true) (hc : checkT .any ops t (Array.replicate ops.size false) = true) (h : wpT P ops (NoPanic Q) (Chg S) t a w.drew) : (Code.region id ops true).wp P Q a w :=
  wp_region_noPanic (wp_region_held hm (wpT_sound (Chg.refl S) Chg.trans hs (NoPanic.put Q) t ops.size _ a w.drew (of_decide_eq_true hl) hc h))

variable {L : World → World → Prop}
theorem wpT_nil {a : Act} {w : World} (h : Q .normal a w) : wpT P ops (NoPanic Q) L .nil a w := h
theorem wpT_F {i : Nat} {r : OT} {a : Act} {w : World} {o : Oper} {v : Value} (ho : nth ops.toList i = some o) (hw : Region.wanted o (yielded ops a.tmps) = true)
    (hv : ∀ w', L w w' → (execOp a.eval o).run P w' = .ok (.value v) w') (h : wpT P ops Q L r (a.put o.dst v) w) : wpT P ops Q L (.free i r) a w :=
  ⟨o, v, nth_ops ho, .inl ⟨hw, hv⟩, h⟩
theorem wpT_G {i : Nat} {r : OT} {a : Act} {w : World} {o : Oper} (ho : nth ops.toList i = some o) (hw : Region.wanted o (yielded ops a.tmps) = false)
    (h : wpT P ops Q L r (a.put o.dst undef) w) : wpT P ops Q L (.free i r) a w :=
  ⟨o, undef, nth_ops ho, .inr ⟨hw, rfl⟩, h⟩
theorem wpT_skip (Lr : ∀ w, L w w) {i : Nat} {r : OT} {a : Act} {w : World} {o : Oper} (ho : nth ops.toList i = some o) (hw : Region.wanted o (yielded ops a.tmps) = false)
    (h : wpT P ops Q L r (a.put o.dst undef) w) : wpT P ops Q L (.one i r) a w := by
  show wpOp P ops Q i _ a w
  unfold wpOp
  simp only [nth_ops ho, hw]
  exact ⟨Lr w, h⟩
theorem wpT_C {i : Nat} {r : OT} {a : Act} {w : World} {o : Oper} (ho : nth ops.toList i = some o) (hw : Region.wanted o (yielded ops a.tmps) = true)
    (h : o.wp P a w (fun a' w' => L w w' ∧ wpT P ops Q L r a' w') Q) : wpT P ops Q L (.one i r) a w := by
  show wpOp P ops Q i _ a w
  unfold wpOp
  simp only [nth_ops ho, hw]
  exact .inl h
theorem wpT_two {i j : Nat} {r s : OT} {a : Act} {w : World} (h1 : wpT P ops Q L (.one i r) a w) (h2 : wpT P ops Q L (.one j s) a w) : wpT P ops Q L (.two i j r s) a w := ⟨h1, h2⟩
theorem wpT_three {i j k : Nat} {r s t : OT} {a : Act} {w : World} (h1 : wpT P ops Q L (.one i r) a w) (h2 : wpT P ops Q L (.one j s) a w) (h3 : wpT P ops Q L (.one k t) a w) : wpT P ops Q L (.three i j k r s t) a w := ⟨h1, h2, h3⟩
end
attribute [irreducible] wpT
end Go.Proofs.Ytapbhhehnbfdfaa

/- A region that draws its order, walked along a tree of orders, at whose end come operations X, in any order, that may write what the others read. -/
set_option linter.unusedSimpArgs false
set_option linter.unusedVariables false
set_option maxRecDepth 100000
namespace Go.Proofs.Ytapbhhehnbfdfaa
open Go.RowKit

/-- A tree of orders with a tail. -/
inductive OL where
  | nil : OL
  | free : Nat → OL → OL
  | one : Nat → OL → OL
  | two : Nat → Nat → OL → OL → OL
  | last : Nat → OL → OL
  | lasts : Nat → Nat → OL → OL → OL

section
variable {P : Program} {ops : Array Oper} {Q : Exit → Act → World → Prop} {md : Region.Mode}

/-- Whatever order is picked; S holds behind each operation but those of X. -/
def wpAnyL (P : Program) (md : Region.Mode) (ops : Array Oper) (Q : Exit → Act → World → Prop) (X : List Nat) (S : World → Prop) : Nat → Array Bool → Act → World → Prop
  | 0, l, a, w => Region.ready md ops l = [] ∧ Q .normal a w
  | n + 1, l, a, w => (Region.ready md ops l = [] → Q .normal a w) ∧
      ∀ i, i ∈ Region.ready md ops l → wpOp P ops Q i (fun a' w' => (i ∉ X → S w') ∧ wpAnyL P md ops Q X S n (l.setIfInBounds i true) a' w') a w

theorem wpAny_of_L {X : List Nat} {S : World → Prop} : ∀ (n : Nat) (l : Array Bool) (a : Act) (w : World), wpAnyL P md ops Q X S n l a w → wpAny P md ops Q n l a w
  | 0, _, _, _, h => h
  | n + 1, _, _, _, h => ⟨h.1, fun i hi => wpOp_mono (fun a' w' h' => wpAny_of_L n _ a' w' h'.2) (h.2 i hi)⟩

theorem wpAnyL_first {X : List Nat} {i : Nat} {S : World → Prop} {oi : Oper} {v : Value} (hi : ops[i]? = some oi) (hsel : ∀ (j : Nat) (o : Oper) cs b, ops[j]? = some o → o.op ≠ .select cs b)
    (hQ : ∀ c (a : Act) w, Q (.panic c) (a.put oi.dst v) w → Q (.panic c) a w) (m : Nat) (hxi : ∀ x ∈ X, waitsN md ops i m x = true) :
    ∀ (n : Nat) (l : Array Bool) (a : Act) (w : World), Closed md ops l →
      (∀ j oj, ops[j]? = some oj → j ≠ i → l.getD j true = false → (∀ e ∈ oj.after, Region.binds md e = true → e.on ≠ i) → oi.apart ops oj = true) →
      i ∈ Region.ready md ops l → YieldsIf P ops S oi v a → S w →
      wpAnyL P md ops Q X S n (l.setIfInBounds i true) (a.put oi.dst v) w → wpAnyL P md ops Q X S (n + 1) l a w
  | n, l, a, w, hcl, hfree, hr, hy, hS, H => by
    refine ⟨fun h => absurd hr (by rw [h]; simp), fun j hj => ?_⟩
    by_cases hji : j = i
    · subst hji
      exact hy.wpOp hi hS ⟨fun _ => hS, H⟩
    obtain ⟨hjun, oj, hoj, hall⟩ := mem_ready.1 hj
    have hun : ¬ l.getD i false = true := by
      intro h1
      have h0 := (mem_ready.1 hr).1
      by_cases hlt : i < l.size
      · simp [hlt] at h0 h1
        rw [h0] at h1
        cases h1
      · simp [Array.getElem?_eq_none (Nat.le_of_not_lt hlt)] at h1
    have hnot : ∀ e ∈ oj.after, Region.binds md e = true → e.on ≠ i := by
      intro e he hb heq
      have h1 := hall e he hb
      rw [heq] at h1
      exact hun h1
    have hjX : j ∉ X := fun hj => hun (hcl.waits m j oj hoj hall (hxi j hj))
    match n, H with
    | 0, H =>
      have := ready_mono hj hji
      rw [H.1] at this
      cases this
    | n + 1, H =>
      have h1 := H.2 j (ready_mono hj hji)
      have h2 := wpOp_putIf hoj (hfree j oj hoj hji hjun hnot) (fun cs b => hsel i oi cs b hi) (fun cs b => hsel j oj cs b hoj) hQ hy h1
      refine wpOp_mono (fun a' w' h3 => ⟨fun _ => h3.2.1 hjX, ?_⟩) h2
      refine wpAnyL_first hi hsel hQ m hxi n _ a' w' (hcl.set_ hj) ?_ (ready_mono hr (Ne.symm hji)) h3.1 (h3.2.1 hjX) ?_
      · intro k ok hk hki hun hno
        refine hfree k ok hk hki ?_ hno
        by_cases hjk : j = k
        · subst hjk; exact hjun
        · rw [getD_set_ne true hjk] at hun; exact hun
      · rw [Array.setIfInBounds_comm _ _ hji]
        exact h3.2.2

theorem wpAnyL_stronger {X : List Nat} {S S' : World → Prop} (hS : ∀ w, S' w → S w) : ∀ (n : Nat) (l : Array Bool) (a : Act) (w : World), wpAnyL P md ops Q X S' n l a w → wpAnyL P md ops Q X S n l a w
  | 0, _, _, _, h => h
  | n + 1, _, _, _, h => ⟨h.1, fun i hi => wpOp_mono (fun _ _ h' => ⟨fun hx => hS _ (h'.1 hx), wpAnyL_stronger hS n _ _ _ h'.2⟩) (h.2 i hi)⟩

def wpL (P : Program) (ops : Array Oper) (Q : Exit → Act → World → Prop) (L : World → World → Prop) : OL → Act → World → Prop
  | .nil, a, w => Q .normal a w
  | .free i r, a, w => ∃ o v, ops[i]? = some o ∧ YieldsIf P ops (L w) o v a ∧ wpL P ops Q L r (a.put o.dst v) w
  | .one i r, a, w => wpOp P ops Q i (fun a' w' => L w w' ∧ wpL P ops Q L r a' w') a w
  | .two i j r s, a, w => wpOp P ops Q i (fun a' w' => L w w' ∧ wpL P ops Q L r a' w') a w ∧ wpOp P ops Q j (fun a' w' => L w w' ∧ wpL P ops Q L s a' w') a w
  | .last i r, a, w => wpOp P ops Q i (fun a' w' => wpL P ops Q L r a' w') a w
  | .lasts i j r s, a, w => wpOp P ops Q i (fun a' w' => wpL P ops Q L r a' w') a w ∧ wpOp P ops Q j (fun a' w' => wpL P ops Q L s a' w') a w

def OL.high : OL → Nat
  | .nil => 0
  | .free _ r => r.high + 1
  | .one _ r => r.high + 1
  | .two _ _ r s => max r.high s.high + 1
  | .last _ r => r.high + 1
  | .lasts _ _ r s => max r.high s.high + 1

def OL.isTail : OL → Bool
  | .nil => true
  | .last _ r => r.isTail
  | .lasts _ _ r s => r.isTail && s.isTail
  | _ => false
def checkL (md : Region.Mode) (ops : Array Oper) (X : List Nat) : OL → Array Bool → Bool
  | .nil, l => Region.ready md ops l == []
  | .free i r, l => X.all (waitsN md ops i ops.size) && (Region.free md ops l i && (Region.ready md ops l).contains i && checkL md ops X r (l.setIfInBounds i true))
  | .one i r, l => Region.ready md ops l == [i] && checkL md ops X r (l.setIfInBounds i true)
  | .two i j r s, l => Region.ready md ops l == [i, j] && checkL md ops X r (l.setIfInBounds i true) && checkL md ops X s (l.setIfInBounds j true)
  | .last i r, l => r.isTail && X.contains i && Region.ready md ops l == [i] && checkL md ops X r (l.setIfInBounds i true)
  | .lasts i j r s, l => r.isTail && s.isTail && X.contains i && X.contains j && Region.ready md ops l == [i, j] && checkL md ops X r (l.setIfInBounds i true) && checkL md ops X s (l.setIfInBounds j true)

theorem wpL_tail {L : World → World → Prop} {X : List Nat} : ∀ (t : OL) (n : Nat) (l : Array Bool) (a : Act) (w : World) (S : World → Prop), t.isTail = true → t.high ≤ n → checkL md ops X t l = true → wpL P ops Q L t a w → wpAnyL P md ops Q X S n l a w
  | .nil, n, l, a, w, S, _, hn, hc, h => by
    have hr : Region.ready md ops l = [] := by simpa [checkL] using hc
    cases n with
    | zero => exact ⟨hr, h⟩
    | succ n => exact ⟨fun _ => h, fun k hk => absurd hk (by rw [hr]; simp)⟩
  | .last i r, n, l, a, w, S, ht, hn, hc, h => by
    simp only [checkL, Bool.and_eq_true, beq_iff_eq, List.contains_iff_mem] at hc
    match n, hn with
    | n + 1, hn =>
      refine ⟨fun h0 => absurd hc.1.2 (by rw [h0]; simp), fun j hj => ?_⟩
      rw [hc.1.2] at hj
      obtain rfl := List.mem_singleton.1 hj
      exact wpOp_mono (fun a' w' h' => ⟨fun hx => absurd hc.1.1.2 hx, wpL_tail r n _ a' w' S hc.1.1.1 (by simpa [OL.high] using hn) hc.2 h'⟩) h
  | .lasts i j r s, n, l, a, w, S, ht, hn, hc, h => by
    simp only [checkL, Bool.and_eq_true, beq_iff_eq, List.contains_iff_mem] at hc
    match n, hn with
    | n + 1, hn =>
      have hf1 : r.high ≤ n ∧ s.high ≤ n := by simp [OL.high] at hn; omega
      refine ⟨fun h0 => absurd hc.1.1.2 (by rw [h0]; simp), fun k hk => ?_⟩
      rw [hc.1.1.2] at hk
      rcases List.mem_cons.1 hk with hk | hk
      · subst hk
        exact wpOp_mono (fun a' w' h' => ⟨fun hx => absurd hc.1.1.1.1.2 hx, wpL_tail r n _ a' w' S hc.1.1.1.1.1.1 hf1.1 hc.1.2 h'⟩) h.1
      · obtain rfl := List.mem_singleton.1 hk
        exact wpOp_mono (fun a' w' h' => ⟨fun hx => absurd hc.1.1.1.2 hx, wpL_tail s n _ a' w' S hc.1.1.1.1.1.2 hf1.2 hc.2 h'⟩) h.2
theorem wpL_sound {L : World → World → Prop} {X : List Nat} (Lr : ∀ w, L w w) (Lt : ∀ {a b c}, L a b → L b c → L a c) (hs : Region.noSelect ops = true) (hQ : ∀ c (a : Act) d v w, Q (.panic c) (a.put d v) w → Q (.panic c) a w) :
    ∀ (t : OL) (n : Nat) (l : Array Bool) (a : Act) (w : World) (S : World → Prop), t.high ≤ n → Closed md ops l → checkL md ops X t l = true → (∀ w', L w w' → S w') → wpL P ops Q L t a w → wpAnyL P md ops Q X S n l a w
  | .nil, n, l, a, w, S, hn, hcl, hc, hS, h => by
    have hr : Region.ready md ops l = [] := by simpa [checkL] using hc
    cases n with
    | zero => exact ⟨hr, h⟩
    | succ n => exact ⟨fun _ => h, fun k hk => absurd hk (by rw [hr]; simp)⟩
  | .free i r, n, l, a, w, S, hn, hcl, hc, hS, h => by
    obtain ⟨o, v, ho, hy, h⟩ := h
    simp only [checkL, Bool.and_eq_true, List.all_eq_true] at hc
    have hri : i ∈ Region.ready md ops l := by simpa using hc.2.1.2
    match n, hn with
    | n + 1, hn =>
      exact wpAnyL_stronger hS _ _ _ _ (wpAnyL_first (S := L w) ho (Region.noSelect_spec hs) (fun c a w => hQ c a o.dst v w) ops.size hc.1 n l a w hcl (Region.free_spec ho hc.2.1.1) hri hy (Lr w) (wpL_sound Lr Lt hs hQ r n _ _ w (L w) (by simpa [OL.high] using hn) (hcl.set_ hri) hc.2.2 (fun _ h => h) h))
  | .one i r, n, l, a, w, S, hn, hcl, hc, hS, h => by
    simp only [checkL, Bool.and_eq_true, beq_iff_eq] at hc
    match n, hn with
    | n + 1, hn =>
      refine ⟨fun h0 => absurd hc.1 (by rw [h0]; simp), fun j hj => ?_⟩
      have hj0 := hj
      rw [hc.1] at hj
      obtain rfl := List.mem_singleton.1 hj
      exact wpOp_mono (fun a' w' h' => ⟨fun _ => hS _ h'.1, wpL_sound Lr Lt hs hQ r n _ a' w' S (by simpa [OL.high] using hn) (hcl.set_ hj0) hc.2 (fun y hy => hS _ (Lt h'.1 hy)) h'.2⟩) h
  | .two i j r s, n, l, a, w, S, hn, hcl, hc, hS, h => by
    simp only [checkL, Bool.and_eq_true, beq_iff_eq] at hc
    match n, hn with
    | n + 1, hn =>
      have hf1 : r.high ≤ n ∧ s.high ≤ n := by simp [OL.high] at hn; omega
      refine ⟨fun h0 => absurd hc.1.1 (by rw [h0]; simp), fun k hk => ?_⟩
      have hk0 := hk
      rw [hc.1.1] at hk
      rcases List.mem_cons.1 hk with hk | hk
      · subst hk
        exact wpOp_mono (fun a' w' h' => ⟨fun _ => hS _ h'.1, wpL_sound Lr Lt hs hQ r n _ a' w' S hf1.1 (hcl.set_ hk0) hc.1.2 (fun y hy => hS _ (Lt h'.1 hy)) h'.2⟩) h.1
      · obtain rfl := List.mem_singleton.1 hk
        exact wpOp_mono (fun a' w' h' => ⟨fun _ => hS _ h'.1, wpL_sound Lr Lt hs hQ s n _ a' w' S hf1.2 (hcl.set_ hk0) hc.2 (fun y hy => hS _ (Lt h'.1 hy)) h'.2⟩) h.2
  | .last i r, n, l, a, w, S, hn, hcl, hc, hS, h => by
    simp only [checkL, Bool.and_eq_true, beq_iff_eq, List.contains_iff_mem] at hc
    match n, hn with
    | n + 1, hn =>
      refine ⟨fun h0 => absurd hc.1.2 (by rw [h0]; simp), fun j hj => ?_⟩
      have hj0 := hj
      rw [hc.1.2] at hj
      obtain rfl := List.mem_singleton.1 hj
      exact wpOp_mono (fun a' w' h' => ⟨fun hx => absurd hc.1.1.2 hx, wpL_tail r n _ a' w' S hc.1.1.1 (by simpa [OL.high] using hn) hc.2 h'⟩) h
  | .lasts i j r s, n, l, a, w, S, hn, hcl, hc, hS, h => by
    simp only [checkL, Bool.and_eq_true, beq_iff_eq, List.contains_iff_mem] at hc
    match n, hn with
    | n + 1, hn =>
      have hf1 : r.high ≤ n ∧ s.high ≤ n := by simp [OL.high] at hn; omega
      refine ⟨fun h0 => absurd hc.1.1.2 (by rw [h0]; simp), fun k hk => ?_⟩
      have hk0 := hk
      rw [hc.1.1.2] at hk
      rcases List.mem_cons.1 hk with hk | hk
      · subst hk
        exact wpOp_mono (fun a' w' h' => ⟨fun hx => absurd hc.1.1.1.1.2 hx, wpL_tail r n _ a' w' S hc.1.1.1.1.1.1 hf1.1 hc.1.2 h'⟩) h.1
      · obtain rfl := List.mem_singleton.1 hk
        exact wpOp_mono (fun a' w' h' => ⟨fun hx => absurd hc.1.1.1.2 hx, wpL_tail s n _ a' w' S hc.1.1.1.1.1.2 hf1.2 hc.2 h'⟩) h.2

/-- The beginning: blocks S may be written ahead of the tail X. -/
theorem wp_region_tail {id : Nat} {a : Act} {w : World} (S X : List Nat) (t : OL) (hm : P.follows .mixedOrders = true) (hs : Region.noSelect ops = true)
    (hl : decide (t.high ≤ ops.size) = true) (hc : checkL .any ops X t (Array.replicate ops.size false) = true) (h : wpL P ops (NoPanic Q) (Chg S) t a w.drew) : (Code.region id ops true).wp P Q a w :=
  wp_region_noPanic (wp_region_any hm (wpAny_of_L (X := X) (S := fun _ => True) _ _ _ _ (wpL_sound (Chg.refl S) Chg.trans hs (NoPanic.put Q) t ops.size _ a w.drew _ (of_decide_eq_true hl) (closed_none _) hc (fun _ _ => trivial) h)))

variable {L : World → World → Prop}
theorem wpL_nil {a : Act} {w : World} (h : Q .normal a w) : wpL P ops (NoPanic Q) L .nil a w := h
theorem wpL_F {i : Nat} {r : OL} {a : Act} {w : World} {o : Oper} {v : Value} (ho : nth ops.toList i = some o) (hw : Region.wanted o (yielded ops a.tmps) = true)
    (hv : ∀ w', L w w' → (execOp a.eval o).run P w' = .ok (.value v) w') (h : wpL P ops Q L r (a.put o.dst v) w) : wpL P ops Q L (.free i r) a w :=
  ⟨o, v, nth_ops ho, .inl ⟨hw, hv⟩, h⟩
theorem wpL_G {i : Nat} {r : OL} {a : Act} {w : World} {o : Oper} (ho : nth ops.toList i = some o) (hw : Region.wanted o (yielded ops a.tmps) = false)
    (h : wpL P ops Q L r (a.put o.dst undef) w) : wpL P ops Q L (.free i r) a w :=
  ⟨o, undef, nth_ops ho, .inr ⟨hw, rfl⟩, h⟩
theorem wpL_C {i : Nat} {r : OL} {a : Act} {w : World} {o : Oper} (ho : nth ops.toList i = some o) (hw : Region.wanted o (yielded ops a.tmps) = true)
    (h : o.wp P a w (fun a' w' => L w w' ∧ wpL P ops Q L r a' w') Q) : wpL P ops Q L (.one i r) a w := by
  show wpOp P ops Q i _ a w
  unfold wpOp
  simp only [nth_ops ho, hw]
  exact .inl h
theorem wpL_X {i : Nat} {r : OL} {a : Act} {w : World} {o : Oper} (ho : nth ops.toList i = some o) (hw : Region.wanted o (yielded ops a.tmps) = true)
    (h : o.wp P a w (fun a' w' => wpL P ops Q L r a' w') Q) : wpL P ops Q L (.last i r) a w := by
  show wpOp P ops Q i _ a w
  unfold wpOp
  simp only [nth_ops ho, hw]
  exact .inl h
theorem wpL_two {i j : Nat} {r s : OL} {a : Act} {w : World} (h1 : wpL P ops Q L (.one i r) a w) (h2 : wpL P ops Q L (.one j s) a w) : wpL P ops Q L (.two i j r s) a w := ⟨h1, h2⟩
theorem wpL_lasts {i j : Nat} {r s : OL} {a : Act} {w : World} (h1 : wpL P ops Q L (.last i r) a w) (h2 : wpL P ops Q L (.last j s) a w) : wpL P ops Q L (.lasts i j r s) a w := ⟨h1, h2⟩
end
attribute [irreducible] wpL
end Go.Proofs.Ytapbhhehnbfdfaa
