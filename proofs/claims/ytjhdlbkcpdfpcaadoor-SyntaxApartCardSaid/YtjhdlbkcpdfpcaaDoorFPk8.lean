/- Several texts of one proof, one behind the other. -/
import Derived.Test.YtjhdlbkcpdfpcaaDoorFPk7
import Derived.Shelf.Lays
import Derived.Shelf.LaysC
import Derived.Shelf.LaysM
import Derived.Test.YtjhdlbkcpdfpcaaDoorProg
import Derived.Shelf.Unicode.ValidAny
import Derived.Lib.OthersKept
import Derived.Lib.Hide
set_option linter.unusedSimpArgs false
set_option linter.unusedVariables false

/- The walks of slices.IndexFunc and slices.ContainsFunc over cells and over pages. -/
set_option linter.unusedSimpArgs false
set_option linter.unusedVariables false
set_option maxRecDepth 100000
namespace Go.Proofs.YtjhdlbkcpdfpcaaDoor
open Go.RowKit

/-- Where the first wrong one is: -1 if there is none. -/
def RetFi (w : World) (all : Bool) (e : Ending) (w' : World) : Prop := ∃ r : Int, e = .returned (.int .i64 r) ∧ (decide (0 ≤ r) = !all) ∧ -1 ≤ r ∧ Below w.heap.size w w'

theorem all_takeG {α : Type} (p : α → Bool) (l : List α) (k : Nat) (h : k < l.length) : (l.take (k + 1)).all p = ((l.take k).all p && p l[k]) := by
  rw [List.take_succ_eq_append_getElem h, List.all_append]; simp only [List.all_cons, List.all_nil, Bool.and_true]

theorem all_falseG {α : Type} (p : α → Bool) (l : List α) (k : Nat) (h : k < l.length) (hk : p l[k] = false) : l.all p = false := by
  rw [List.all_eq_false]
  exact ⟨l[k], List.getElem_mem h, by simp [hk]⟩

open Classical in
theorem keysOk_yes {l : List ByteArray} (h : KeysOk l) : keysOk l = true := decide_eq_true h
open Classical in
theorem keysOk_no {l : List ByteArray} (h : ¬ KeysOk l) : keysOk l = false := decide_eq_false h

theorem less_yes {p y : ByteArray} (h : lessK p y = true) : Op.bytesLess y.toList p.toList = false ∧ (y.toList == p.toList) = false := by
  unfold lessK at h
  rw [less_lt] at h ⊢
  have h1 : p.toList < y.toList := of_decide_eq_true h
  refine ⟨decide_eq_false (List.lt_asymm h1), ?_⟩
  rw [beq_eq_false_iff_ne]
  intro h2
  rw [h2] at h1
  exact List.lt_irrefl _ h1
theorem less_no {p y : ByteArray} (h : lessK p y = false) : Op.bytesLess y.toList p.toList = true ∨ (Op.bytesLess y.toList p.toList = false ∧ (y.toList == p.toList) = true) := by
  unfold lessK at h
  rw [less_lt] at h ⊢
  have h1 : ¬ p.toList < y.toList := of_decide_eq_false h
  by_cases h2 : y.toList = p.toList
  · exact .inr ⟨decide_eq_false (by rw [h2]; exact List.lt_irrefl _), by simpa using h2⟩
  · exact .inl (decide_eq_true ((list_tri _ _ h2).resolve_right h1))

end Go.Proofs.YtjhdlbkcpdfpcaaDoor

/- A node in memory; the walk of node.Right. -/
set_option linter.unusedSimpArgs false
set_option linter.unusedVariables false
set_option maxRecDepth 100000
namespace Go.Proofs.YtjhdlbkcpdfpcaaDoor
open Go.RowKit

/-- Where a node's keys, cells and kids lie. -/
structure NB where
  ka : Option Addr
  kl : Nat
  kc : Nat
  ca : Option Addr
  cl : Nat
  cc : Nat
  da : Option Addr
  dl : Nat
  dc : Nat

/-- A node's value. -/
abbrev NB.v (m : NB) (leaf : Bool) : Value := .agg #[.bool leaf, .slice m.ka m.kl m.kc, .slice m.ca m.cl m.cc, .slice m.da m.dl m.dc]

def Cl.fair (c : Cl) : Prop := c.data.size ≤ 140737488355328 ∧ (-9223372036854775808 ≤ c.len ∧ c.len ≤ 9223372036854775807) ∧ (-9223372036854775808 ≤ c.page ∧ c.page ≤ 9223372036854775807)

/-- The node n lies there. -/
structure NAt (w : World) (n : Nd) (m : NB) : Prop where
  hk : m.kl = n.keys.length
  hc : m.cl = n.cells.length
  hd : m.dl = n.kids.length
  kcap : m.kl ≤ m.kc
  ccap : m.cl ≤ m.cc
  dcap : m.dl ≤ m.dc
  kmax : m.kl ≤ 140737488355328
  cmax : m.cl ≤ 140737488355328
  dmax : m.dl ≤ 140737488355328
  karr : Arr w.heap.size w m.ka (cellsS n.keys)
  carr : Arr w.heap.size w m.ca (cellsC n.cells)
  darr : Arr w.heap.size w m.da (cellsI n.kids)
  kfair : ∀ k ∈ n.keys, k.size ≤ 140737488355328
  cfair : ∀ c ∈ n.cells, c.fair
  dfair : ∀ p ∈ n.kids, -9223372036854775808 ≤ p ∧ p ≤ 9223372036854775807

theorem NAt.later {w w' : World} {n : Nd} {m : NB} (h : NAt w n m) (hb : Below w.heap.size w w') : NAt w' n m :=
  ⟨h.hk, h.hc, h.hd, h.kcap, h.ccap, h.dcap, h.kmax, h.cmax, h.dmax, h.karr.later (N := 0) hb, h.carr.later (N := 0) hb, h.darr.later (N := 0) hb, h.kfair, h.cfair, h.dfair⟩

open Classical in
theorem Nd.ok_eq {n : Nd} {b : Bool} (h : n.Ok ↔ b = true) : n.ok = b := by
  unfold Nd.ok
  cases b with
  | true => exact decide_eq_true (h.2 rfl)
  | false => exact decide_eq_false (fun h2 => by simpa using h.1 h2)

theorem keysOk_iff (l : List ByteArray) : keysOk l = true ↔ KeysOk l := by unfold keysOk; simp

end Go.Proofs.YtjhdlbkcpdfpcaaDoor

/- What lies in blocks of a call's own only. -/
set_option linter.unusedSimpArgs false
set_option linter.unusedVariables false
set_option maxRecDepth 100000
namespace Go.Proofs.YtjhdlbkcpdfpcaaDoor
open Go.RowKit

/-- The cells lie in no block below number N. -/
def Far (N : Nat) (a : Option Addr) (vs : List Value) : Prop := vs = [] ∨ ∀ b o, a = some ⟨b, o, none⟩ → N ≤ b
theorem own_far {w : World} {base : Nat} {T : TypeId} {z n cap : Nat} {a : Option Addr} {xs : List Value} (h : w.ownsRow base T z (.slice a n cap) n xs) : Far base a xs := by
  rcases h.2 with ⟨hv, hn⟩ | ⟨g, c, cur, hv, hg, _⟩
  · exact .inl (List.length_eq_zero_iff.1 (by rw [h.1, hn]; simp))
  · refine .inr fun b o e => ?_
    simp only [Value.slice.injEq, true_and] at hv
    rw [hv.1] at e
    simp only [Option.some.injEq, Addr.mk.injEq] at e
    omega
theorem Arr.set_far {w : World} {a : Option Addr} {vs : List Value} {N c o : Nat} {v : Value} (h : Arr w.heap.size w a vs) (hf : Far N a vs) (hc : c < N) : Arr (w.setCell ⟨c, o, none⟩ v).heap.size (w.setCell ⟨c, o, none⟩ v) a vs := by
  rcases hf with hf | hf
  · exact .inl hf
  · rcases h with h | ⟨b, o', ha, hN, hcell⟩
    · exact .inl h
    · have := hf b o' ha
      refine .inr ⟨b, o', ha, by simpa [World.setCell] using hN, fun i u hu => ?_⟩
      rw [← hcell i u hu]
      exact World.cell?_of_block (a := ⟨b, o' + i, none⟩) (Below.heap_setCell w ⟨c, o, none⟩ v b (by show b ≠ c; omega))
theorem Far.mono {N M : Nat} {a : Option Addr} {vs : List Value} (h : Far N a vs) (hM : M ≤ N) : Far M a vs := by
  rcases h with h | h
  · exact .inl h
  · exact .inr fun b o e => by have := h b o e; omega

/-- All that the node has lies in blocks from number N on. -/
def NFar (N : Nat) (n : Nd) (m : NB) : Prop := Far N m.ka (cellsS n.keys) ∧ Far N m.ca (cellsC n.cells) ∧ Far N m.da (cellsI n.kids)
theorem NFar.mono {N M : Nat} {n : Nd} {m : NB} (h : NFar N n m) (hM : M ≤ N) : NFar M n m := ⟨h.1.mono hM, h.2.1.mono hM, h.2.2.mono hM⟩
theorem NAt.set_far {w : World} {n : Nd} {m : NB} {N c o : Nat} {v : Value} (h : NAt w n m) (hf : NFar N n m) (hc : c < N) : NAt (w.setCell ⟨c, o, none⟩ v) n m :=
  ⟨h.hk, h.hc, h.hd, h.kcap, h.ccap, h.dcap, h.kmax, h.cmax, h.dmax, h.karr.set_far hf.1 hc, h.carr.set_far hf.2.1 hc, h.darr.set_far hf.2.2 hc, h.kfair, h.cfair, h.dfair⟩
end Go.Proofs.YtjhdlbkcpdfpcaaDoor

/- The walk of token.digitsOf. -/
set_option linter.unusedSimpArgs false
set_option linter.unusedVariables false
set_option maxRecDepth 100000
namespace Go.Proofs.YtjhdlbkcpdfpcaaDoor
open Go.RowKit

/-- The digit of a number below sixteen. -/
def hexd (n : Nat) : Nat := if n < 10 then 48 + n else 87 + n
/-- The digits of bytes. -/
def hexN (l : List Nat) : List Nat := l.flatMap fun c => [hexd (c / 16), hexd (c % 16)]
theorem hexd_lt {n : Nat} (h : n < 16) : hexd n < 256 := by unfold hexd; split <;> omega
theorem hexN_len (l : List Nat) : (hexN l).length = l.length * 2 := by
  induction l with
  | nil => rfl
  | cons x r ih => simp only [hexN, List.flatMap_cons, List.length_append] at ih ⊢; rw [ih]; simp; omega
theorem hexN_take {l : List Nat} {k : Nat} (h : k < l.length) : hexN (l.take (k + 1)) = hexN (l.take k) ++ [hexd (l[k] / 16), hexd (l[k] % 16)] := by
  unfold hexN; rw [List.take_succ_eq_append_getElem h, List.flatMap_append]; simp
def hexS (s : ByteArray) : ByteArray := strN (hexN (bytesU s))

theorem info_u8T : (Tryd.prog.info? 5).map (fun i => (i.zero, i.size, i.bytes)) = some (some (.int .u8 0), 1, 1) := by kernel_rfl
theorem cellsU_app (a b : List Nat) : cellsU (a ++ b) = cellsU a ++ cellsU b := by simp [cellsU]

theorem and15 : ∀ c : Fin 256, bits .and .u8 (c.1 : Int) 15 = ((c.1 % 16 : Nat) : Int) := by decide +kernel
def hexT : ByteArray := ⟨#[48, 49, 50, 51, 52, 53, 54, 55, 56, 57, 97, 98, 99, 100, 101, 102]⟩
theorem exec_hex {o : Oper} {a : Act} {x y : Operand} (n : Nat) (hn : n < 16) (ho : o.op = .index 9 x y) (hx : a.eval x = .string hexT) (hy : a.eval y = .int .u8 (n : Int)) (w : World) : (execOp a.eval o).run Tryd.prog w = .ok (.value (.int .u8 (hexd n : Int))) w := by
  unfold execOp
  simp only [ho, hx, hy]
  have h16 : n = 0 ∨ n = 1 ∨ n = 2 ∨ n = 3 ∨ n = 4 ∨ n = 5 ∨ n = 6 ∨ n = 7 ∨ n = 8 ∨ n = 9 ∨ n = 10 ∨ n = 11 ∨ n = 12 ∨ n = 13 ∨ n = 14 ∨ n = 15 := by omega
  rcases h16 with rfl | rfl | rfl | rfl | rfl | rfl | rfl | rfl | rfl | rfl | rfl | rfl | rfl | rfl | rfl | rfl <;> first | rfl | (go_simp; done) | (go_simp; rfl)

set_option maxHeartbeats 2000000 in
theorem digitsOf_any (s : ByteArray) (w : World) (hs : s.size ≤ 1000000) :
    Calls Tryd.prog 57 #[.string s] w fun e w' => e = .returned (.string (hexS s)) ∧ Below w.heap.size w w' := by
  obtain ⟨i0, hi, hz0, hz1, hz2⟩ := info_parts info_u8T
  have HV0 : Hid (w.ownsRow w.heap.size 5 1 (.slice none 0 0) 0 (cellsU (hexN ((bytesU s).take 0)))) := World.ownsRow_nil _ _ _ _
  go_enter Tryd.func57, Tryd.ntmps57
  go_wp2
  go_loopw [3, 7] (fun v i wr => ∃ (k : Nat) (cv : Value), cv = v ∧ k ≤ s.size ∧ i = .int .i64 (k : Int) ∧ Hid (wr.ownsRow w.heap.size 5 1 cv (k * 2) (cellsU (hexN ((bytesU s).take k)))) ∧ Hid (Below w.heap.size w wr)) (fun _ i _ => s.size - (intOf i).toNat)
  case atStart => exact ⟨0, _, rfl, by omega, rfl, HV0, Below.refl _ _⟩
  case round =>
    clear HV0
    obtain ⟨k, cv, rfl, hk, rfl, HV, HB⟩ := hrel
    by_cases hlt : k < s.size
    · have hkl : k < (bytesU s).length := by rw [bytesU_len]; exact hlt
      have HTk := Lib.hid (hexN_take hkl)
      have hbk : (bytesU s)[k] = (s[k]'hlt).toNat := by simp [bytesU]; rfl
      rw [hbk] at HTk
      have hlt256 : (s[k]'hlt).toNat < 256 := (s[k]'hlt).toNat_lt
      obtain ⟨c, hc⟩ : ∃ c, (s[k]'hlt).toNat = c := ⟨_, rfl⟩
      rw [hc] at HTk hlt256
      have hz : k * 2 < 1000000000000 - 2 := by omega
      have HBs := Lib.hid HB.out.size
      clear hbk hkl
      go_wp2_with fail
      refine wp_region_ordX cv.ownBlock.toList 13 [(0, true), (1, true), (2, true), (3, true), (4, true), (5, true), (6, true), (7, true), (8, true), (9, true), (10, true), (11, false), (12, false)] (by kernel_rfl) (by kernel_rfl) (by kernel_rfl) (by kernel_rfl) ?_
      repeat (first | (refine wpOX_F (v := ?_) rfl (by rfl) (fun w' hL => ?_) ?_; rotate_left; (solve | (go_simp; with_reducible rfl) | go_simp); try simp only [Act.put, List.setIfInBounds_toArray, List.set_cons_zero, List.set_cons_succ]))
      have h16 : ((c / 16 : Nat) : Int) = (c : Int) / 16 := by omega
      refine wpOX_F rfl (by rfl) (fun w' _ => exec_hex (c / 16) (by omega) rfl rfl (by rw [h16]; rfl) w') ?_
      try simp only [Act.put, List.setIfInBounds_toArray, List.set_cons_zero, List.set_cons_succ]
      repeat (first | (refine wpOX_F (v := ?_) rfl (by rfl) (fun w' hL => ?_) ?_; rotate_left; (solve | (go_simp; with_reducible rfl) | go_simp); try simp only [Act.put, List.setIfInBounds_toArray, List.set_cons_zero, List.set_cons_succ]))
      have h15 : bits .and .u8 (c : Int) 15 = ((c % 16 : Nat) : Int) := and15 ⟨c, hlt256⟩
      rw [h15]
      refine wpOX_F rfl (by rfl) (fun w' _ => exec_hex (c % 16) (by omega) rfl rfl rfl w') ?_
      try simp only [Act.put, List.setIfInBounds_toArray, List.set_cons_zero, List.set_cons_succ]
      refine wpOX_C rfl (by rfl) ?_
      go_simp
      refine ⟨(Chg.refl _ _).alloc _, ?_⟩
      try simp only [Act.put, List.setIfInBounds_toArray, List.set_cons_zero, List.set_cons_succ]
      have hr2 : wr.drew.ownsRow w.heap.size 5 1 cv (k * 2) (cellsU (hexN ((bytesU s).take k))) := HV.out
      refine wpOX_C rfl (by rfl) ?_
      refine wp_appM (.tmp 10) (.tmp 21) 80 rfl w.heap.size 5 i0 (.int .u8 0) 1 1 2 Tryd.underlying80 hi hz0 rfl hz1 (by omega) hz2 (by omega) cv (k * 2) _ [.int .u8 (hexd (c / 16) : Int), .int .u8 (hexd (c % 16) : Int)] wr.drew hr2 rfl _ rfl rfl (by simp [Value.oneCell']) rfl (by omega) HBs.out ?_
      intro cv2 x4 hr4 hc4 hsz4
      refine ⟨hc4, ?_⟩
      try simp only [Act.put, List.setIfInBounds_toArray, List.set_cons_zero, List.set_cons_succ]
      have HB4 : Hid (Below w.heap.size w x4) := HB.out.trans (((Below.refl w.heap.size wr).drew.alloc HBs.out _).trans (hc4.below (by have := HBs.out; simp; omega) (fun g hg => (hr2.lt g (by simpa using hg)).1)))
      have hr5 : x4.ownsRow w.heap.size 5 1 cv2 ((k + 1) * 2) (cellsU (hexN ((bytesU s).take (k + 1)))) := by
        rw [HTk.out, cellsU_app, show (k + 1) * 2 = k * 2 + 2 by omega]; exact hr4
      have HR5 := Lib.hid hr5
      clear hr2 hr4 hc4 hsz4 hr5
      repeat (first | (refine wpOX_F (v := ?_) rfl (by rfl) (fun w' hL => ?_) ?_; rotate_left; (solve | (go_simp; with_reducible rfl) | go_simp); try simp only [Act.put, List.setIfInBounds_toArray, List.set_cons_zero, List.set_cons_succ]) | (refine wpOX_G (Chg.refl _) rfl (by rfl) ?_; try simp only [Act.put, List.setIfInBounds_toArray, List.set_cons_zero, List.set_cons_succ]))
      refine wpOX_end rfl (by rfl) ?_
      go_simp
      simp only [NoPanic]
      go_wp2
      go_roundw
      case rel => exact ⟨k + 1, cv2, rfl, by omega, by go_num, HR5.out, HB4.out⟩
      case measure => simp [intOf]; omega
    · have hke : k = s.size := by omega
      have HO := HV.out
      rw [hke, List.take_of_length_le (by rw [bytesU_len]; omega)] at HO
      obtain ⟨ac, cc, hcv, hcc, hcm, hA⟩ := own_slice HO
      have hlt : ∀ c ∈ hexN (bytesU s), c < 256 := fun c hc => by
        unfold hexN at hc
        obtain ⟨d, hd, hc⟩ := List.mem_flatMap.1 hc
        have hd256 := bytesU_lt s d hd
        rcases List.mem_cons.1 hc with rfl | hc
        · exact hexd_lt (by omega)
        · rw [List.mem_singleton.1 hc]; exact hexd_lt (by omega)
      have HCV := Lib.hid ((hA.bs hlt).conv 80 5 Tryd.underlying80 Tryd.underlying5 9 Tryd.underlying9 (s.size * 2) cc (by rw [hexN_len, bytesU_len]))
      obtain ⟨n2, hn2⟩ : ∃ n2, s.size * 2 = n2 := ⟨_, rfl⟩
      rw [hn2] at hcv HCV
      have hcn := HCV.out
      subst hcv
      clear HO hA hlt HV hn2 hcc hcm
      go_wp2
      go_ret
      exact ⟨rfl, HB.out⟩
end Go.Proofs.YtjhdlbkcpdfpcaaDoor

/-
  DERIVED: THE SHELF's CONTRACTS AT THIS DUMP, IN PLAIN WORDS (tools/lay-plain.mjs out of 'YtjhdlbkcpdfpcaaDoorShelf.lean', which tools/lay-shelf.mjs wrote): THE SAME DECLARATIONS UNDER THE SAME NAMES: 'import', 'namespace', 'open', 'def', 'theorem' AND NOTHING ELSE: no command of the shelf's: FOR A HAND-IN. Each laying: the table of numbers ('.._ren') and one theorem, a field a fact of the dump's own or the kernel's comparison; each contract: ONE APPLICATION.
-/
namespace Go.Proofs
open Go.Shelf
def Tryd.laysValid_ren : Go.Shelf.Ren := ⟨fun | 196 => 45 | 259 => 73 | n => n, fun | 9 => 9 | 4 => 4 | 3 => 3 | 5 => 5 | 12 => 12 | 119 => 94 | 0 => 0 | 46 => 98 | 139 => 97 | 138 => 96 | 53 => 113 | n => n, fun | 3 => 0 | 4 => 1 | n => n⟩
theorem Tryd.laysValid : Go.Proofs.Lays.n196 Tryd.prog Tryd.laysValid_ren := {
  mixed := by kernel_rfl
  f196 := Tryd.func45.trans (congrArg some (by kernel_rfl))
  f259 := Tryd.func73.trans (congrArg some (by kernel_rfl))
  t0 := Tryd.underlying0
  a0 := Tryd.isAgg0
  z0 := Tryd.sizeOf0
  v0 := Tryd.zeroValue0
  t3 := Tryd.underlying3
  a3 := Tryd.isAgg3
  z3 := Tryd.sizeOf3
  v3 := Tryd.zeroValue3
  t4 := Tryd.underlying4
  a4 := Tryd.isAgg4
  z4 := Tryd.sizeOf4
  v4 := Tryd.zeroValue4
  t5 := Tryd.underlying5
  a5 := Tryd.isAgg5
  z5 := Tryd.sizeOf5
  v5 := Tryd.zeroValue5
  t9 := Tryd.underlying9
  a9 := Tryd.isAgg9
  z9 := Tryd.sizeOf9
  v9 := Tryd.zeroValue9
  t12 := Tryd.underlying12
  a12 := Tryd.isAgg12
  z12 := Tryd.sizeOf12
  v12 := Tryd.zeroValue12
  t46 := Tryd.underlying98
  a46 := Tryd.isAgg98
  z46 := Tryd.sizeOf98
  v46 := Tryd.zeroValue98
  t53 := Tryd.underlying113
  a53 := Tryd.isAgg113
  z53 := Tryd.sizeOf113
  v53 := Tryd.zeroValue113
  t119 := Tryd.underlying94
  a119 := Tryd.isAgg94
  z119 := Tryd.sizeOf94
  t138 := Tryd.underlying96
  a138 := Tryd.isAgg96
  z138 := Tryd.sizeOf96
  v138 := Tryd.zeroValue96
  t139 := Tryd.underlying97
  a139 := Tryd.isAgg97
  z139 := Tryd.sizeOf97
  v139 := Tryd.zeroValue97
  g3 := by kernel_rfl
  g4 := by kernel_rfl }
def Tryd.laysCount_ren : Go.Shelf.Ren := ⟨fun | 195 => 135 | n => n, fun | 9 => 9 | 3 => 3 | 0 => 0 | 4 => 4 | n => n, fun | n => n⟩
theorem Tryd.laysCount : Go.Proofs.Lays.n195 Tryd.prog Tryd.laysCount_ren := {
  mixed := by kernel_rfl
  f195 := Tryd.func135.trans (congrArg some (by kernel_rfl))
  t0 := Tryd.underlying0
  a0 := Tryd.isAgg0
  z0 := Tryd.sizeOf0
  v0 := Tryd.zeroValue0
  t3 := Tryd.underlying3
  a3 := Tryd.isAgg3
  z3 := Tryd.sizeOf3
  v3 := Tryd.zeroValue3
  t4 := Tryd.underlying4
  a4 := Tryd.isAgg4
  z4 := Tryd.sizeOf4
  v4 := Tryd.zeroValue4
  t9 := Tryd.underlying9
  a9 := Tryd.isAgg9
  z9 := Tryd.sizeOf9
  v9 := Tryd.zeroValue9 }
def Tryd.laysTrimP_ren : Go.Shelf.Ren := ⟨fun | 101 => 101 | 208 => 116 | 206 => 77 | n => n, fun | 9 => 9 | 4 => 4 | 3 => 3 | n => n, fun | n => n⟩
theorem Tryd.laysTrimP : Go.Proofs.Lays.n101 Tryd.prog Tryd.laysTrimP_ren := {
  mixed := by kernel_rfl
  f101 := Tryd.func101.trans (congrArg some (by kernel_rfl))
  f206 := Tryd.func77.trans (congrArg some (by kernel_rfl))
  f208 := Tryd.func116.trans (congrArg some (by kernel_rfl))
  t3 := Tryd.underlying3
  a3 := Tryd.isAgg3
  z3 := Tryd.sizeOf3
  v3 := Tryd.zeroValue3
  t4 := Tryd.underlying4
  a4 := Tryd.isAgg4
  z4 := Tryd.sizeOf4
  v4 := Tryd.zeroValue4
  t9 := Tryd.underlying9
  a9 := Tryd.isAgg9
  z9 := Tryd.sizeOf9
  v9 := Tryd.zeroValue9 }
def Tryd.laysTrimS_ren : Go.Shelf.Ren := ⟨fun | 102 => 100 | 209 => 115 | 207 => 129 | n => n, fun | 9 => 9 | 4 => 4 | 3 => 3 | n => n, fun | n => n⟩
theorem Tryd.laysTrimS : Go.Proofs.Lays.n102 Tryd.prog Tryd.laysTrimS_ren := {
  mixed := by kernel_rfl
  f102 := Tryd.func100.trans (congrArg some (by kernel_rfl))
  f207 := Tryd.func129.trans (congrArg some (by kernel_rfl))
  f209 := Tryd.func115.trans (congrArg some (by kernel_rfl))
  t3 := Tryd.underlying3
  a3 := Tryd.isAgg3
  z3 := Tryd.sizeOf3
  v3 := Tryd.zeroValue3
  t4 := Tryd.underlying4
  a4 := Tryd.isAgg4
  z4 := Tryd.sizeOf4
  v4 := Tryd.zeroValue4
  t9 := Tryd.underlying9
  a9 := Tryd.isAgg9
  z9 := Tryd.sizeOf9
  v9 := Tryd.zeroValue9 }
def Tryd.laysRepl_ren : Go.Shelf.Ren := ⟨fun | 155 => 85 | 154 => 103 | 138 => 121 | 165 => 58 | 143 => 122 | 166 => 59 | 197 => 50 | 169 => 60 | 195 => 135 | 218 => 136 | 240 => 86 | 241 => 87 | 219 => 137 | 260 => 79 | 276 => 104 | 277 => 105 | 217 => 143 | 225 => 144 | 224 => 145 | 267 => 146 | 266 => 148 | 314 => 149 | n => n, fun | 9 => 9 | 3 => 3 | 4 => 4 | 72 => 82 | 0 => 0 | 76 => 86 | 105 => 75 | 21 => 21 | 5 => 5 | 70 => 79 | 20 => 20 | 37 => 80 | 75 => 85 | 127 => 109 | 164 => 120 | 46 => 98 | 119 => 94 | 139 => 97 | 138 => 96 | 146 => 155 | 51 => 141 | 80 => 88 | n => n, fun | 1 => 2 | 3 => 0 | 4 => 1 | n => n⟩
theorem Tryd.laysRepl : Go.Proofs.LaysM.n155 Tryd.prog Tryd.laysRepl_ren := {
  mixed := by kernel_rfl
  f138 := Tryd.func121.trans (congrArg some (by kernel_rfl))
  f143 := Tryd.func122.trans (congrArg some (by kernel_rfl))
  f154 := Tryd.func103.trans (congrArg some (by kernel_rfl))
  f155 := Tryd.func85.trans (congrArg some (by kernel_rfl))
  f165 := Tryd.func58.trans (congrArg some (by kernel_rfl))
  f166 := Tryd.func59.trans (congrArg some (by kernel_rfl))
  f169 := Tryd.func60.trans (congrArg some (by kernel_rfl))
  f195 := Tryd.func135.trans (congrArg some (by kernel_rfl))
  f197 := Tryd.func50.trans (congrArg some (by kernel_rfl))
  f217 := Tryd.func143.trans (congrArg some (by kernel_rfl))
  f218 := Tryd.func136.trans (congrArg some (by kernel_rfl))
  f219 := Tryd.func137.trans (congrArg some (by kernel_rfl))
  f224 := Tryd.func145.trans (congrArg some (by kernel_rfl))
  f225 := Tryd.func144.trans (congrArg some (by kernel_rfl))
  f240 := Tryd.func86.trans (congrArg some (by kernel_rfl))
  f241 := Tryd.func87.trans (congrArg some (by kernel_rfl))
  f260 := Tryd.func79.trans (congrArg some (by kernel_rfl))
  f266 := Tryd.func148.trans (congrArg some (by kernel_rfl))
  f267 := Tryd.func146.trans (congrArg some (by kernel_rfl))
  f276 := Tryd.func104.trans (congrArg some (by kernel_rfl))
  f277 := Tryd.func105.trans (congrArg some (by kernel_rfl))
  f314 := Tryd.func149.trans (congrArg some (by kernel_rfl))
  t0 := Tryd.underlying0
  a0 := Tryd.isAgg0
  z0 := Tryd.sizeOf0
  v0 := Tryd.zeroValue0
  t3 := Tryd.underlying3
  a3 := Tryd.isAgg3
  z3 := Tryd.sizeOf3
  v3 := Tryd.zeroValue3
  t4 := Tryd.underlying4
  a4 := Tryd.isAgg4
  z4 := Tryd.sizeOf4
  v4 := Tryd.zeroValue4
  t5 := Tryd.underlying5
  a5 := Tryd.isAgg5
  z5 := Tryd.sizeOf5
  v5 := Tryd.zeroValue5
  t9 := Tryd.underlying9
  a9 := Tryd.isAgg9
  z9 := Tryd.sizeOf9
  v9 := Tryd.zeroValue9
  t20 := Tryd.underlying20
  a20 := Tryd.isAgg20
  z20 := Tryd.sizeOf20
  v20 := Tryd.zeroValue20
  t21 := Tryd.underlying21
  a21 := Tryd.isAgg21
  z21 := Tryd.sizeOf21
  v21 := Tryd.zeroValue21
  t37 := Tryd.underlying80
  a37 := Tryd.isAgg80
  z37 := Tryd.sizeOf80
  v37 := Tryd.zeroValue80
  t46 := Tryd.underlying98
  a46 := Tryd.isAgg98
  z46 := Tryd.sizeOf98
  v46 := Tryd.zeroValue98
  t51 := Tryd.underlying141
  a51 := Tryd.isAgg141
  z51 := Tryd.sizeOf141
  v51 := Tryd.zeroValue141
  t70 := Tryd.underlying79
  a70 := Tryd.isAgg79
  z70 := Tryd.sizeOf79
  v70 := Tryd.zeroValue79
  t72 := Tryd.underlying82
  a72 := Tryd.isAgg82
  z72 := Tryd.sizeOf82
  v72 := Tryd.zeroValue82
  t75 := Tryd.underlying85
  a75 := Tryd.isAgg85
  z75 := Tryd.sizeOf85
  v75 := Tryd.zeroValue85
  t76 := Tryd.underlying86
  a76 := Tryd.isAgg86
  z76 := Tryd.sizeOf86
  v76 := Tryd.zeroValue86
  t105 := Tryd.underlying75
  a105 := Tryd.isAgg75
  z105 := Tryd.sizeOf75
  v105 := Tryd.zeroValue75
  t119 := Tryd.underlying94
  a119 := Tryd.isAgg94
  z119 := Tryd.sizeOf94
  t127 := Tryd.underlying109
  a127 := Tryd.isAgg109
  z127 := Tryd.sizeOf109
  v127 := Tryd.zeroValue109
  t138 := Tryd.underlying96
  a138 := Tryd.isAgg96
  z138 := Tryd.sizeOf96
  v138 := Tryd.zeroValue96
  t139 := Tryd.underlying97
  a139 := Tryd.isAgg97
  z139 := Tryd.sizeOf97
  v139 := Tryd.zeroValue97
  t146 := Tryd.underlying155
  a146 := Tryd.isAgg155
  z146 := Tryd.sizeOf155
  v146 := Tryd.zeroValue155
  t164 := Tryd.underlying120
  a164 := Tryd.isAgg120
  z164 := Tryd.sizeOf120
  v164 := Tryd.zeroValue120
  g1 := by kernel_rfl
  g3 := by kernel_rfl
  g4 := by kernel_rfl
  t80 := Tryd.underlying88
  a80 := Tryd.isAgg88
  z80 := Tryd.sizeOf88
  v80 := Tryd.zeroValue88
  i0 := by kernel_rfl
  i3 := by kernel_rfl
  i4 := by kernel_rfl
  i5 := by kernel_rfl
  i9 := by kernel_rfl
  i20 := by kernel_rfl
  i21 := by kernel_rfl
  i37 := by kernel_rfl
  i46 := by kernel_rfl
  i51 := by kernel_rfl
  i70 := by kernel_rfl
  i72 := by kernel_rfl
  i75 := by kernel_rfl
  i76 := by kernel_rfl
  i80 := by kernel_rfl
  i105 := by kernel_rfl
  i127 := by kernel_rfl
  i138 := by kernel_rfl
  i139 := by kernel_rfl
  i146 := by kernel_rfl
  i164 := by kernel_rfl
  m1 := by kernel_rfl
  s1_3 := fun w h => Go.Proofs.cell_of_shapedOpen_int (zero := #[.int .i64 0]) (t := 3) h (of_decide_eq_true (by kernel_rfl)) (by kernel_rfl) rfl (by kernel_rfl) (by kernel_rfl) Tryd.underlying3
  m3 := by kernel_rfl
  m4 := by kernel_rfl }
def Tryd.laysParse_ren : Go.Shelf.Ren := ⟨fun | 174 => 99 | 247 => 114 | 245 => 113 | 287 => 112 | 279 => 125 | 280 => 126 | 281 => 127 | 282 => 128 | 321 => 123 | 322 => 124 | 316 => 138 | 171 => 140 | 205 => 139 | 243 => 147 | 246 => 102 | 283 => 117 | 284 => 118 | 285 => 119 | 286 => 120 | 129 => 131 | 317 => 130 | 318 => 132 | 319 => 133 | 320 => 134 | 337 => 141 | 338 => 142 | n => n, fun | 9 => 9 | 3 => 3 | 2 => 2 | 75 => 85 | 85 => 116 | 4 => 4 | 167 => 134 | 5 => 5 | 53 => 113 | 175 => 114 | 46 => 98 | 168 => 136 | 37 => 80 | 0 => 0 | 210 => 147 | 21 => 21 | 127 => 109 | 145 => 152 | 143 => 150 | 171 => 128 | 173 => 131 | 212 => 140 | 51 => 141 | 20 => 20 | 213 => 142 | 232 => 153 | 233 => 154 | 80 => 88 | n => n, fun | 15 => 4 | 16 => 5 | 17 => 3 | 18 => 6 | 19 => 7 | n => n⟩
theorem Tryd.laysParse : Go.Proofs.LaysC.n174 Tryd.prog Tryd.laysParse_ren := {
  mixed := by kernel_rfl
  f129 := Tryd.func131.trans (congrArg some (by kernel_rfl))
  f171 := Tryd.func140.trans (congrArg some (by kernel_rfl))
  f174 := Tryd.func99.trans (congrArg some (by kernel_rfl))
  f205 := Tryd.func139.trans (congrArg some (by kernel_rfl))
  f243 := Tryd.func147.trans (congrArg some (by kernel_rfl))
  f245 := Tryd.func113.trans (congrArg some (by kernel_rfl))
  f246 := Tryd.func102.trans (congrArg some (by kernel_rfl))
  f247 := Tryd.func114.trans (congrArg some (by kernel_rfl))
  f279 := Tryd.func125.trans (congrArg some (by kernel_rfl))
  f280 := Tryd.func126.trans (congrArg some (by kernel_rfl))
  f281 := Tryd.func127.trans (congrArg some (by kernel_rfl))
  f282 := Tryd.func128.trans (congrArg some (by kernel_rfl))
  f283 := Tryd.func117.trans (congrArg some (by kernel_rfl))
  f284 := Tryd.func118.trans (congrArg some (by kernel_rfl))
  f285 := Tryd.func119.trans (congrArg some (by kernel_rfl))
  f286 := Tryd.func120.trans (congrArg some (by kernel_rfl))
  f287 := Tryd.func112.trans (congrArg some (by kernel_rfl))
  f316 := Tryd.func138.trans (congrArg some (by kernel_rfl))
  f317 := Tryd.func130.trans (congrArg some (by kernel_rfl))
  f318 := Tryd.func132.trans (congrArg some (by kernel_rfl))
  f319 := Tryd.func133.trans (congrArg some (by kernel_rfl))
  f320 := Tryd.func134.trans (congrArg some (by kernel_rfl))
  f321 := Tryd.func123.trans (congrArg some (by kernel_rfl))
  f322 := Tryd.func124.trans (congrArg some (by kernel_rfl))
  f337 := Tryd.func141.trans (congrArg some (by kernel_rfl))
  f338 := Tryd.func142.trans (congrArg some (by kernel_rfl))
  t0 := Tryd.underlying0
  a0 := Tryd.isAgg0
  z0 := Tryd.sizeOf0
  v0 := Tryd.zeroValue0
  t2 := Tryd.underlying2
  a2 := Tryd.isAgg2
  z2 := Tryd.sizeOf2
  v2 := Tryd.zeroValue2
  t3 := Tryd.underlying3
  a3 := Tryd.isAgg3
  z3 := Tryd.sizeOf3
  v3 := Tryd.zeroValue3
  t4 := Tryd.underlying4
  a4 := Tryd.isAgg4
  z4 := Tryd.sizeOf4
  v4 := Tryd.zeroValue4
  t5 := Tryd.underlying5
  a5 := Tryd.isAgg5
  z5 := Tryd.sizeOf5
  v5 := Tryd.zeroValue5
  t9 := Tryd.underlying9
  a9 := Tryd.isAgg9
  z9 := Tryd.sizeOf9
  v9 := Tryd.zeroValue9
  t20 := Tryd.underlying20
  a20 := Tryd.isAgg20
  z20 := Tryd.sizeOf20
  v20 := Tryd.zeroValue20
  t21 := Tryd.underlying21
  a21 := Tryd.isAgg21
  z21 := Tryd.sizeOf21
  v21 := Tryd.zeroValue21
  t37 := Tryd.underlying80
  a37 := Tryd.isAgg80
  z37 := Tryd.sizeOf80
  v37 := Tryd.zeroValue80
  t46 := Tryd.underlying98
  a46 := Tryd.isAgg98
  z46 := Tryd.sizeOf98
  v46 := Tryd.zeroValue98
  t51 := Tryd.underlying141
  a51 := Tryd.isAgg141
  z51 := Tryd.sizeOf141
  v51 := Tryd.zeroValue141
  t53 := Tryd.underlying113
  a53 := Tryd.isAgg113
  z53 := Tryd.sizeOf113
  v53 := Tryd.zeroValue113
  t75 := Tryd.underlying85
  a75 := Tryd.isAgg85
  z75 := Tryd.sizeOf85
  v75 := Tryd.zeroValue85
  t85 := Tryd.underlying116
  a85 := Tryd.isAgg116
  z85 := Tryd.sizeOf116
  v85 := Tryd.zeroValue116
  t127 := Tryd.underlying109
  a127 := Tryd.isAgg109
  z127 := Tryd.sizeOf109
  v127 := Tryd.zeroValue109
  t143 := Tryd.underlying150
  a143 := Tryd.isAgg150
  z143 := Tryd.sizeOf150
  v143 := Tryd.zeroValue150
  t145 := Tryd.underlying152
  a145 := Tryd.isAgg152
  z145 := Tryd.sizeOf152
  v145 := Tryd.zeroValue152
  t167 := Tryd.underlying134
  a167 := Tryd.isAgg134
  z167 := Tryd.sizeOf134
  v167 := Tryd.zeroValue134
  t168 := Tryd.underlying136
  a168 := Tryd.isAgg136
  z168 := Tryd.sizeOf136
  v168 := Tryd.zeroValue136
  t171 := Tryd.underlying128
  a171 := Tryd.isAgg128
  z171 := Tryd.sizeOf128
  v171 := Tryd.zeroValue128
  t173 := Tryd.underlying131
  a173 := Tryd.isAgg131
  z173 := Tryd.sizeOf131
  v173 := Tryd.zeroValue131
  t175 := Tryd.underlying114
  a175 := Tryd.isAgg114
  z175 := Tryd.sizeOf114
  v175 := Tryd.zeroValue114
  t210 := Tryd.underlying147
  a210 := Tryd.isAgg147
  z210 := Tryd.sizeOf147
  v210 := Tryd.zeroValue147
  t212 := Tryd.underlying140
  a212 := Tryd.isAgg140
  z212 := Tryd.sizeOf140
  v212 := Tryd.zeroValue140
  t213 := Tryd.underlying142
  a213 := Tryd.isAgg142
  z213 := Tryd.sizeOf142
  t232 := Tryd.underlying153
  a232 := Tryd.isAgg153
  z232 := Tryd.sizeOf153
  v232 := Tryd.zeroValue153
  t233 := Tryd.underlying154
  a233 := Tryd.isAgg154
  z233 := Tryd.sizeOf154
  v233 := Tryd.zeroValue154
  g15 := by kernel_rfl
  g16 := by kernel_rfl
  g17 := by kernel_rfl
  g18 := by kernel_rfl
  g19 := by kernel_rfl
  t80 := Tryd.underlying88
  a80 := Tryd.isAgg88
  z80 := Tryd.sizeOf88
  v80 := Tryd.zeroValue88
  i0 := by kernel_rfl
  i2 := by kernel_rfl
  i3 := by kernel_rfl
  i4 := by kernel_rfl
  i5 := by kernel_rfl
  i9 := by kernel_rfl
  i20 := by kernel_rfl
  i21 := by kernel_rfl
  i37 := by kernel_rfl
  i46 := by kernel_rfl
  i51 := by kernel_rfl
  i53 := by kernel_rfl
  i75 := by kernel_rfl
  i80 := by kernel_rfl
  i85 := by kernel_rfl
  i127 := by kernel_rfl
  i143 := by kernel_rfl
  i145 := by kernel_rfl
  i167 := by kernel_rfl
  i168 := by kernel_rfl
  i171 := by kernel_rfl
  i173 := by kernel_rfl
  i175 := by kernel_rfl
  i210 := by kernel_rfl
  i212 := by kernel_rfl
  i232 := by kernel_rfl
  i233 := by kernel_rfl
  m15 := by kernel_rfl
  m16 := by kernel_rfl
  m17 := by kernel_rfl
  m18 := by kernel_rfl
  m19 := by kernel_rfl
  c0 := by kernel_rfl
  c2 := by kernel_rfl
  c3 := by kernel_rfl
  c4 := by kernel_rfl
  c5 := by kernel_rfl
  c9 := by kernel_rfl
  c20 := by kernel_rfl
  c21 := by kernel_rfl
  c37 := by kernel_rfl
  c46 := by kernel_rfl
  c51 := by kernel_rfl
  c53 := by kernel_rfl
  c75 := by kernel_rfl
  c80 := by kernel_rfl
  c85 := by kernel_rfl
  c127 := by kernel_rfl
  c143 := by kernel_rfl
  c145 := by kernel_rfl
  c167 := by kernel_rfl
  c168 := by kernel_rfl
  c171 := by kernel_rfl
  c173 := by kernel_rfl
  c175 := by kernel_rfl
  c210 := by kernel_rfl
  c212 := by kernel_rfl
  c213 := by kernel_rfl
  c232 := by kernel_rfl
  c233 := by kernel_rfl }
def Tryd.laysFmt_ren : Go.Shelf.Ren := ⟨fun | 173 => 84 | 246 => 102 | 283 => 117 | 284 => 118 | 285 => 119 | 286 => 120 | 129 => 131 | 317 => 130 | 318 => 132 | 319 => 133 | 320 => 134 | 337 => 141 | 338 => 142 | n => n, fun | 2 => 2 | 3 => 3 | 9 => 9 | 4 => 4 | 171 => 128 | 0 => 0 | 53 => 113 | 37 => 80 | 5 => 5 | 173 => 131 | 212 => 140 | 51 => 141 | 20 => 20 | 213 => 142 | 46 => 98 | 232 => 153 | 233 => 154 | n => n, fun | 17 => 3 | 18 => 6 | 19 => 7 | n => n⟩
theorem Tryd.laysFmt : Go.Proofs.LaysM.n173 Tryd.prog Tryd.laysFmt_ren := {
  mixed := by kernel_rfl
  f129 := Tryd.func131.trans (congrArg some (by kernel_rfl))
  f173 := Tryd.func84.trans (congrArg some (by kernel_rfl))
  f246 := Tryd.func102.trans (congrArg some (by kernel_rfl))
  f283 := Tryd.func117.trans (congrArg some (by kernel_rfl))
  f284 := Tryd.func118.trans (congrArg some (by kernel_rfl))
  f285 := Tryd.func119.trans (congrArg some (by kernel_rfl))
  f286 := Tryd.func120.trans (congrArg some (by kernel_rfl))
  f317 := Tryd.func130.trans (congrArg some (by kernel_rfl))
  f318 := Tryd.func132.trans (congrArg some (by kernel_rfl))
  f319 := Tryd.func133.trans (congrArg some (by kernel_rfl))
  f320 := Tryd.func134.trans (congrArg some (by kernel_rfl))
  f337 := Tryd.func141.trans (congrArg some (by kernel_rfl))
  f338 := Tryd.func142.trans (congrArg some (by kernel_rfl))
  t0 := Tryd.underlying0
  a0 := Tryd.isAgg0
  z0 := Tryd.sizeOf0
  v0 := Tryd.zeroValue0
  t2 := Tryd.underlying2
  a2 := Tryd.isAgg2
  z2 := Tryd.sizeOf2
  v2 := Tryd.zeroValue2
  t3 := Tryd.underlying3
  a3 := Tryd.isAgg3
  z3 := Tryd.sizeOf3
  v3 := Tryd.zeroValue3
  t4 := Tryd.underlying4
  a4 := Tryd.isAgg4
  z4 := Tryd.sizeOf4
  v4 := Tryd.zeroValue4
  t5 := Tryd.underlying5
  a5 := Tryd.isAgg5
  z5 := Tryd.sizeOf5
  v5 := Tryd.zeroValue5
  t9 := Tryd.underlying9
  a9 := Tryd.isAgg9
  z9 := Tryd.sizeOf9
  v9 := Tryd.zeroValue9
  t20 := Tryd.underlying20
  a20 := Tryd.isAgg20
  z20 := Tryd.sizeOf20
  v20 := Tryd.zeroValue20
  t37 := Tryd.underlying80
  a37 := Tryd.isAgg80
  z37 := Tryd.sizeOf80
  v37 := Tryd.zeroValue80
  t46 := Tryd.underlying98
  a46 := Tryd.isAgg98
  z46 := Tryd.sizeOf98
  v46 := Tryd.zeroValue98
  t51 := Tryd.underlying141
  a51 := Tryd.isAgg141
  z51 := Tryd.sizeOf141
  v51 := Tryd.zeroValue141
  t53 := Tryd.underlying113
  a53 := Tryd.isAgg113
  z53 := Tryd.sizeOf113
  v53 := Tryd.zeroValue113
  t171 := Tryd.underlying128
  a171 := Tryd.isAgg128
  z171 := Tryd.sizeOf128
  v171 := Tryd.zeroValue128
  t173 := Tryd.underlying131
  a173 := Tryd.isAgg131
  z173 := Tryd.sizeOf131
  v173 := Tryd.zeroValue131
  t212 := Tryd.underlying140
  a212 := Tryd.isAgg140
  z212 := Tryd.sizeOf140
  v212 := Tryd.zeroValue140
  t213 := Tryd.underlying142
  a213 := Tryd.isAgg142
  z213 := Tryd.sizeOf142
  t232 := Tryd.underlying153
  a232 := Tryd.isAgg153
  z232 := Tryd.sizeOf153
  v232 := Tryd.zeroValue153
  t233 := Tryd.underlying154
  a233 := Tryd.isAgg154
  z233 := Tryd.sizeOf154
  v233 := Tryd.zeroValue154
  g17 := by kernel_rfl
  g18 := by kernel_rfl
  g19 := by kernel_rfl
  i0 := by kernel_rfl
  i2 := by kernel_rfl
  i3 := by kernel_rfl
  i4 := by kernel_rfl
  i5 := by kernel_rfl
  i9 := by kernel_rfl
  i20 := by kernel_rfl
  i37 := by kernel_rfl
  i46 := by kernel_rfl
  i51 := by kernel_rfl
  i53 := by kernel_rfl
  i171 := by kernel_rfl
  i173 := by kernel_rfl
  i212 := by kernel_rfl
  i232 := by kernel_rfl
  i233 := by kernel_rfl
  m17 := by kernel_rfl
  m18 := by kernel_rfl
  m19 := by kernel_rfl }
def Tryd.laysHasP_ren : Go.Shelf.Ren := ⟨fun | 99 => 48 | 206 => 77 | n => n, fun | 9 => 9 | 4 => 4 | 3 => 3 | n => n, fun | n => n⟩
theorem Tryd.laysHasP : Go.Proofs.Lays.n99 Tryd.prog Tryd.laysHasP_ren := {
  mixed := by kernel_rfl
  f99 := Tryd.func48.trans (congrArg some (by kernel_rfl))
  f206 := Tryd.func77.trans (congrArg some (by kernel_rfl))
  t3 := Tryd.underlying3
  a3 := Tryd.isAgg3
  z3 := Tryd.sizeOf3
  v3 := Tryd.zeroValue3
  t4 := Tryd.underlying4
  a4 := Tryd.isAgg4
  z4 := Tryd.sizeOf4
  v4 := Tryd.zeroValue4
  t9 := Tryd.underlying9
  a9 := Tryd.isAgg9
  z9 := Tryd.sizeOf9
  v9 := Tryd.zeroValue9 }
def Tryd.laysJoin_ren : Go.Shelf.Ren := ⟨fun | 156 => 29 | 165 => 58 | 166 => 59 | 169 => 60 | 240 => 86 | 241 => 87 | 276 => 104 | 277 => 105 | n => n, fun | 31 => 58 | 9 => 9 | 3 => 3 | 4 => 4 | 0 => 0 | 20 => 20 | 72 => 82 | 76 => 86 | 70 => 79 | 37 => 80 | 75 => 85 | 127 => 109 | 164 => 120 | 5 => 5 | 80 => 88 | n => n, fun | n => n⟩
theorem Tryd.laysJoin : Go.Proofs.Lays.n156 Tryd.prog Tryd.laysJoin_ren := {
  mixed := by kernel_rfl
  f156 := Tryd.func29.trans (congrArg some (by kernel_rfl))
  f165 := Tryd.func58.trans (congrArg some (by kernel_rfl))
  f166 := Tryd.func59.trans (congrArg some (by kernel_rfl))
  f169 := Tryd.func60.trans (congrArg some (by kernel_rfl))
  f240 := Tryd.func86.trans (congrArg some (by kernel_rfl))
  f241 := Tryd.func87.trans (congrArg some (by kernel_rfl))
  f276 := Tryd.func104.trans (congrArg some (by kernel_rfl))
  f277 := Tryd.func105.trans (congrArg some (by kernel_rfl))
  t0 := Tryd.underlying0
  a0 := Tryd.isAgg0
  z0 := Tryd.sizeOf0
  v0 := Tryd.zeroValue0
  t3 := Tryd.underlying3
  a3 := Tryd.isAgg3
  z3 := Tryd.sizeOf3
  v3 := Tryd.zeroValue3
  t4 := Tryd.underlying4
  a4 := Tryd.isAgg4
  z4 := Tryd.sizeOf4
  v4 := Tryd.zeroValue4
  t9 := Tryd.underlying9
  a9 := Tryd.isAgg9
  z9 := Tryd.sizeOf9
  v9 := Tryd.zeroValue9
  t20 := Tryd.underlying20
  a20 := Tryd.isAgg20
  z20 := Tryd.sizeOf20
  v20 := Tryd.zeroValue20
  t31 := Tryd.underlying58
  a31 := Tryd.isAgg58
  z31 := Tryd.sizeOf58
  v31 := Tryd.zeroValue58
  t37 := Tryd.underlying80
  a37 := Tryd.isAgg80
  z37 := Tryd.sizeOf80
  v37 := Tryd.zeroValue80
  t70 := Tryd.underlying79
  a70 := Tryd.isAgg79
  z70 := Tryd.sizeOf79
  v70 := Tryd.zeroValue79
  t72 := Tryd.underlying82
  a72 := Tryd.isAgg82
  z72 := Tryd.sizeOf82
  v72 := Tryd.zeroValue82
  t75 := Tryd.underlying85
  a75 := Tryd.isAgg85
  z75 := Tryd.sizeOf85
  v75 := Tryd.zeroValue85
  t76 := Tryd.underlying86
  a76 := Tryd.isAgg86
  z76 := Tryd.sizeOf86
  v76 := Tryd.zeroValue86
  t127 := Tryd.underlying109
  a127 := Tryd.isAgg109
  z127 := Tryd.sizeOf109
  v127 := Tryd.zeroValue109
  t164 := Tryd.underlying120
  a164 := Tryd.isAgg120
  z164 := Tryd.sizeOf120
  v164 := Tryd.zeroValue120 }
end Go.Proofs

/- The walks of runes.Right and runes.Split. -/
set_option linter.unusedSimpArgs false
set_option linter.unusedVariables false
set_option maxRecDepth 100000
namespace Go.Proofs.YtjhdlbkcpdfpcaaDoor
open Go.RowKit

/-- Go's two tables of UTF-8 lie as the program's text lays them. -/
def Tabs (w : World) : Prop := Lib.Utf8Tabs (Tryd.laysValid_ren.g 3) (Tryd.laysValid_ren.g 4) w

theorem Tabs.below {w w' : World} (h : Tabs w) (hb : Below w.heap.size w w') : Tabs w' := Utf8Tabs_below h hb

/-- The code points as Go's integers. -/
def ptsZ (p : List Nat) : List Int := p.map fun (n : Nat) => (n : Int)
theorem ptsZ_len (p : List Nat) : (ptsZ p).length = p.length := by simp [ptsZ]
theorem ptsZ_append (p q : List Nat) : ptsZ (p ++ q) = ptsZ p ++ ptsZ q := by simp [ptsZ]

theorem Right_any (s : ByteArray) (w : World) (hs : s.size ≤ 9223372036854775807) (hT : Tabs w) :
    Calls Tryd.prog 25 #[.string s] w fun e w' => e = .returned (.bool (decS (bytesU s)).isSome) ∧ Below w.heap.size w w' := by
  have cV : Calls Tryd.prog 45 #[.string s] w _ := Any.utf8_ValidString Tryd.laysValid s w hs hT
  rw [valid_bytes] at cV
  obtain ⟨g, hg⟩ : ∃ g, (decS (bytesU s)).isSome = g := ⟨_, rfl⟩
  rw [hg] at cV ⊢
  have CV := Lib.hid cV
  clear cV hg hT
  go_enter Tryd.func25, Tryd.ntmps25
  go_wp2_with fail
  refine CV.out.mono ?_
  rintro e w1 ⟨rfl, hb⟩
  go_wp2
  go_ret
  exact ⟨rfl, hb⟩

theorem OwnI.iterAt {k : IntKind} {w : World} {base : Nat} {T : TypeId} {v : Value} {l : List Int} (h : OwnI k w base T v l) {b : Nat} (hb : b < base) (s : ByteArray) (pos : Nat) : OwnI k (w.iterAt b s pos) base T v l := by
  obtain ⟨h1, h2⟩ := h
  refine ⟨h1, ?_⟩
  rcases h2 with h2 | ⟨g, cap, cur, hv, hg, hh, r⟩
  · exact .inl h2
  · exact .inr ⟨g, cap, cur, hv, hg, by rw [Lib.iterAt_other _ _ _ _ _ (by omega)]; exact hh, r⟩

/-- What Split hands back: the points, or an error. -/
def RetSp (w : World) (o : Option (List Nat)) (e : Ending) (w' : World) : Prop :=
  Below w.heap.size w w' ∧ ((o = none ∧ e = .returned (.tuple #[.slice none 0 0, .int .i64 3])) ∨
    ∃ p a cap, o = some p ∧ e = .returned (.tuple #[.slice a p.length cap, .int .i64 0]) ∧ p.length ≤ cap ∧ Rs .i32 w'.heap.size w' a (ptsZ p))

theorem Tryd.info21 : (Tryd.prog.info? 21).map (fun i => (i.zero, i.size, i.bytes)) = some (some (.int .i32 0), 1, 4) := by kernel_rfl

end Go.Proofs.YtjhdlbkcpdfpcaaDoor
