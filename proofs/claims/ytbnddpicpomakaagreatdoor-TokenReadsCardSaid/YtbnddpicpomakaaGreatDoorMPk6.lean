/- Several texts of one proof, one behind the other. -/
import Derived.Test.YtbnddpicpomakaaGreatDoorMPk5
import Derived.WalkMore
import Derived.Shelf.Lays
import Derived.Shelf.LaysC
import Derived.Test.YtbnddpicpomakaaGreatDoorProg
set_option linter.unusedSimpArgs false
set_option linter.unusedVariables false

/- A node in memory; the walk of node.Right. -/
set_option linter.unusedSimpArgs false
set_option linter.unusedVariables false
set_option maxRecDepth 100000
namespace Go.Proofs.YtbnddpicpomakaaGreatDoor
open Go.RowKit

/-- Where a node's keys, cells and kids lie. -/
structure NB where
  ka : Option Addr
  kl : Nat
  kc : Nat
  ca : Option Addr
  cl : Nat
  cc : Nat
  da : Option Addr
  dl : Nat
  dc : Nat

/-- A node's value. -/
abbrev NB.v (m : NB) (leaf : Bool) : Value := .agg #[.bool leaf, .slice m.ka m.kl m.kc, .slice m.ca m.cl m.cc, .slice m.da m.dl m.dc]

def Cl.fair (c : Cl) : Prop := c.data.size ≤ 140737488355328 ∧ (-9223372036854775808 ≤ c.len ∧ c.len ≤ 9223372036854775807) ∧ (-9223372036854775808 ≤ c.page ∧ c.page ≤ 9223372036854775807)

/-- The node n lies there. -/
structure NAt (w : World) (n : Nd) (m : NB) : Prop where
  hk : m.kl = n.keys.length
  hc : m.cl = n.cells.length
  hd : m.dl = n.kids.length
  kcap : m.kl ≤ m.kc
  ccap : m.cl ≤ m.cc
  dcap : m.dl ≤ m.dc
  kmax : m.kl ≤ 140737488355328
  cmax : m.cl ≤ 140737488355328
  dmax : m.dl ≤ 140737488355328
  karr : Arr w.heap.size w m.ka (cellsS n.keys)
  carr : Arr w.heap.size w m.ca (cellsC n.cells)
  darr : Arr w.heap.size w m.da (cellsI n.kids)
  kfair : ∀ k ∈ n.keys, k.size ≤ 140737488355328
  cfair : ∀ c ∈ n.cells, c.fair
  dfair : ∀ p ∈ n.kids, -9223372036854775808 ≤ p ∧ p ≤ 9223372036854775807

theorem NAt.later {w w' : World} {n : Nd} {m : NB} (h : NAt w n m) (hb : Below w.heap.size w w') : NAt w' n m :=
  ⟨h.hk, h.hc, h.hd, h.kcap, h.ccap, h.dcap, h.kmax, h.cmax, h.dmax, h.karr.later (N := 0) hb, h.carr.later (N := 0) hb, h.darr.later (N := 0) hb, h.kfair, h.cfair, h.dfair⟩

open Classical in
theorem Nd.ok_eq {n : Nd} {b : Bool} (h : n.Ok ↔ b = true) : n.ok = b := by
  unfold Nd.ok
  cases b with
  | true => exact decide_eq_true (h.2 rfl)
  | false => exact decide_eq_false (fun h2 => by simpa using h.1 h2)

theorem keysOk_iff (l : List ByteArray) : keysOk l = true ↔ KeysOk l := by unfold keysOk; simp

end Go.Proofs.YtbnddpicpomakaaGreatDoor

/- What lies in blocks of a call's own only. -/
set_option linter.unusedSimpArgs false
set_option linter.unusedVariables false
set_option maxRecDepth 100000
namespace Go.Proofs.YtbnddpicpomakaaGreatDoor
open Go.RowKit

/-- The cells lie in no block below number N. -/
def Far (N : Nat) (a : Option Addr) (vs : List Value) : Prop := vs = [] ∨ ∀ b o, a = some ⟨b, o, none⟩ → N ≤ b
theorem own_far {w : World} {base : Nat} {T : TypeId} {z n cap : Nat} {a : Option Addr} {xs : List Value} (h : w.ownsRow base T z (.slice a n cap) n xs) : Far base a xs := by
  rcases h.2 with ⟨hv, hn⟩ | ⟨g, c, cur, hv, hg, _⟩
  · exact .inl (List.length_eq_zero_iff.1 (by rw [h.1, hn]; simp))
  · refine .inr fun b o e => ?_
    simp only [Value.slice.injEq, true_and] at hv
    rw [hv.1] at e
    simp only [Option.some.injEq, Addr.mk.injEq] at e
    omega
theorem Arr.set_far {w : World} {a : Option Addr} {vs : List Value} {N c o : Nat} {v : Value} (h : Arr w.heap.size w a vs) (hf : Far N a vs) (hc : c < N) : Arr (w.setCell ⟨c, o, none⟩ v).heap.size (w.setCell ⟨c, o, none⟩ v) a vs := by
  rcases hf with hf | hf
  · exact .inl hf
  · rcases h with h | ⟨b, o', ha, hN, hcell⟩
    · exact .inl h
    · have := hf b o' ha
      refine .inr ⟨b, o', ha, by simpa [World.setCell] using hN, fun i u hu => ?_⟩
      rw [← hcell i u hu]
      exact World.cell?_of_block (a := ⟨b, o' + i, none⟩) (Below.heap_setCell w ⟨c, o, none⟩ v b (by show b ≠ c; omega))
theorem Far.mono {N M : Nat} {a : Option Addr} {vs : List Value} (h : Far N a vs) (hM : M ≤ N) : Far M a vs := by
  rcases h with h | h
  · exact .inl h
  · exact .inr fun b o e => by have := h b o e; omega

/-- All that the node has lies in blocks from number N on. -/
def NFar (N : Nat) (n : Nd) (m : NB) : Prop := Far N m.ka (cellsS n.keys) ∧ Far N m.ca (cellsC n.cells) ∧ Far N m.da (cellsI n.kids)
theorem NFar.mono {N M : Nat} {n : Nd} {m : NB} (h : NFar N n m) (hM : M ≤ N) : NFar M n m := ⟨h.1.mono hM, h.2.1.mono hM, h.2.2.mono hM⟩
theorem NAt.set_far {w : World} {n : Nd} {m : NB} {N c o : Nat} {v : Value} (h : NAt w n m) (hf : NFar N n m) (hc : c < N) : NAt (w.setCell ⟨c, o, none⟩ v) n m :=
  ⟨h.hk, h.hc, h.hd, h.kcap, h.ccap, h.dcap, h.kmax, h.cmax, h.dmax, h.karr.set_far hf.1 hc, h.carr.set_far hf.2.1 hc, h.darr.set_far hf.2.2 hc, h.kfair, h.cfair, h.dfair⟩
end Go.Proofs.YtbnddpicpomakaaGreatDoor

/- The walk of token.digitsOf. -/
set_option linter.unusedSimpArgs false
set_option linter.unusedVariables false
set_option maxRecDepth 100000
namespace Go.Proofs.YtbnddpicpomakaaGreatDoor
open Go.RowKit

/-- The digit of a number below sixteen. -/
def hexd (n : Nat) : Nat := if n < 10 then 48 + n else 87 + n
/-- The digits of bytes. -/
def hexN (l : List Nat) : List Nat := l.flatMap fun c => [hexd (c / 16), hexd (c % 16)]
theorem hexd_lt {n : Nat} (h : n < 16) : hexd n < 256 := by unfold hexd; split <;> omega
theorem hexN_len (l : List Nat) : (hexN l).length = l.length * 2 := by
  induction l with
  | nil => rfl
  | cons x r ih => simp only [hexN, List.flatMap_cons, List.length_append] at ih ⊢; rw [ih]; simp; omega
theorem hexN_take {l : List Nat} {k : Nat} (h : k < l.length) : hexN (l.take (k + 1)) = hexN (l.take k) ++ [hexd (l[k] / 16), hexd (l[k] % 16)] := by
  unfold hexN; rw [List.take_succ_eq_append_getElem h, List.flatMap_append]; simp
def hexS (s : ByteArray) : ByteArray := strN (hexN (bytesU s))

theorem info_u8T : (Tryz.prog.info? 5).map (fun i => (i.zero, i.size, i.bytes)) = some (some (.int .u8 0), 1, 1) := by kernel_rfl
theorem cellsU_app (a b : List Nat) : cellsU (a ++ b) = cellsU a ++ cellsU b := by simp [cellsU]

theorem and15 : ∀ c : Fin 256, bits .and .u8 (c.1 : Int) 15 = ((c.1 % 16 : Nat) : Int) := by decide +kernel
def hexT : ByteArray := ⟨#[48, 49, 50, 51, 52, 53, 54, 55, 56, 57, 97, 98, 99, 100, 101, 102]⟩
theorem exec_hex {o : Oper} {a : Act} {x y : Operand} (n : Nat) (hn : n < 16) (ho : o.op = .index 9 x y) (hx : a.eval x = .string hexT) (hy : a.eval y = .int .u8 (n : Int)) (w : World) : (execOp a.eval o).run Tryz.prog w = .ok (.value (.int .u8 (hexd n : Int))) w := by
  unfold execOp
  simp only [ho, hx, hy]
  have h16 : n = 0 ∨ n = 1 ∨ n = 2 ∨ n = 3 ∨ n = 4 ∨ n = 5 ∨ n = 6 ∨ n = 7 ∨ n = 8 ∨ n = 9 ∨ n = 10 ∨ n = 11 ∨ n = 12 ∨ n = 13 ∨ n = 14 ∨ n = 15 := by omega
  rcases h16 with rfl | rfl | rfl | rfl | rfl | rfl | rfl | rfl | rfl | rfl | rfl | rfl | rfl | rfl | rfl | rfl <;> first | rfl | (go_simp; done) | (go_simp; rfl)

set_option maxHeartbeats 2000000 in
theorem digitsOf_any (s : ByteArray) (w : World) (hs : s.size ≤ 1000000) :
    Calls Tryz.prog 68 #[.string s] w fun e w' => e = .returned (.string (hexS s)) ∧ Below w.heap.size w w' := by
  obtain ⟨i0, hi, hz0, hz1, hz2⟩ := info_parts info_u8T
  have HV0 : Hid (w.ownsRow w.heap.size 5 1 (.slice none 0 0) 0 (cellsU (hexN ((bytesU s).take 0)))) := World.ownsRow_nil _ _ _ _
  go_enter Tryz.func68, Tryz.ntmps68
  go_wp2
  go_loopw [3, 7] (fun v i wr => ∃ (k : Nat) (cv : Value), cv = v ∧ k ≤ s.size ∧ i = .int .i64 (k : Int) ∧ Hid (wr.ownsRow w.heap.size 5 1 cv (k * 2) (cellsU (hexN ((bytesU s).take k)))) ∧ Hid (Below w.heap.size w wr)) (fun _ i _ => s.size - (intOf i).toNat)
  case atStart => exact ⟨0, _, rfl, by omega, rfl, HV0, Below.refl _ _⟩
  case round =>
    clear HV0
    obtain ⟨k, cv, rfl, hk, rfl, HV, HB⟩ := hrel
    by_cases hlt : k < s.size
    · have hkl : k < (bytesU s).length := by rw [bytesU_len]; exact hlt
      have HTk := Lib.hid (hexN_take hkl)
      have hbk : (bytesU s)[k] = (s[k]'hlt).toNat := by simp [bytesU]; rfl
      rw [hbk] at HTk
      have hlt256 : (s[k]'hlt).toNat < 256 := (s[k]'hlt).toNat_lt
      obtain ⟨c, hc⟩ : ∃ c, (s[k]'hlt).toNat = c := ⟨_, rfl⟩
      rw [hc] at HTk hlt256
      have hz : k * 2 < 1000000000000 - 2 := by omega
      have HBs := Lib.hid HB.out.size
      clear hbk hkl
      go_wp2_with fail
      refine wp_region_ordX cv.ownBlock.toList 13 [(0, true), (1, true), (2, true), (3, true), (4, true), (5, true), (6, true), (7, true), (8, true), (9, true), (10, true), (11, false), (12, false)] (by kernel_rfl) (by kernel_rfl) (by kernel_rfl) (by kernel_rfl) ?_
      repeat (first | (refine wpOX_F (v := ?_) rfl (by rfl) (fun w' hL => ?_) ?_; rotate_left; (solve | (go_simp; with_reducible rfl) | go_simp); try simp only [Act.put, List.setIfInBounds_toArray, List.set_cons_zero, List.set_cons_succ]))
      have h16 : ((c / 16 : Nat) : Int) = (c : Int) / 16 := by omega
      refine wpOX_F rfl (by rfl) (fun w' _ => exec_hex (c / 16) (by omega) rfl rfl (by rw [h16]; rfl) w') ?_
      try simp only [Act.put, List.setIfInBounds_toArray, List.set_cons_zero, List.set_cons_succ]
      repeat (first | (refine wpOX_F (v := ?_) rfl (by rfl) (fun w' hL => ?_) ?_; rotate_left; (solve | (go_simp; with_reducible rfl) | go_simp); try simp only [Act.put, List.setIfInBounds_toArray, List.set_cons_zero, List.set_cons_succ]))
      have h15 : bits .and .u8 (c : Int) 15 = ((c % 16 : Nat) : Int) := and15 ⟨c, hlt256⟩
      rw [h15]
      refine wpOX_F rfl (by rfl) (fun w' _ => exec_hex (c % 16) (by omega) rfl rfl rfl w') ?_
      try simp only [Act.put, List.setIfInBounds_toArray, List.set_cons_zero, List.set_cons_succ]
      refine wpOX_C rfl (by rfl) ?_
      go_simp
      refine ⟨(Chg.refl _ _).alloc _, ?_⟩
      try simp only [Act.put, List.setIfInBounds_toArray, List.set_cons_zero, List.set_cons_succ]
      have hr2 : wr.drew.ownsRow w.heap.size 5 1 cv (k * 2) (cellsU (hexN ((bytesU s).take k))) := HV.out
      refine wpOX_C rfl (by rfl) ?_
      refine wp_appM (.tmp 10) (.tmp 21) 99 rfl w.heap.size 5 i0 (.int .u8 0) 1 1 2 Tryz.underlying99 hi hz0 rfl hz1 (by omega) hz2 (by omega) cv (k * 2) _ [.int .u8 (hexd (c / 16) : Int), .int .u8 (hexd (c % 16) : Int)] wr.drew hr2 rfl _ rfl rfl (by simp [Value.oneCell']) rfl (by omega) HBs.out ?_
      intro cv2 x4 hr4 hc4 hsz4
      refine ⟨hc4, ?_⟩
      try simp only [Act.put, List.setIfInBounds_toArray, List.set_cons_zero, List.set_cons_succ]
      have HB4 : Hid (Below w.heap.size w x4) := HB.out.trans (((Below.refl w.heap.size wr).drew.alloc HBs.out _).trans (hc4.below (by have := HBs.out; simp; omega) (fun g hg => (hr2.lt g (by simpa using hg)).1)))
      have hr5 : x4.ownsRow w.heap.size 5 1 cv2 ((k + 1) * 2) (cellsU (hexN ((bytesU s).take (k + 1)))) := by
        rw [HTk.out, cellsU_app, show (k + 1) * 2 = k * 2 + 2 by omega]; exact hr4
      have HR5 := Lib.hid hr5
      clear hr2 hr4 hc4 hsz4 hr5
      repeat (first | (refine wpOX_F (v := ?_) rfl (by rfl) (fun w' hL => ?_) ?_; rotate_left; (solve | (go_simp; with_reducible rfl) | go_simp); try simp only [Act.put, List.setIfInBounds_toArray, List.set_cons_zero, List.set_cons_succ]) | (refine wpOX_G (Chg.refl _) rfl (by rfl) ?_; try simp only [Act.put, List.setIfInBounds_toArray, List.set_cons_zero, List.set_cons_succ]))
      refine wpOX_end rfl (by rfl) ?_
      go_simp
      simp only [NoPanic]
      go_wp2
      go_roundw
      case rel => exact ⟨k + 1, cv2, rfl, by omega, by go_num, HR5.out, HB4.out⟩
      case measure => simp [intOf]; omega
    · have hke : k = s.size := by omega
      have HO := HV.out
      rw [hke, List.take_of_length_le (by rw [bytesU_len]; omega)] at HO
      obtain ⟨ac, cc, hcv, hcc, hcm, hA⟩ := own_slice HO
      have hlt : ∀ c ∈ hexN (bytesU s), c < 256 := fun c hc => by
        unfold hexN at hc
        obtain ⟨d, hd, hc⟩ := List.mem_flatMap.1 hc
        have hd256 := bytesU_lt s d hd
        rcases List.mem_cons.1 hc with rfl | hc
        · exact hexd_lt (by omega)
        · rw [List.mem_singleton.1 hc]; exact hexd_lt (by omega)
      have HCV := Lib.hid ((hA.bs hlt).conv 99 5 Tryz.underlying99 Tryz.underlying5 9 Tryz.underlying9 (s.size * 2) cc (by rw [hexN_len, bytesU_len]))
      obtain ⟨n2, hn2⟩ : ∃ n2, s.size * 2 = n2 := ⟨_, rfl⟩
      rw [hn2] at hcv HCV
      have hcn := HCV.out
      subst hcv
      clear HO hA hlt HV hn2 hcc hcm
      go_wp2
      go_ret
      exact ⟨rfl, HB.out⟩
end Go.Proofs.YtbnddpicpomakaaGreatDoor

/- The walks of token.text and token.Write. -/
set_option linter.unusedSimpArgs false
set_option linter.unusedVariables false
set_option maxRecDepth 100000
namespace Go.Proofs.YtbnddpicpomakaaGreatDoor
open Go.RowKit

/-- A token. -/
structure Tk where
  kd : Int
  at_ : Int
  tx : ByteArray
  n : Int
  deriving DecidableEq
def Tk.cells (t : Tk) : List Value := [.int .i64 t.kd, .int .i64 t.at_, .string t.tx, .int .i64 t.n]
structure Tk.fair (t : Tk) : Prop where
  kd : -9223372036854775808 ≤ t.kd ∧ t.kd ≤ 9223372036854775807
  at_ : -9223372036854775808 ≤ t.at_ ∧ t.at_ ≤ 9223372036854775807
  tx : t.tx.size ≤ 140737488351232
  n : -9223372036854775808 ≤ t.n ∧ t.n ≤ 9223372036854775807
def cellsTk (l : List Tk) : List Value := cellsOf Tk.cells l
theorem cellsTk_len (l : List Tk) : (cellsTk l).length = l.length * 4 := cellsOf_len _ 4 (fun _ => rfl) l
theorem tkAt {N : Nat} {w : World} {a : Option Addr} {l : List Tk} (h : Arr N w a (cellsTk l)) {k : Nat} (hk : k < l.length) : ∃ b o, a = some ⟨b, o, none⟩ ∧ b < N ∧
    w.cell? ⟨b, o + k * 4, none⟩ = some (.int .i64 l[k].kd) ∧ w.cell? ⟨b, o + k * 4 + 1, none⟩ = some (.int .i64 l[k].at_) ∧ w.cell? ⟨b, o + k * 4 + 2, none⟩ = some (.string l[k].tx) ∧ w.cell? ⟨b, o + k * 4 + 3, none⟩ = some (.int .i64 l[k].n) := by
  obtain ⟨b, o, ha, hb, hc⟩ := h.at_ (by intro h0; have := cellsTk_len l; rw [h0] at this; simp at this; omega)
  have g := fun (j : Nat) (v : Value) (hv : (Tk.cells l[k])[j]? = some v) => hc _ _ (cellsOf_get Tk.cells 4 (fun _ => rfl) l k j l[k] v (List.getElem?_eq_getElem hk) hv)
  exact ⟨b, o, ha, hb, by simpa using g 0 _ rfl, by simpa [Nat.add_assoc] using g 1 _ rfl, by simpa [Nat.add_assoc] using g 2 _ rfl, by simpa [Nat.add_assoc] using g 3 _ rfl⟩

/-- The text of a token, if it has one. -/
def Tk.text (t : Tk) : ByteArray × Bool :=
  if t.kd = 1 ∨ t.kd = 5 then (t.tx, true) else if t.kd = 2 then (baL (Lib.itoa t.n), true) else if t.kd = 3 then (quoteS t.tx, true) else if t.kd = 4 then (⟨#[120]⟩ ++ quoteS (hexS t.tx), true) else (⟨#[]⟩, false)

structure Slot4 (W : World) (B : Nat) (v0 v1 v2 v3 : Value) : Prop where
  c0 : W.cell? ⟨B, 0, none⟩ = some v0
  c1 : W.cell? ⟨B, 1, none⟩ = some v1
  c2 : W.cell? ⟨B, 2, none⟩ = some v2
  c3 : W.cell? ⟨B, 3, none⟩ = some v3
theorem Slot4.new (w : World) (T : TypeId) (v0 v1 v2 v3 : Value) : Slot4 (w.alloc (.cells #[v0, v1, v2, v3] T)) w.heap.size v0 v1 v2 v3 := ⟨by simp, by simp, by simp, by simp⟩
theorem Slot4.later {W W' : World} {B N : Nat} {v0 v1 v2 v3 : Value} (h : Slot4 W B v0 v1 v2 v3) (hB : B < N) (hb : Below N W W') : Slot4 W' B v0 v1 v2 v3 :=
  ⟨(hb.cell (p := ⟨B, 0, none⟩) hB).trans h.c0, (hb.cell (p := ⟨B, 1, none⟩) hB).trans h.c1, (hb.cell (p := ⟨B, 2, none⟩) hB).trans h.c2, (hb.cell (p := ⟨B, 3, none⟩) hB).trans h.c3⟩

theorem hexS_size (s : ByteArray) : (hexS s).size = 2 * s.size := by
  unfold hexS; rw [strN_size, hexN_len, bytesU_len]; omega
theorem quoteS_size (s : ByteArray) : (quoteS s).size ≤ 2 * s.size + 2 := by
  rw [← quote_cat]
  have := dbl_size s
  simp only [ByteArray.size_append]
  have h1 : (⟨#[39]⟩ : ByteArray).size = 1 := rfl
  omega

set_option maxHeartbeats 2000000 in
theorem tkText_any (t : Tk) (w : World) (hT : Pre4 w) (hF : t.fair) (hs : t.tx.size ≤ 400000) :
    Calls Tryz.prog 35 #[.agg #[.int .i64 t.kd, .int .i64 t.at_, .string t.tx, .int .i64 t.n]] w fun e w' => e = .returned (.tuple #[.string t.text.1, .bool t.text.2]) ∧ Below w.heap.size w w' := by
  obtain ⟨kd, at_, tx, n⟩ := t
  simp only at hs ⊢
  have hn := hF.n
  simp only at hn
  have HX := Lib.hid (Slot4.new w 36 (.int .i64 kd) (.int .i64 at_) (.string tx) (.int .i64 n))
  have HB0 : Hid (∀ o, Below w.heap.size w (w.alloc o)) := fun o => (Below.refl _ w).alloc (Nat.le_refl _) _
  have HP := Lib.hid (fun W (hb : Below w.heap.size w W) => hT.below hb)
  clear hF hT
  have hcase : kd = 1 ∨ kd = 5 ∨ kd = 2 ∨ kd = 3 ∨ kd = 4 ∨ (kd ≠ 1 ∧ kd ≠ 5 ∧ kd ≠ 2 ∧ kd ≠ 3 ∧ kd ≠ 4) := by omega
  obtain ⟨x0, x1, x2, x3⟩ := HX.out
  rcases hcase with rfl | rfl | rfl | rfl | rfl | ⟨h1, h5, h2, h3, h4⟩
  · go_enter Tryz.func35, Tryz.ntmps35
    go_wp2
    go_ret2
    exact ⟨rfl, HB0.out _⟩
  · go_enter Tryz.func35, Tryz.ntmps35
    go_wp2
    go_ret2
    exact ⟨rfl, HB0.out _⟩
  · have HD := Lib.hid (fun W (hb : Below w.heap.size w W) => Digits_any n W (HP.out W hb) hn.1 hn.2)
    have HR : Hid (Tk.text ⟨2, at_, tx, n⟩ = (baL (Lib.itoa n), true)) := rfl
    rw [HR.out]
    generalize baL (Lib.itoa n) = d at *
    go_enter Tryz.func35, Tryz.ntmps35
    go_wp2_with fail
    refine (HD.out _ (HB0.out _)).mono ?_
    rintro e w1 ⟨rfl, hb1⟩
    have HB1 := Lib.hid ((HB0.out _).trans (hb1.mono (by simp)))
    clear hb1 x0 x1 x2 x3
    go_wp2
    go_ret2
    exact ⟨rfl, HB1.out⟩
  · have HD := Lib.hid (fun W (hb : Below w.heap.size w W) => Quote_any tx W (HP.out W hb) (by omega))
    have HR : Hid (Tk.text ⟨3, at_, tx, n⟩ = (quoteS tx, true)) := rfl
    rw [HR.out]
    generalize quoteS tx = d at *
    go_enter Tryz.func35, Tryz.ntmps35
    go_wp2_with fail
    refine (HD.out _ (HB0.out _)).mono ?_
    rintro e w1 ⟨rfl, hb1⟩
    have HB1 := Lib.hid ((HB0.out _).trans (hb1.mono (by simp)))
    clear hb1 x0 x1 x2 x3
    go_wp2
    go_ret2
    exact ⟨rfl, HB1.out⟩
  · have HH := Lib.hid (fun W => digitsOf_any tx W (by omega))
    have hz := hexS_size tx
    have HR : Hid (Tk.text ⟨4, at_, tx, n⟩ = (⟨#[120]⟩ ++ quoteS (hexS tx), true)) := rfl
    rw [HR.out]
    generalize hexS tx = h at *
    have HD := Lib.hid (fun W (hb : Below w.heap.size w W) => Quote_any h W (HP.out W hb) (by omega))
    have hq := quoteS_size h
    generalize quoteS h = d at *
    have s1 : ¬ 9223372036854775807 < 1 + d.size := by omega
    go_enter Tryz.func35, Tryz.ntmps35
    go_wp2_with fail
    refine (HH.out _).mono ?_
    rintro e w1 ⟨rfl, hb1⟩
    have HB1 := Lib.hid ((HB0.out _).trans (hb1.mono (by simp)))
    clear hb1 x0 x1 x2 x3 hz
    go_wp2_with fail
    refine (HD.out _ HB1.out).mono ?_
    rintro e w2 ⟨rfl, hb2⟩
    have HB2 := Lib.hid (HB1.out.trans (hb2.mono HB1.out.size))
    clear hb2
    go_wp2
    go_ret2
    exact ⟨rfl, HB2.out⟩
  · have q1 : (kd == 1) = false := by simpa using h1
    have q5 : (kd == 5) = false := by simpa using h5
    have q2 : (kd == 2) = false := by simpa using h2
    have q3 : (kd == 3) = false := by simpa using h3
    have q4 : (kd == 4) = false := by simpa using h4
    have HR : Hid (Tk.text ⟨kd, at_, tx, n⟩ = (⟨#[]⟩, false)) := by unfold Tk.text; simp [h1, h5, h2, h3, h4, Hid]
    rw [HR.out]
    clear h1 h5 h2 h3 h4
    go_enter Tryz.func35, Tryz.ntmps35
    go_wp2
    go_ret2
    exact ⟨rfl, HB0.out _⟩
end Go.Proofs.YtbnddpicpomakaaGreatDoor

/- Reading tokens: what the functions of front.go tell of bytes. -/
set_option linter.unusedSimpArgs false
set_option linter.unusedVariables false
set_option maxRecDepth 100000
namespace Go.Proofs.YtbnddpicpomakaaGreatDoor
open Go.RowKit

/-- How many bytes at the front are of these classes. -/
def skipR (ks : List Int) : List Nat → Nat
  | [] => 0
  | c :: l => if ks.contains (classZ (c : Int)) then skipR ks l + 1 else 0
theorem skipR_le (ks : List Int) : ∀ l : List Nat, skipR ks l ≤ l.length
  | [] => Nat.le_refl _
  | c :: l => by
    have := skipR_le ks l
    rw [skipR]; split <;> simp only [List.length_cons] <;> omega
theorem skipR_all {ks : List Int} {l : List Nat} {k : Nat} (h : ∀ i, i < k → ∃ c, l[i]? = some c ∧ ks.contains (classZ (c : Int)) = true) : skipR ks l = k + skipR ks (l.drop k) := by
  induction k generalizing l with
  | zero => simp
  | succ k ih =>
    obtain ⟨c, hc, hk⟩ := h 0 (by omega)
    cases l with
    | nil => simp at hc
    | cons d l =>
      simp at hc
      subst hc
      rw [skipR, if_pos hk, List.drop_succ_cons, ih (l := l) (fun i hi => by simpa using h (i + 1) (by omega))]
      omega

/-- How the quotes stand: is one open, how many bytes lie behind the last one's end, and the number of bytes so far. -/
def quoR : Bool → Nat → Nat → List Nat → Bool × Nat
  | o, z, _, [] => (o, z)
  | o, z, i, c :: l => if c = 39 then quoR (!o) (i + 1) (i + 1) l else if o then quoR o z (i + 1) l else (o, z)
/-- How many bytes the quoted string at the front has. -/
def quotesR (l : List Nat) : Nat := if (quoR false 0 0 l).1 then 0 else (quoR false 0 0 l).2
theorem quoR_le : ∀ (l : List Nat) (o : Bool) (z i : Nat), z ≤ i → (quoR o z i l).2 ≤ i + l.length
  | [], o, z, i, h => by simp [quoR]; omega
  | c :: l, o, z, i, h => by
    rw [quoR]
    split
    · have := quoR_le l (!o) (i + 1) (i + 1) (Nat.le_refl _); simp only [List.length_cons]; omega
    · split
      · have := quoR_le l o z (i + 1) (by omega); simp only [List.length_cons]; omega
      · simp only [List.length_cons]; omega
theorem quotesR_le (l : List Nat) : quotesR l ≤ l.length := by
  unfold quotesR
  split
  · omega
  · have := quoR_le l false 0 0 (Nat.le_refl _); omega

def zTk : Tk := ⟨0, 0, ⟨#[]⟩, 0⟩
/-- What a function of front.go hands back: a token, its size, an error. -/
abbrev FrR := Tk × Nat × Int
def wordR (l : List Nat) : FrR :=
  let z := skipR [2, 3] l
  let r := nameV (strN (l.take z))
  if r.2 = 0 then (⟨1, 0, r.1, 0⟩, z, 0) else (zTk, 0, 40)
def numR (l : List Nat) : FrR :=
  let z := skipR [3] l
  if z < skipR [3, 2] l then (zTk, 0, 40)
  else
    let r := numberV (strN (l.take z))
    if r.2 = 0 then (⟨2, 0, ⟨#[]⟩, r.1⟩, z, 0) else (zTk, 0, r.2)
def quotR (l : List Nat) : FrR :=
  let z := quotesR l
  let r := unquoteS (strN (l.take z))
  if r.2 = 0 then (⟨3, 0, r.1, 0⟩, z, 0) else (zTk, 0, 40)
/-- The value of a hexadecimal digit. -/
def hexV (c : Nat) : Option Nat := if 48 ≤ c ∧ c ≤ 57 then some (c - 48) else if 97 ≤ c ∧ c ≤ 102 then some (c - 87) else if 65 ≤ c ∧ c ≤ 70 then some (c - 55) else none
/-- The bytes of digits. -/
def unhexR : List Nat → Option (List Nat)
  | [] => some []
  | [_] => none
  | a :: b :: l => match hexV a, hexV b, unhexR l with
    | some x, some y, some r => some ((16 * x + y) :: r)
    | _, _, _ => none
def blobR (l : List Nat) : FrR :=
  let q := quotR (l.drop 1)
  if q.2.2 = 0 then
    match unhexR (bytesU q.1.tx) with
    | some b => (⟨4, 0, strN b, 0⟩, 1 + q.2.1, 0)
    | none => (zTk, 0, 40)
  else (zTk, 0, q.2.2)
def signsR : List (List Nat) := [[60, 61], [62, 61], [60, 62], [124, 124], [40], [41], [44], [59], [46], [42], [43], [45], [47], [37], [61], [60], [62]]
def signR (l : List Nat) : FrR :=
  match signsR.find? (fun x => x.isPrefixOf l) with
  | some x => (⟨5, 0, strN x, 0⟩, x.length, 0)
  | none => (zTk, 0, 40)
def frontR (l : List Nat) : FrR :=
  if [120, 39].isPrefixOf l || [88, 39].isPrefixOf l then blobR l
  else
    let c := classZ ((l.headD 128 : Nat) : Int)
    if c = 2 then wordR l else if c = 3 then numR l else if c = 4 then quotR l else signR l
/-- The tokens from a place on, in so many rounds: their list, the place behind them, the error. -/
def readR (l : List Nat) : Nat → Nat → List Tk × Nat × Int
  | 0, at_ => ([], at_, 0)
  | n + 1, at_ =>
    if at_ < l.length then
      let q := frontR (l.drop at_)
      if q.2.2 = 0 then
        let a2 := at_ + q.2.1
        let a3 := a2 + skipR [1] (l.drop a2)
        let r := readR l n a3
        (⟨q.1.kd, at_, q.1.tx, q.1.n⟩ :: r.1, r.2.1, r.2.2)
      else ([], at_, q.2.2)
    else ([], at_, 0)
/-- What Read tells: the tokens, the place and the code of the fault. -/
def readV19 (s : ByteArray) : List Tk × Nat × Int :=
  if 4096 < s.size then ([], 0, 2)
  else if (decS (bytesU s)).isSome = false then ([], 0, 3)
  else
    let r := readR (bytesU s) (s.size + 1) (skipR [1] (bytesU s))
    if r.2.2 = 0 then (r.1 ++ [⟨0, r.2.1, ⟨#[]⟩, 0⟩], 0, 0) else ([], r.2.1, r.2.2)
end Go.Proofs.YtbnddpicpomakaaGreatDoor

/- The walks of slices.Contains of integers, and of token.run. -/
set_option linter.unusedSimpArgs false
set_option linter.unusedVariables false
set_option maxRecDepth 100000
namespace Go.Proofs.YtbnddpicpomakaaGreatDoor
open Go.RowKit

abbrev cellsK (ks : List Int) : List Value := ks.map (Value.int .i64)
theorem kAt {N : Nat} {w : World} {a : Option Addr} {ks : List Int} (h : Arr N w a (cellsK ks)) {k : Nat} (hk : k < ks.length) : ∃ b o, a = some ⟨b, o, none⟩ ∧ b < N ∧ w.cell? ⟨b, o + k, none⟩ = some (.int .i64 ks[k]) := by
  obtain ⟨b, o, ha, hb, hc⟩ := h.at_ (by intro h0; have := congrArg List.length h0; simp at this; rw [this] at hk; simp at hk)
  exact ⟨b, o, ha, hb, hc k _ (by simp [List.getElem?_eq_getElem hk])⟩

theorem kIndex_any (ks : List Int) (v : Int) (a : Option Addr) (cap : Nat) (w : World) (h : Arr w.heap.size w a (cellsK ks)) (hl : ks.length ≤ 100) :
    Calls Tryz.prog 89 #[.slice a ks.length cap, .int .i64 v] w fun e w' => (∃ r : Int, e = .returned (.int .i64 r) ∧ decide (0 ≤ r) = ks.contains v) ∧ w' = w := by
  have HA := Lib.hid h
  obtain ⟨m, hm⟩ : ∃ m, ks.length = m := ⟨_, rfl⟩
  have HM := Lib.hid hm
  rw [hm] at hl ⊢
  clear h hm
  go_enter Tryz.func89, Tryz.ntmps89
  go_wp2
  go_loopw [8] (fun i wr => ∃ k : Nat, k ≤ m ∧ i = .int .i64 k ∧ wr = w ∧ Hid (∀ j c, j < k → ks[j]? = some c → c ≠ v)) (fun i _ => m - (intOf i).toNat)
  case atStart => exact ⟨0, by omega, rfl, rfl, fun j c hj _ => by omega⟩
  case round =>
    obtain ⟨k, hk, rfl, rfl, HI⟩ := hrel
    by_cases hlt : k < m
    · have hkl : k < ks.length := by rw [HM.out]; exact hlt
      obtain ⟨b, o, hab, hb, hc⟩ := kAt HA.out hkl
      subst hab
      by_cases hv : v = ks[k]
      · have q1 : (v == ks[k]) = true := by simpa using hv
        have HV : Hid (decide ((0 : Int) ≤ (k : Int)) = ks.contains v) := by
          show _ = _
          rw [show ks.contains v = true by rw [List.contains_iff_mem, hv]; exact List.getElem_mem hkl]
          simp
        generalize ks[k] = c at *
        clear hv
        go_wp2
        go_ret
        exact ⟨⟨_, rfl, HV.out⟩, rfl⟩
      · have q1 : (v == ks[k]) = false := by simpa using hv
        have HI2 : Hid (∀ j c, j < k + 1 → ks[j]? = some c → c ≠ v) := fun j c hj he => by
          by_cases h : j = k
          · subst h
            rw [List.getElem?_eq_getElem hkl] at he
            injection he with he
            subst he; exact fun h => hv h.symm
          · exact HI.out j c (by omega) he
        generalize ks[k] = c at *
        clear hv
        go_wp2
        go_roundw
        case rel => exact ⟨k + 1, by omega, by go_num, (by first | rfl | trivial), HI2⟩
        case measure => simp [intOf]; omega
    · have q0 : decide ((k : Int) < (m : Int)) = false := by simp; omega
      have HV : Hid (decide ((0 : Int) ≤ (-1 : Int)) = ks.contains v) := by
        show _ = _
        rw [show ks.contains v = false by
          rw [Bool.eq_false_iff]; intro h
          obtain ⟨j, hj, he⟩ := List.getElem_of_mem (List.contains_iff_mem.1 h)
          exact HI.out j _ (by rw [HM.out] at hj; omega) (List.getElem?_eq_getElem hj) he]
        rfl
      go_wp2
      go_ret
      exact ⟨⟨_, rfl, HV.out⟩, rfl⟩

theorem kContains_any (ks : List Int) (v : Int) (a : Option Addr) (cap : Nat) (w : World) (h : Arr w.heap.size w a (cellsK ks)) (hl : ks.length ≤ 100) :
    Calls Tryz.prog 50 #[.slice a ks.length cap, .int .i64 v] w fun e w' => e = .returned (.bool (ks.contains v)) ∧ w' = w := by
  have HC := Lib.hid (kIndex_any ks v a cap w h hl)
  generalize ks.contains v = t at *
  generalize ks.length = m at *
  clear h hl
  go_enter Tryz.func50, Tryz.ntmps50
  go_wp2_with fail
  refine HC.out.mono ?_
  rintro e w1 ⟨⟨r, rfl, hr⟩, rfl⟩
  clear HC
  cases t <;>
  · go_wp2
    go_ret
    exact ⟨ret_b (by first | rfl | (rw [← hr]; rfl) | simp [hr]), rfl⟩

set_option maxHeartbeats 2000000 in
theorem tkRun_any (s : ByteArray) (ks : List Int) (a : Option Addr) (cap : Nat) (w : World) (hs : s.size ≤ 1000000) (h : Arr w.heap.size w a (cellsK ks)) (hl : ks.length ≤ 100) (h0 : ks.contains 0 = false) :
    Calls Tryz.prog 30 #[.string s, .slice a ks.length cap] w fun e w' => e = .returned (.int .i64 (skipR ks (bytesU s) : Int)) ∧ Below w.heap.size w w' := by
  have HCo := Lib.hid (fun (v : Int) W (hb : Below w.heap.size w W) => kContains_any ks v a cap W ((h.below hb).mono hb.size) hl)
  have H0 := Lib.hid h0
  obtain ⟨m, hm⟩ : ∃ m, ks.length = m := ⟨_, rfl⟩
  rw [hm] at HCo ⊢
  clear h hl h0 hm
  have HBE : Hid (∀ q, Below w.heap.size w (w.iter s q)) := fun q => (Below.refl _ w).alloc (Nat.le_refl _) _
  go_enter Tryz.func30, Tryz.ntmps30
  go_wp2
  go_loopw [] (fun wr => ∃ pos : Nat, wr = w.iter s pos ∧ pos ≤ s.size ∧ Hid (∀ i, i < pos → ∃ c, (bytesU s)[i]? = some c ∧ ks.contains (classZ (c : Int)) = true)) (fun wr => s.size - wr.iterPos w.heap.size)
  case atStart => exact ⟨0, rfl, by omega, fun i hi => by omega⟩
  case round =>
    obtain ⟨pos, rfl, hpos, HI⟩ := hrel
    by_cases hp : pos < s.size
    · have hnx : ∀ ty, (Instr.next (.pointer (some ⟨w.heap.size, 0, none⟩)) true ty).run Tryz.prog (w.iter s pos) = _ := fun ty => run_next_any w s pos ty hp
      have hpl : pos < (bytesU s).length := by rw [bytesU_len]; exact hp
      have hB := byteN_at s pos hp
      have hb256 := (s[pos]'hp).toNat_lt
      have hBy : (bytesU s)[pos]? = some (byteN s pos) := by unfold byteN; simp [List.getD_eq_getElem?_getD, List.getElem?_eq_getElem hpl]
      have HBy := Lib.hid hBy
      have HSk : Hid (skipR ks (bytesU s) = pos + skipR ks ((bytesU s).drop pos)) := skipR_all HI.out
      have HDr : Hid ((bytesU s).drop pos = byteN s pos :: (bytesU s).drop (pos + 1)) := by
        show _ = _
        rw [List.drop_eq_getElem_cons hpl]
        rw [List.getElem?_eq_getElem hpl] at hBy
        injection hBy with hBy
        rw [hBy]
      by_cases hasc : (s[pos]'hp).toNat < 128
      · have hdec := decode_ascii s pos hp hasc
        simp only [hdec] at hnx
        obtain ⟨c, hc⟩ : ∃ c, (s[pos]'hp).toNat = c := ⟨_, rfl⟩
        rw [hc] at hnx hB hasc
        have HB := Lib.hid hB
        have HCl := Lib.hid (fun W => Class_any (c : Int) W)
        obtain ⟨k, hk⟩ : ∃ k, classZ (c : Int) = k := ⟨_, rfl⟩
        rw [hk] at HCl
        have HK := Lib.hid hk
        have HY := Lib.hid (HCo.out k (w.iter s (pos + 1)) (HBE.out _))
        obtain ⟨t, ht⟩ : ∃ t, ks.contains k = t := ⟨_, rfl⟩
        rw [ht] at HY
        have HTt := Lib.hid ht
        clear hdec hB hb256 hc hk ht hBy HCo
        go_wp2_with fail
        refine (HCl.out _).mono ?_
        rintro e w1 ⟨rfl, rfl⟩
        clear HCl
        go_wp2_with fail
        refine HY.out.mono ?_
        rintro e w1 ⟨rfl, rfl⟩
        clear HY
        cases t with
        | true =>
          have HI2 : Hid (∀ i, i < pos + 1 → ∃ c, (bytesU s)[i]? = some c ∧ ks.contains (classZ (c : Int)) = true) := fun i hi => by
            by_cases h : i = pos
            · subst h
              exact ⟨_, HBy.out, by rw [HB.out, HK.out]; exact HTt.out⟩
            · exact HI.out i (by omega)
          go_wp2
          go_roundw
          case rel => exact ⟨pos + 1, rfl, by omega, HI2⟩
          case measure => simp; omega
        | false =>
          have HV : Hid (skipR ks (bytesU s) = pos) := by
            show _ = _
            rw [HSk.out, HDr.out, skipR, HB.out, HK.out, if_neg (by rw [HTt.out]; simp)]; rfl
          go_wp2
          go_ret
          exact ⟨by rw [HV.out]; rfl, HBE.out _⟩
      · have hhi := decode_high s pos hp (by omega)
        have HV : Hid (skipR ks (bytesU s) = pos) := by
          show _ = _
          rw [HSk.out, HDr.out, skipR, hB, class_high (by omega), if_neg (by rw [H0.out]; simp)]; rfl
        obtain ⟨r, hr⟩ : ∃ r, (Utf8.decode s pos).1 = r := ⟨_, rfl⟩
        obtain ⟨z, hz⟩ : ∃ z, (Utf8.decode s pos).2 = z := ⟨_, rfl⟩
        rw [hr, hz] at hnx
        rw [hr] at hhi
        have HCl := Lib.hid (fun W => Class_any (r : Int) W)
        rw [class_high (by omega)] at HCl
        have HY := Lib.hid (fun q => HCo.out 0 (w.iter s q) (HBE.out _))
        rw [H0.out] at HY
        clear hB hb256 hr hz HI hasc hhi hBy HCo
        go_wp2_with fail
        refine (HCl.out _).mono ?_
        rintro e w1 ⟨rfl, rfl⟩
        clear HCl
        go_wp2_with fail
        refine (HY.out _).mono ?_
        rintro e w1 ⟨rfl, rfl⟩
        clear HY
        go_wp2
        go_ret
        exact ⟨by rw [HV.out]; rfl, HBE.out _⟩
    · have hnx : ∀ ty, (Instr.next (.pointer (some ⟨w.heap.size, 0, none⟩)) true ty).run Tryz.prog (w.iter s pos) = _ := fun ty => run_next_end w s pos ty hp
      have HV : Hid (skipR ks (bytesU s) = s.size) := by
        show _ = _
        rw [skipR_all HI.out, List.drop_eq_nil_of_le (by rw [bytesU_len]; omega), skipR]; omega
      clear HI
      go_wp2
      go_ret
      exact ⟨by rw [HV.out]; rfl, HBE.out _⟩
end Go.Proofs.YtbnddpicpomakaaGreatDoor

/- The walk of token.quotes. -/
set_option linter.unusedSimpArgs false
set_option linter.unusedVariables false
set_option maxRecDepth 100000
namespace Go.Proofs.YtbnddpicpomakaaGreatDoor
open Go.RowKit

/-- Bytes that are no quotes within an open string. -/
theorem quoR_open : ∀ (m : Nat) (l : List Nat) (z i : Nat), m ≤ l.length → (∀ j c, j < m → l[j]? = some c → c ≠ 39) → quoR true z i l = quoR true z (i + m) (l.drop m)
  | 0, l, z, i, _, _ => by simp
  | m + 1, [], z, i, h, _ => by simp at h
  | m + 1, c :: l, z, i, h, hn => by
    rw [quoR, if_neg (hn 0 c (by omega) rfl), if_pos rfl, List.drop_succ_cons, quoR_open m l z (i + 1) (by simpa using h) (fun j d hj hd => hn (j + 1) d (by omega) (by simpa using hd))]
    congr 1; omega

theorem encP_high {v : Nat} (h : 128 ≤ v) (h2 : v ≤ 1114111) : ∀ c ∈ encP v, 128 ≤ c := by
  unfold encP
  intro c hc
  repeat' split at hc
  all_goals simp at hc
  all_goals omega
/-- A code point of more than one byte has no byte below 128. -/
theorem decode_bytes (s : ByteArray) (i : Nat) (hi : i < s.size) (h : ¬ (s[i]'hi).toNat < 128) :
    (∀ j c, j < (Utf8.decode s i).2 → ((bytesU s).drop i)[j]? = some c → c ≠ 39) ∧ i + (Utf8.decode s i).2 ≤ s.size ∧ 0 < (Utf8.decode s i).2 := by
  have hhi := decode_high s i hi (by omega)
  have hil : i < (bytesU s).length := by rw [bytesU_len]; exact hi
  have hB := byteN_at s i hi
  have hBy : (bytesU s)[i]? = some (byteN s i) := by unfold byteN; simp [List.getD_eq_getElem?_getD, List.getElem?_eq_getElem hil]
  rw [decode_hd] at hhi ⊢
  have hne : (bytesU s).drop i ≠ [] := by intro e; have := congrArg List.length e; rw [List.length_drop, List.length_nil] at this; omega
  have h256 : ∀ c ∈ (bytesU s).drop i, c < 256 := fun c hc => bytesU_lt s c (List.mem_of_mem_drop hc)
  by_cases hb : hd ((bytesU s).drop i) = (65533, 1)
  · rw [hb]
    refine ⟨fun j c hj hc => ?_, by simp; omega, by simp⟩
    have hj0 : j = 0 := by simp at hj; omega
    subst hj0
    rw [List.getElem?_drop, Nat.add_zero, hBy] at hc
    injection hc with hc
    subst hc
    rw [hB]; omega
  · have hp : pt ((bytesU s).drop i) = some (hd ((bytesU s).drop i)) := by unfold pt; rw [if_neg hne, if_neg hb]
    obtain ⟨⟨v, n⟩, hv⟩ : ∃ x, hd ((bytesU s).drop i) = x := ⟨_, rfl⟩
    rw [hv] at hp hhi ⊢
    obtain ⟨h1, h2, h3, h4, h5, _⟩ := pt_some h256 hp
    refine ⟨fun j c hj hc => ?_, by rw [List.length_drop, bytesU_len] at h4; simp only; omega, h5⟩
    simp only at hj hhi
    have hm : c ∈ encP v := by
      rw [← h2]
      exact List.mem_of_getElem? (i := j) (by rw [List.getElem?_take, if_pos hj]; exact hc)
    have := encP_high hhi.1 (okP_le h1) c hm
    omega

set_option maxHeartbeats 2000000 in
theorem tkQuotes_any (s : ByteArray) (w : World) (hs : s.size ≤ 1000000) :
    Calls Tryz.prog 97 #[.string s] w fun e w' => e = .returned (.int .i64 (quotesR (bytesU s) : Int)) ∧ Below w.heap.size w w' := by
  have HBE : Hid (∀ q, Below w.heap.size w (w.iter s q)) := fun q => (Below.refl _ w).alloc (Nat.le_refl _) _
  go_enter Tryz.func97, Tryz.ntmps97
  go_wp2
  go_step3
  go_wp2
  go_step3
  go_wp2
  go_loopw [3, 4] (fun zv ov wr => ∃ (pos z : Nat) (o : Bool), zv = .int .i64 (z : Int) ∧ ov = .bool o ∧ wr = w.iter s pos ∧ pos ≤ s.size ∧ Hid (quoR false 0 0 (bytesU s) = quoR o z pos ((bytesU s).drop pos))) (fun _ _ wr => s.size - wr.iterPos w.heap.size)
  case atStart => exact ⟨0, 0, false, rfl, rfl, rfl, by omega, rfl⟩
  case round =>
    obtain ⟨pos, z, o, rfl, rfl, rfl, hpos, HI⟩ := hrel
    by_cases hp : pos < s.size
    · have hnx : ∀ ty, (Instr.next (.pointer (some ⟨w.heap.size, 0, none⟩)) true ty).run Tryz.prog (w.iter s pos) = _ := fun ty => run_next_any w s pos ty hp
      have hpl : pos < (bytesU s).length := by rw [bytesU_len]; exact hp
      have hB := byteN_at s pos hp
      have hb256 := (s[pos]'hp).toNat_lt
      have hBy : (bytesU s)[pos]? = some (byteN s pos) := by unfold byteN; simp [List.getD_eq_getElem?_getD, List.getElem?_eq_getElem hpl]
      have HDr : Hid ((bytesU s).drop pos = byteN s pos :: (bytesU s).drop (pos + 1)) := by
        show _ = _
        rw [List.drop_eq_getElem_cons hpl]
        rw [List.getElem?_eq_getElem hpl] at hBy
        injection hBy with hBy
        rw [hBy]
      by_cases hasc : (s[pos]'hp).toNat < 128
      · have hdec := decode_ascii s pos hp hasc
        simp only [hdec] at hnx
        obtain ⟨c, hc⟩ : ∃ c, (s[pos]'hp).toNat = c := ⟨_, rfl⟩
        rw [hc] at hnx hB hasc
        rw [hB] at HDr
        by_cases h39 : c = 39
        · subst h39
          have HI2 : Hid (quoR false 0 0 (bytesU s) = quoR (!o) (pos + 1) (pos + 1) ((bytesU s).drop (pos + 1))) := by
            show _ = _
            rw [HI.out, HDr.out, quoR, if_pos rfl]
          clear hdec hB hb256 hc hBy HDr HI
          go_wp2
          go_roundw
          case rel => exact ⟨pos + 1, pos + 1, !o, by go_num, rfl, rfl, by omega, HI2⟩
          case measure => simp; omega
        · have q39 : ((c : Int) == 39) = false := by simp; omega
          cases o with
          | true =>
            have HI2 : Hid (quoR false 0 0 (bytesU s) = quoR true z (pos + 1) ((bytesU s).drop (pos + 1))) := by
              show _ = _
              rw [HI.out, HDr.out, quoR, if_neg h39, if_pos rfl]
            clear hdec hB hb256 hc hBy HDr HI h39
            go_wp2
            go_roundw
            case rel => exact ⟨pos + 1, z, true, rfl, rfl, rfl, by omega, HI2⟩
            case measure => simp; omega
          | false =>
            have HV : Hid (quotesR (bytesU s) = z) := by
              show _ = _
              unfold quotesR
              rw [HI.out, HDr.out, quoR, if_neg h39, if_neg (by simp)]; rfl
            clear hdec hB hb256 hc hBy HDr HI h39
            go_wp2
            try rw [Exit.noGoto_ret]
            go_ret
            exact ⟨by rw [HV.out]; rfl, HBE.out _⟩
      · have hhi := decode_high s pos hp (by omega)
        obtain ⟨hby, hw⟩ := decode_bytes s pos hp hasc
        have h39 : byteN s pos ≠ 39 := by rw [hB]; omega
        obtain ⟨r, hr⟩ : ∃ r, (Utf8.decode s pos).1 = r := ⟨_, rfl⟩
        obtain ⟨y, hy⟩ : ∃ y, (Utf8.decode s pos).2 = y := ⟨_, rfl⟩
        rw [hr, hy] at hnx
        rw [hr] at hhi
        rw [hy] at hby hw
        have q39 : ((r : Int) == 39) = false := by simp; omega
        cases o with
        | true =>
          have HI2 : Hid (quoR false 0 0 (bytesU s) = quoR true z (pos + y) ((bytesU s).drop (pos + y))) := by
            show _ = _
            rw [HI.out, quoR_open y _ z pos (by rw [List.length_drop, bytesU_len]; omega) hby, List.drop_drop]
          clear hB hb256 hBy HDr HI h39 hby hhi hr hy
          go_wp2
          go_roundw
          case rel => exact ⟨pos + y, z, true, rfl, rfl, rfl, by omega, HI2⟩
          case measure => simp; omega
        | false =>
          have HV : Hid (quotesR (bytesU s) = z) := by
            show _ = _
            unfold quotesR
            rw [HI.out, HDr.out, quoR, if_neg h39, if_neg (by simp)]; rfl
          clear hB hb256 hBy HDr HI h39 hby hhi hr hy
          go_wp2
          try rw [Exit.noGoto_ret]
          go_ret
          exact ⟨by rw [HV.out]; rfl, HBE.out _⟩
    · have hnx : ∀ ty, (Instr.next (.pointer (some ⟨w.heap.size, 0, none⟩)) true ty).run Tryz.prog (w.iter s pos) = _ := fun ty => run_next_end w s pos ty hp
      have hQ : quoR false 0 0 (bytesU s) = (o, z) := by
        rw [HI.out, List.drop_eq_nil_of_le (by rw [bytesU_len]; omega), quoR]
      cases o with
      | true =>
        have HV : Hid (quotesR (bytesU s) = 0) := by show _ = _; unfold quotesR; rw [hQ]; rfl
        clear HI hQ
        go_wp2
        try rw [Exit.noGoto_ret]
        go_ret
        exact ⟨by rw [HV.out]; rfl, HBE.out _⟩
      | false =>
        have HV : Hid (quotesR (bytesU s) = z) := by show _ = _; unfold quotesR; rw [hQ]; rfl
        clear HI hQ
        go_wp2
        try rw [Exit.noGoto_ret]
        go_ret
        exact ⟨by rw [HV.out]; rfl, HBE.out _⟩
end Go.Proofs.YtbnddpicpomakaaGreatDoor

/-
  DERIVED: THE SHELF's CONTRACTS AT THIS DUMP, IN PLAIN WORDS (tools/lay-plain.mjs out of 'YtbnddpicpomakaaGreatDoorShelf2.lean', which tools/lay-shelf.mjs wrote): THE SAME DECLARATIONS UNDER THE SAME NAMES: 'import', 'namespace', 'open', 'def', 'theorem' AND NOTHING ELSE: no command of the shelf's: FOR A HAND-IN. Each laying: the table of numbers ('.._ren') and one theorem, a field a fact of the dump's own or the kernel's comparison; each contract: ONE APPLICATION.
-/
namespace Go.Proofs
open Go.Shelf
def Tryz.laysDec_ren : Go.Shelf.Ren := ⟨fun | 197 => 54 | 260 => 94 | n => n, fun | 9 => 9 | 21 => 21 | 3 => 3 | 4 => 4 | 5 => 5 | 105 => 88 | 119 => 114 | 0 => 0 | 46 => 118 | 139 => 117 | 138 => 116 | n => n, fun | 3 => 0 | 4 => 1 | n => n⟩
theorem Tryz.laysDec : Go.Proofs.Lays.n197 Tryz.prog Tryz.laysDec_ren := {
  mixed := by kernel_rfl
  f197 := Tryz.func54.trans (congrArg some (by kernel_rfl))
  f260 := Tryz.func94.trans (congrArg some (by kernel_rfl))
  t0 := Tryz.underlying0
  a0 := Tryz.isAgg0
  z0 := Tryz.sizeOf0
  v0 := Tryz.zeroValue0
  t3 := Tryz.underlying3
  a3 := Tryz.isAgg3
  z3 := Tryz.sizeOf3
  v3 := Tryz.zeroValue3
  t4 := Tryz.underlying4
  a4 := Tryz.isAgg4
  z4 := Tryz.sizeOf4
  v4 := Tryz.zeroValue4
  t5 := Tryz.underlying5
  a5 := Tryz.isAgg5
  z5 := Tryz.sizeOf5
  v5 := Tryz.zeroValue5
  t9 := Tryz.underlying9
  a9 := Tryz.isAgg9
  z9 := Tryz.sizeOf9
  v9 := Tryz.zeroValue9
  t21 := Tryz.underlying21
  a21 := Tryz.isAgg21
  z21 := Tryz.sizeOf21
  v21 := Tryz.zeroValue21
  t46 := Tryz.underlying118
  a46 := Tryz.isAgg118
  z46 := Tryz.sizeOf118
  v46 := Tryz.zeroValue118
  t105 := Tryz.underlying88
  a105 := Tryz.isAgg88
  z105 := Tryz.sizeOf88
  v105 := Tryz.zeroValue88
  t119 := Tryz.underlying114
  a119 := Tryz.isAgg114
  z119 := Tryz.sizeOf114
  t138 := Tryz.underlying116
  a138 := Tryz.isAgg116
  z138 := Tryz.sizeOf116
  v138 := Tryz.zeroValue116
  t139 := Tryz.underlying117
  a139 := Tryz.isAgg117
  z139 := Tryz.sizeOf117
  v139 := Tryz.zeroValue117
  g3 := by kernel_rfl
  g4 := by kernel_rfl }
def Tryz.laysTo_ren : Go.Shelf.Ren := ⟨fun | 245 => 128 | 279 => 140 | 280 => 141 | 281 => 142 | 282 => 143 | 316 => 153 | 171 => 155 | 205 => 154 | 243 => 162 | 246 => 119 | 283 => 132 | 284 => 133 | 285 => 134 | 286 => 135 | 129 => 146 | 317 => 145 | 318 => 147 | 319 => 148 | 320 => 149 | 337 => 156 | 338 => 157 | n => n, fun | 9 => 9 | 3 => 3 | 75 => 104 | 167 => 152 | 4 => 4 | 168 => 154 | 210 => 165 | 37 => 99 | 0 => 0 | 127 => 129 | 145 => 170 | 143 => 168 | 2 => 2 | 171 => 146 | 53 => 132 | 5 => 5 | 173 => 149 | 212 => 158 | 51 => 159 | 20 => 20 | 213 => 160 | 46 => 118 | 232 => 171 | 233 => 172 | 80 => 107 | n => n, fun | 15 => 4 | 16 => 5 | 17 => 3 | 18 => 6 | 19 => 7 | n => n⟩
theorem Tryz.laysTo : Go.Proofs.LaysC.n245 Tryz.prog Tryz.laysTo_ren := {
  mixed := by kernel_rfl
  f129 := Tryz.func146.trans (congrArg some (by kernel_rfl))
  f171 := Tryz.func155.trans (congrArg some (by kernel_rfl))
  f205 := Tryz.func154.trans (congrArg some (by kernel_rfl))
  f243 := Tryz.func162.trans (congrArg some (by kernel_rfl))
  f245 := Tryz.func128.trans (congrArg some (by kernel_rfl))
  f246 := Tryz.func119.trans (congrArg some (by kernel_rfl))
  f279 := Tryz.func140.trans (congrArg some (by kernel_rfl))
  f280 := Tryz.func141.trans (congrArg some (by kernel_rfl))
  f281 := Tryz.func142.trans (congrArg some (by kernel_rfl))
  f282 := Tryz.func143.trans (congrArg some (by kernel_rfl))
  f283 := Tryz.func132.trans (congrArg some (by kernel_rfl))
  f284 := Tryz.func133.trans (congrArg some (by kernel_rfl))
  f285 := Tryz.func134.trans (congrArg some (by kernel_rfl))
  f286 := Tryz.func135.trans (congrArg some (by kernel_rfl))
  f316 := Tryz.func153.trans (congrArg some (by kernel_rfl))
  f317 := Tryz.func145.trans (congrArg some (by kernel_rfl))
  f318 := Tryz.func147.trans (congrArg some (by kernel_rfl))
  f319 := Tryz.func148.trans (congrArg some (by kernel_rfl))
  f320 := Tryz.func149.trans (congrArg some (by kernel_rfl))
  f337 := Tryz.func156.trans (congrArg some (by kernel_rfl))
  f338 := Tryz.func157.trans (congrArg some (by kernel_rfl))
  t0 := Tryz.underlying0
  a0 := Tryz.isAgg0
  z0 := Tryz.sizeOf0
  v0 := Tryz.zeroValue0
  t2 := Tryz.underlying2
  a2 := Tryz.isAgg2
  z2 := Tryz.sizeOf2
  v2 := Tryz.zeroValue2
  t3 := Tryz.underlying3
  a3 := Tryz.isAgg3
  z3 := Tryz.sizeOf3
  v3 := Tryz.zeroValue3
  t4 := Tryz.underlying4
  a4 := Tryz.isAgg4
  z4 := Tryz.sizeOf4
  v4 := Tryz.zeroValue4
  t5 := Tryz.underlying5
  a5 := Tryz.isAgg5
  z5 := Tryz.sizeOf5
  v5 := Tryz.zeroValue5
  t9 := Tryz.underlying9
  a9 := Tryz.isAgg9
  z9 := Tryz.sizeOf9
  v9 := Tryz.zeroValue9
  t20 := Tryz.underlying20
  a20 := Tryz.isAgg20
  z20 := Tryz.sizeOf20
  v20 := Tryz.zeroValue20
  t37 := Tryz.underlying99
  a37 := Tryz.isAgg99
  z37 := Tryz.sizeOf99
  v37 := Tryz.zeroValue99
  t46 := Tryz.underlying118
  a46 := Tryz.isAgg118
  z46 := Tryz.sizeOf118
  v46 := Tryz.zeroValue118
  t51 := Tryz.underlying159
  a51 := Tryz.isAgg159
  z51 := Tryz.sizeOf159
  v51 := Tryz.zeroValue159
  t53 := Tryz.underlying132
  a53 := Tryz.isAgg132
  z53 := Tryz.sizeOf132
  v53 := Tryz.zeroValue132
  t75 := Tryz.underlying104
  a75 := Tryz.isAgg104
  z75 := Tryz.sizeOf104
  v75 := Tryz.zeroValue104
  t127 := Tryz.underlying129
  a127 := Tryz.isAgg129
  z127 := Tryz.sizeOf129
  v127 := Tryz.zeroValue129
  t143 := Tryz.underlying168
  a143 := Tryz.isAgg168
  z143 := Tryz.sizeOf168
  v143 := Tryz.zeroValue168
  t145 := Tryz.underlying170
  a145 := Tryz.isAgg170
  z145 := Tryz.sizeOf170
  v145 := Tryz.zeroValue170
  t167 := Tryz.underlying152
  a167 := Tryz.isAgg152
  z167 := Tryz.sizeOf152
  v167 := Tryz.zeroValue152
  t168 := Tryz.underlying154
  a168 := Tryz.isAgg154
  z168 := Tryz.sizeOf154
  v168 := Tryz.zeroValue154
  t171 := Tryz.underlying146
  a171 := Tryz.isAgg146
  z171 := Tryz.sizeOf146
  v171 := Tryz.zeroValue146
  t173 := Tryz.underlying149
  a173 := Tryz.isAgg149
  z173 := Tryz.sizeOf149
  v173 := Tryz.zeroValue149
  t210 := Tryz.underlying165
  a210 := Tryz.isAgg165
  z210 := Tryz.sizeOf165
  v210 := Tryz.zeroValue165
  t212 := Tryz.underlying158
  a212 := Tryz.isAgg158
  z212 := Tryz.sizeOf158
  v212 := Tryz.zeroValue158
  t213 := Tryz.underlying160
  a213 := Tryz.isAgg160
  z213 := Tryz.sizeOf160
  t232 := Tryz.underlying171
  a232 := Tryz.isAgg171
  z232 := Tryz.sizeOf171
  v232 := Tryz.zeroValue171
  t233 := Tryz.underlying172
  a233 := Tryz.isAgg172
  z233 := Tryz.sizeOf172
  v233 := Tryz.zeroValue172
  g15 := by kernel_rfl
  g16 := by kernel_rfl
  g17 := by kernel_rfl
  g18 := by kernel_rfl
  g19 := by kernel_rfl
  t80 := Tryz.underlying107
  a80 := Tryz.isAgg107
  z80 := Tryz.sizeOf107
  v80 := Tryz.zeroValue107
  i0 := by kernel_rfl
  i2 := by kernel_rfl
  i3 := by kernel_rfl
  i4 := by kernel_rfl
  i5 := by kernel_rfl
  i9 := by kernel_rfl
  i20 := by kernel_rfl
  i37 := by kernel_rfl
  i46 := by kernel_rfl
  i51 := by kernel_rfl
  i53 := by kernel_rfl
  i75 := by kernel_rfl
  i80 := by kernel_rfl
  i127 := by kernel_rfl
  i143 := by kernel_rfl
  i145 := by kernel_rfl
  i167 := by kernel_rfl
  i168 := by kernel_rfl
  i171 := by kernel_rfl
  i173 := by kernel_rfl
  i210 := by kernel_rfl
  i212 := by kernel_rfl
  i232 := by kernel_rfl
  i233 := by kernel_rfl
  m15 := by kernel_rfl
  m16 := by kernel_rfl
  m17 := by kernel_rfl
  m18 := by kernel_rfl
  m19 := by kernel_rfl
  c0 := by kernel_rfl
  c2 := by kernel_rfl
  c3 := by kernel_rfl
  c4 := by kernel_rfl
  c5 := by kernel_rfl
  c9 := by kernel_rfl
  c20 := by kernel_rfl
  c37 := by kernel_rfl
  c46 := by kernel_rfl
  c51 := by kernel_rfl
  c53 := by kernel_rfl
  c75 := by kernel_rfl
  c80 := by kernel_rfl
  c127 := by kernel_rfl
  c143 := by kernel_rfl
  c145 := by kernel_rfl
  c167 := by kernel_rfl
  c168 := by kernel_rfl
  c171 := by kernel_rfl
  c173 := by kernel_rfl
  c210 := by kernel_rfl
  c212 := by kernel_rfl
  c213 := by kernel_rfl
  c232 := by kernel_rfl
  c233 := by kernel_rfl }
end Go.Proofs
