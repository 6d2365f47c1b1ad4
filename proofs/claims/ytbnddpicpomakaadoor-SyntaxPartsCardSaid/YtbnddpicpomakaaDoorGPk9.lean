/- Several texts of one proof, one behind the other. -/
import Derived.Test.YtbnddpicpomakaaDoorGPk8
import Derived.Shelf.Lays
import Derived.Shelf.LaysC
import Derived.Shelf.LaysM
import Derived.Test.YtbnddpicpomakaaDoorProg
import Derived.Shelf.Unicode.ValidAny
import Derived.Lib.OthersKept
import Derived.Lib.Hide
import Derived.Lib.Replace
import Derived.Lib.Strings
import Derived.Test.YtbnddpicpomakaaDoorRows
import Derived.Shelf.Utf8.RuneCount
import Derived.Shelf.Strings.Replace
import Derived.Shelf.Strings.SplitShaped
import Derived.Shelf.Strings.Prefix
import Derived.Shelf.Strconv.Itoa4
import Derived.Shelf.Strconv.ErrVarParseInt
import Derived.Lib.LaidTab
set_option linter.unusedSimpArgs false
set_option linter.unusedVariables false

/- What lies in blocks of a call's own only. -/
set_option linter.unusedSimpArgs false
set_option linter.unusedVariables false
set_option maxRecDepth 100000
namespace Go.Proofs.YtbnddpicpomakaaDoor
open Go.RowKit

/-- The cells lie in no block below number N. -/
def Far (N : Nat) (a : Option Addr) (vs : List Value) : Prop := vs = [] ∨ ∀ b o, a = some ⟨b, o, none⟩ → N ≤ b
theorem own_far {w : World} {base : Nat} {T : TypeId} {z n cap : Nat} {a : Option Addr} {xs : List Value} (h : w.ownsRow base T z (.slice a n cap) n xs) : Far base a xs := by
  rcases h.2 with ⟨hv, hn⟩ | ⟨g, c, cur, hv, hg, _⟩
  · exact .inl (List.length_eq_zero_iff.1 (by rw [h.1, hn]; simp))
  · refine .inr fun b o e => ?_
    simp only [Value.slice.injEq, true_and] at hv
    rw [hv.1] at e
    simp only [Option.some.injEq, Addr.mk.injEq] at e
    omega
theorem Arr.set_far {w : World} {a : Option Addr} {vs : List Value} {N c o : Nat} {v : Value} (h : Arr w.heap.size w a vs) (hf : Far N a vs) (hc : c < N) : Arr (w.setCell ⟨c, o, none⟩ v).heap.size (w.setCell ⟨c, o, none⟩ v) a vs := by
  rcases hf with hf | hf
  · exact .inl hf
  · rcases h with h | ⟨b, o', ha, hN, hcell⟩
    · exact .inl h
    · have := hf b o' ha
      refine .inr ⟨b, o', ha, by simpa [World.setCell] using hN, fun i u hu => ?_⟩
      rw [← hcell i u hu]
      exact World.cell?_of_block (a := ⟨b, o' + i, none⟩) (Below.heap_setCell w ⟨c, o, none⟩ v b (by show b ≠ c; omega))
theorem Far.mono {N M : Nat} {a : Option Addr} {vs : List Value} (h : Far N a vs) (hM : M ≤ N) : Far M a vs := by
  rcases h with h | h
  · exact .inl h
  · exact .inr fun b o e => by have := h b o e; omega

/-- All that the node has lies in blocks from number N on. -/
def NFar (N : Nat) (n : Nd) (m : NB) : Prop := Far N m.ka (cellsS n.keys) ∧ Far N m.ca (cellsC n.cells) ∧ Far N m.da (cellsI n.kids)
theorem NFar.mono {N M : Nat} {n : Nd} {m : NB} (h : NFar N n m) (hM : M ≤ N) : NFar M n m := ⟨h.1.mono hM, h.2.1.mono hM, h.2.2.mono hM⟩
theorem NAt.set_far {w : World} {n : Nd} {m : NB} {N c o : Nat} {v : Value} (h : NAt w n m) (hf : NFar N n m) (hc : c < N) : NAt (w.setCell ⟨c, o, none⟩ v) n m :=
  ⟨h.hk, h.hc, h.hd, h.kcap, h.ccap, h.dcap, h.kmax, h.cmax, h.dmax, h.karr.set_far hf.1 hc, h.carr.set_far hf.2.1 hc, h.darr.set_far hf.2.2 hc, h.kfair, h.cfair, h.dfair⟩
end Go.Proofs.YtbnddpicpomakaaDoor

/- The walk of token.digitsOf. -/
set_option linter.unusedSimpArgs false
set_option linter.unusedVariables false
set_option maxRecDepth 100000
namespace Go.Proofs.YtbnddpicpomakaaDoor
open Go.RowKit

/-- The digit of a number below sixteen. -/
def hexd (n : Nat) : Nat := if n < 10 then 48 + n else 87 + n
/-- The digits of bytes. -/
def hexN (l : List Nat) : List Nat := l.flatMap fun c => [hexd (c / 16), hexd (c % 16)]
theorem hexd_lt {n : Nat} (h : n < 16) : hexd n < 256 := by unfold hexd; split <;> omega
theorem hexN_len (l : List Nat) : (hexN l).length = l.length * 2 := by
  induction l with
  | nil => rfl
  | cons x r ih => simp only [hexN, List.flatMap_cons, List.length_append] at ih ⊢; rw [ih]; simp; omega
theorem hexN_take {l : List Nat} {k : Nat} (h : k < l.length) : hexN (l.take (k + 1)) = hexN (l.take k) ++ [hexd (l[k] / 16), hexd (l[k] % 16)] := by
  unfold hexN; rw [List.take_succ_eq_append_getElem h, List.flatMap_append]; simp
def hexS (s : ByteArray) : ByteArray := strN (hexN (bytesU s))

theorem info_u8T : (Tryd.prog.info? 5).map (fun i => (i.zero, i.size, i.bytes)) = some (some (.int .u8 0), 1, 1) := by kernel_rfl
theorem cellsU_app (a b : List Nat) : cellsU (a ++ b) = cellsU a ++ cellsU b := by simp [cellsU]

theorem and15 : ∀ c : Fin 256, bits .and .u8 (c.1 : Int) 15 = ((c.1 % 16 : Nat) : Int) := by decide +kernel
def hexT : ByteArray := ⟨#[48, 49, 50, 51, 52, 53, 54, 55, 56, 57, 97, 98, 99, 100, 101, 102]⟩
theorem exec_hex {o : Oper} {a : Act} {x y : Operand} (n : Nat) (hn : n < 16) (ho : o.op = .index 9 x y) (hx : a.eval x = .string hexT) (hy : a.eval y = .int .u8 (n : Int)) (w : World) : (execOp a.eval o).run Tryd.prog w = .ok (.value (.int .u8 (hexd n : Int))) w := by
  unfold execOp
  simp only [ho, hx, hy]
  have h16 : n = 0 ∨ n = 1 ∨ n = 2 ∨ n = 3 ∨ n = 4 ∨ n = 5 ∨ n = 6 ∨ n = 7 ∨ n = 8 ∨ n = 9 ∨ n = 10 ∨ n = 11 ∨ n = 12 ∨ n = 13 ∨ n = 14 ∨ n = 15 := by omega
  rcases h16 with rfl | rfl | rfl | rfl | rfl | rfl | rfl | rfl | rfl | rfl | rfl | rfl | rfl | rfl | rfl | rfl <;> first | rfl | (go_simp; done) | (go_simp; rfl)

set_option maxHeartbeats 2000000 in
theorem digitsOf_any (s : ByteArray) (w : World) (hs : s.size ≤ 1000000) :
    Calls Tryd.prog 57 #[.string s] w fun e w' => e = .returned (.string (hexS s)) ∧ Below w.heap.size w w' := by
  obtain ⟨i0, hi, hz0, hz1, hz2⟩ := info_parts info_u8T
  have HV0 : Hid (w.ownsRow w.heap.size 5 1 (.slice none 0 0) 0 (cellsU (hexN ((bytesU s).take 0)))) := World.ownsRow_nil _ _ _ _
  go_enter Tryd.func57, Tryd.ntmps57
  go_wp2
  go_loopw [3, 7] (fun v i wr => ∃ (k : Nat) (cv : Value), cv = v ∧ k ≤ s.size ∧ i = .int .i64 (k : Int) ∧ Hid (wr.ownsRow w.heap.size 5 1 cv (k * 2) (cellsU (hexN ((bytesU s).take k)))) ∧ Hid (Below w.heap.size w wr)) (fun _ i _ => s.size - (intOf i).toNat)
  case atStart => exact ⟨0, _, rfl, by omega, rfl, HV0, Below.refl _ _⟩
  case round =>
    clear HV0
    obtain ⟨k, cv, rfl, hk, rfl, HV, HB⟩ := hrel
    by_cases hlt : k < s.size
    · have hkl : k < (bytesU s).length := by rw [bytesU_len]; exact hlt
      have HTk := Lib.hid (hexN_take hkl)
      have hbk : (bytesU s)[k] = (s[k]'hlt).toNat := by simp [bytesU]; rfl
      rw [hbk] at HTk
      have hlt256 : (s[k]'hlt).toNat < 256 := (s[k]'hlt).toNat_lt
      obtain ⟨c, hc⟩ : ∃ c, (s[k]'hlt).toNat = c := ⟨_, rfl⟩
      rw [hc] at HTk hlt256
      have hz : k * 2 < 1000000000000 - 2 := by omega
      have HBs := Lib.hid HB.out.size
      clear hbk hkl
      go_wp2_with fail
      refine wp_region_ordX cv.ownBlock.toList 13 [(0, true), (1, true), (2, true), (3, true), (4, true), (5, true), (6, true), (7, true), (8, true), (9, true), (10, true), (11, false), (12, false)] (by kernel_rfl) (by kernel_rfl) (by kernel_rfl) (by kernel_rfl) ?_
      repeat (first | (refine wpOX_F (v := ?_) rfl (by rfl) (fun w' hL => ?_) ?_; rotate_left; (solve | (go_simp; with_reducible rfl) | go_simp); try simp only [Act.put, List.setIfInBounds_toArray, List.set_cons_zero, List.set_cons_succ]))
      have h16 : ((c / 16 : Nat) : Int) = (c : Int) / 16 := by omega
      refine wpOX_F rfl (by rfl) (fun w' _ => exec_hex (c / 16) (by omega) rfl rfl (by rw [h16]; rfl) w') ?_
      try simp only [Act.put, List.setIfInBounds_toArray, List.set_cons_zero, List.set_cons_succ]
      repeat (first | (refine wpOX_F (v := ?_) rfl (by rfl) (fun w' hL => ?_) ?_; rotate_left; (solve | (go_simp; with_reducible rfl) | go_simp); try simp only [Act.put, List.setIfInBounds_toArray, List.set_cons_zero, List.set_cons_succ]))
      have h15 : bits .and .u8 (c : Int) 15 = ((c % 16 : Nat) : Int) := and15 ⟨c, hlt256⟩
      rw [h15]
      refine wpOX_F rfl (by rfl) (fun w' _ => exec_hex (c % 16) (by omega) rfl rfl rfl w') ?_
      try simp only [Act.put, List.setIfInBounds_toArray, List.set_cons_zero, List.set_cons_succ]
      refine wpOX_C rfl (by rfl) ?_
      go_simp
      refine ⟨(Chg.refl _ _).alloc _, ?_⟩
      try simp only [Act.put, List.setIfInBounds_toArray, List.set_cons_zero, List.set_cons_succ]
      have hr2 : wr.drew.ownsRow w.heap.size 5 1 cv (k * 2) (cellsU (hexN ((bytesU s).take k))) := HV.out
      refine wpOX_C rfl (by rfl) ?_
      refine wp_appM (.tmp 10) (.tmp 21) 80 rfl w.heap.size 5 i0 (.int .u8 0) 1 1 2 Tryd.underlying80 hi hz0 rfl hz1 (by omega) hz2 (by omega) cv (k * 2) _ [.int .u8 (hexd (c / 16) : Int), .int .u8 (hexd (c % 16) : Int)] wr.drew hr2 rfl _ rfl rfl (by simp [Value.oneCell']) rfl (by omega) HBs.out ?_
      intro cv2 x4 hr4 hc4 hsz4
      refine ⟨hc4, ?_⟩
      try simp only [Act.put, List.setIfInBounds_toArray, List.set_cons_zero, List.set_cons_succ]
      have HB4 : Hid (Below w.heap.size w x4) := HB.out.trans (((Below.refl w.heap.size wr).drew.alloc HBs.out _).trans (hc4.below (by have := HBs.out; simp; omega) (fun g hg => (hr2.lt g (by simpa using hg)).1)))
      have hr5 : x4.ownsRow w.heap.size 5 1 cv2 ((k + 1) * 2) (cellsU (hexN ((bytesU s).take (k + 1)))) := by
        rw [HTk.out, cellsU_app, show (k + 1) * 2 = k * 2 + 2 by omega]; exact hr4
      have HR5 := Lib.hid hr5
      clear hr2 hr4 hc4 hsz4 hr5
      repeat (first | (refine wpOX_F (v := ?_) rfl (by rfl) (fun w' hL => ?_) ?_; rotate_left; (solve | (go_simp; with_reducible rfl) | go_simp); try simp only [Act.put, List.setIfInBounds_toArray, List.set_cons_zero, List.set_cons_succ]) | (refine wpOX_G (Chg.refl _) rfl (by rfl) ?_; try simp only [Act.put, List.setIfInBounds_toArray, List.set_cons_zero, List.set_cons_succ]))
      refine wpOX_end rfl (by rfl) ?_
      go_simp
      simp only [NoPanic]
      go_wp2
      go_roundw
      case rel => exact ⟨k + 1, cv2, rfl, by omega, by go_num, HR5.out, HB4.out⟩
      case measure => simp [intOf]; omega
    · have hke : k = s.size := by omega
      have HO := HV.out
      rw [hke, List.take_of_length_le (by rw [bytesU_len]; omega)] at HO
      obtain ⟨ac, cc, hcv, hcc, hcm, hA⟩ := own_slice HO
      have hlt : ∀ c ∈ hexN (bytesU s), c < 256 := fun c hc => by
        unfold hexN at hc
        obtain ⟨d, hd, hc⟩ := List.mem_flatMap.1 hc
        have hd256 := bytesU_lt s d hd
        rcases List.mem_cons.1 hc with rfl | hc
        · exact hexd_lt (by omega)
        · rw [List.mem_singleton.1 hc]; exact hexd_lt (by omega)
      have HCV := Lib.hid ((hA.bs hlt).conv 80 5 Tryd.underlying80 Tryd.underlying5 9 Tryd.underlying9 (s.size * 2) cc (by rw [hexN_len, bytesU_len]))
      obtain ⟨n2, hn2⟩ : ∃ n2, s.size * 2 = n2 := ⟨_, rfl⟩
      rw [hn2] at hcv HCV
      have hcn := HCV.out
      subst hcv
      clear HO hA hlt HV hn2 hcc hcm
      go_wp2
      go_ret
      exact ⟨rfl, HB.out⟩
end Go.Proofs.YtbnddpicpomakaaDoor

/-
  DERIVED: THE SHELF's CONTRACTS AT THIS DUMP, IN PLAIN WORDS (tools/lay-plain.mjs out of 'YtbnddpicpomakaaDoorShelf.lean', which tools/lay-shelf.mjs wrote): THE SAME DECLARATIONS UNDER THE SAME NAMES: 'import', 'namespace', 'open', 'def', 'theorem' AND NOTHING ELSE: no command of the shelf's: FOR A HAND-IN. Each laying: the table of numbers ('.._ren') and one theorem, a field a fact of the dump's own or the kernel's comparison; each contract: ONE APPLICATION.
-/
namespace Go.Proofs
open Go.Shelf
def Tryd.laysValid_ren : Go.Shelf.Ren := ⟨fun | 196 => 45 | 259 => 73 | n => n, fun | 9 => 9 | 4 => 4 | 3 => 3 | 5 => 5 | 12 => 12 | 119 => 94 | 0 => 0 | 46 => 98 | 139 => 97 | 138 => 96 | 53 => 113 | n => n, fun | 3 => 0 | 4 => 1 | n => n⟩
theorem Tryd.laysValid : Go.Proofs.Lays.n196 Tryd.prog Tryd.laysValid_ren := {
  mixed := by kernel_rfl
  f196 := Tryd.func45.trans (congrArg some (by kernel_rfl))
  f259 := Tryd.func73.trans (congrArg some (by kernel_rfl))
  t0 := Tryd.underlying0
  a0 := Tryd.isAgg0
  z0 := Tryd.sizeOf0
  v0 := Tryd.zeroValue0
  t3 := Tryd.underlying3
  a3 := Tryd.isAgg3
  z3 := Tryd.sizeOf3
  v3 := Tryd.zeroValue3
  t4 := Tryd.underlying4
  a4 := Tryd.isAgg4
  z4 := Tryd.sizeOf4
  v4 := Tryd.zeroValue4
  t5 := Tryd.underlying5
  a5 := Tryd.isAgg5
  z5 := Tryd.sizeOf5
  v5 := Tryd.zeroValue5
  t9 := Tryd.underlying9
  a9 := Tryd.isAgg9
  z9 := Tryd.sizeOf9
  v9 := Tryd.zeroValue9
  t12 := Tryd.underlying12
  a12 := Tryd.isAgg12
  z12 := Tryd.sizeOf12
  v12 := Tryd.zeroValue12
  t46 := Tryd.underlying98
  a46 := Tryd.isAgg98
  z46 := Tryd.sizeOf98
  v46 := Tryd.zeroValue98
  t53 := Tryd.underlying113
  a53 := Tryd.isAgg113
  z53 := Tryd.sizeOf113
  v53 := Tryd.zeroValue113
  t119 := Tryd.underlying94
  a119 := Tryd.isAgg94
  z119 := Tryd.sizeOf94
  t138 := Tryd.underlying96
  a138 := Tryd.isAgg96
  z138 := Tryd.sizeOf96
  v138 := Tryd.zeroValue96
  t139 := Tryd.underlying97
  a139 := Tryd.isAgg97
  z139 := Tryd.sizeOf97
  v139 := Tryd.zeroValue97
  g3 := by kernel_rfl
  g4 := by kernel_rfl }
def Tryd.laysCount_ren : Go.Shelf.Ren := ⟨fun | 195 => 135 | n => n, fun | 9 => 9 | 3 => 3 | 0 => 0 | 4 => 4 | n => n, fun | n => n⟩
theorem Tryd.laysCount : Go.Proofs.Lays.n195 Tryd.prog Tryd.laysCount_ren := {
  mixed := by kernel_rfl
  f195 := Tryd.func135.trans (congrArg some (by kernel_rfl))
  t0 := Tryd.underlying0
  a0 := Tryd.isAgg0
  z0 := Tryd.sizeOf0
  v0 := Tryd.zeroValue0
  t3 := Tryd.underlying3
  a3 := Tryd.isAgg3
  z3 := Tryd.sizeOf3
  v3 := Tryd.zeroValue3
  t4 := Tryd.underlying4
  a4 := Tryd.isAgg4
  z4 := Tryd.sizeOf4
  v4 := Tryd.zeroValue4
  t9 := Tryd.underlying9
  a9 := Tryd.isAgg9
  z9 := Tryd.sizeOf9
  v9 := Tryd.zeroValue9 }
def Tryd.laysTrimP_ren : Go.Shelf.Ren := ⟨fun | 101 => 101 | 208 => 116 | 206 => 77 | n => n, fun | 9 => 9 | 4 => 4 | 3 => 3 | n => n, fun | n => n⟩
theorem Tryd.laysTrimP : Go.Proofs.Lays.n101 Tryd.prog Tryd.laysTrimP_ren := {
  mixed := by kernel_rfl
  f101 := Tryd.func101.trans (congrArg some (by kernel_rfl))
  f206 := Tryd.func77.trans (congrArg some (by kernel_rfl))
  f208 := Tryd.func116.trans (congrArg some (by kernel_rfl))
  t3 := Tryd.underlying3
  a3 := Tryd.isAgg3
  z3 := Tryd.sizeOf3
  v3 := Tryd.zeroValue3
  t4 := Tryd.underlying4
  a4 := Tryd.isAgg4
  z4 := Tryd.sizeOf4
  v4 := Tryd.zeroValue4
  t9 := Tryd.underlying9
  a9 := Tryd.isAgg9
  z9 := Tryd.sizeOf9
  v9 := Tryd.zeroValue9 }
def Tryd.laysTrimS_ren : Go.Shelf.Ren := ⟨fun | 102 => 100 | 209 => 115 | 207 => 129 | n => n, fun | 9 => 9 | 4 => 4 | 3 => 3 | n => n, fun | n => n⟩
theorem Tryd.laysTrimS : Go.Proofs.Lays.n102 Tryd.prog Tryd.laysTrimS_ren := {
  mixed := by kernel_rfl
  f102 := Tryd.func100.trans (congrArg some (by kernel_rfl))
  f207 := Tryd.func129.trans (congrArg some (by kernel_rfl))
  f209 := Tryd.func115.trans (congrArg some (by kernel_rfl))
  t3 := Tryd.underlying3
  a3 := Tryd.isAgg3
  z3 := Tryd.sizeOf3
  v3 := Tryd.zeroValue3
  t4 := Tryd.underlying4
  a4 := Tryd.isAgg4
  z4 := Tryd.sizeOf4
  v4 := Tryd.zeroValue4
  t9 := Tryd.underlying9
  a9 := Tryd.isAgg9
  z9 := Tryd.sizeOf9
  v9 := Tryd.zeroValue9 }
def Tryd.laysRepl_ren : Go.Shelf.Ren := ⟨fun | 155 => 85 | 154 => 103 | 138 => 121 | 165 => 58 | 143 => 122 | 166 => 59 | 197 => 50 | 169 => 60 | 195 => 135 | 218 => 136 | 240 => 86 | 241 => 87 | 219 => 137 | 260 => 79 | 276 => 104 | 277 => 105 | 217 => 143 | 225 => 144 | 224 => 145 | 267 => 146 | 266 => 148 | 314 => 149 | n => n, fun | 9 => 9 | 3 => 3 | 4 => 4 | 72 => 82 | 0 => 0 | 76 => 86 | 105 => 75 | 21 => 21 | 5 => 5 | 70 => 79 | 20 => 20 | 37 => 80 | 75 => 85 | 127 => 109 | 164 => 120 | 46 => 98 | 119 => 94 | 139 => 97 | 138 => 96 | 146 => 155 | 51 => 141 | 80 => 88 | n => n, fun | 1 => 2 | 3 => 0 | 4 => 1 | n => n⟩
theorem Tryd.laysRepl : Go.Proofs.LaysM.n155 Tryd.prog Tryd.laysRepl_ren := {
  mixed := by kernel_rfl
  f138 := Tryd.func121.trans (congrArg some (by kernel_rfl))
  f143 := Tryd.func122.trans (congrArg some (by kernel_rfl))
  f154 := Tryd.func103.trans (congrArg some (by kernel_rfl))
  f155 := Tryd.func85.trans (congrArg some (by kernel_rfl))
  f165 := Tryd.func58.trans (congrArg some (by kernel_rfl))
  f166 := Tryd.func59.trans (congrArg some (by kernel_rfl))
  f169 := Tryd.func60.trans (congrArg some (by kernel_rfl))
  f195 := Tryd.func135.trans (congrArg some (by kernel_rfl))
  f197 := Tryd.func50.trans (congrArg some (by kernel_rfl))
  f217 := Tryd.func143.trans (congrArg some (by kernel_rfl))
  f218 := Tryd.func136.trans (congrArg some (by kernel_rfl))
  f219 := Tryd.func137.trans (congrArg some (by kernel_rfl))
  f224 := Tryd.func145.trans (congrArg some (by kernel_rfl))
  f225 := Tryd.func144.trans (congrArg some (by kernel_rfl))
  f240 := Tryd.func86.trans (congrArg some (by kernel_rfl))
  f241 := Tryd.func87.trans (congrArg some (by kernel_rfl))
  f260 := Tryd.func79.trans (congrArg some (by kernel_rfl))
  f266 := Tryd.func148.trans (congrArg some (by kernel_rfl))
  f267 := Tryd.func146.trans (congrArg some (by kernel_rfl))
  f276 := Tryd.func104.trans (congrArg some (by kernel_rfl))
  f277 := Tryd.func105.trans (congrArg some (by kernel_rfl))
  f314 := Tryd.func149.trans (congrArg some (by kernel_rfl))
  t0 := Tryd.underlying0
  a0 := Tryd.isAgg0
  z0 := Tryd.sizeOf0
  v0 := Tryd.zeroValue0
  t3 := Tryd.underlying3
  a3 := Tryd.isAgg3
  z3 := Tryd.sizeOf3
  v3 := Tryd.zeroValue3
  t4 := Tryd.underlying4
  a4 := Tryd.isAgg4
  z4 := Tryd.sizeOf4
  v4 := Tryd.zeroValue4
  t5 := Tryd.underlying5
  a5 := Tryd.isAgg5
  z5 := Tryd.sizeOf5
  v5 := Tryd.zeroValue5
  t9 := Tryd.underlying9
  a9 := Tryd.isAgg9
  z9 := Tryd.sizeOf9
  v9 := Tryd.zeroValue9
  t20 := Tryd.underlying20
  a20 := Tryd.isAgg20
  z20 := Tryd.sizeOf20
  v20 := Tryd.zeroValue20
  t21 := Tryd.underlying21
  a21 := Tryd.isAgg21
  z21 := Tryd.sizeOf21
  v21 := Tryd.zeroValue21
  t37 := Tryd.underlying80
  a37 := Tryd.isAgg80
  z37 := Tryd.sizeOf80
  v37 := Tryd.zeroValue80
  t46 := Tryd.underlying98
  a46 := Tryd.isAgg98
  z46 := Tryd.sizeOf98
  v46 := Tryd.zeroValue98
  t51 := Tryd.underlying141
  a51 := Tryd.isAgg141
  z51 := Tryd.sizeOf141
  v51 := Tryd.zeroValue141
  t70 := Tryd.underlying79
  a70 := Tryd.isAgg79
  z70 := Tryd.sizeOf79
  v70 := Tryd.zeroValue79
  t72 := Tryd.underlying82
  a72 := Tryd.isAgg82
  z72 := Tryd.sizeOf82
  v72 := Tryd.zeroValue82
  t75 := Tryd.underlying85
  a75 := Tryd.isAgg85
  z75 := Tryd.sizeOf85
  v75 := Tryd.zeroValue85
  t76 := Tryd.underlying86
  a76 := Tryd.isAgg86
  z76 := Tryd.sizeOf86
  v76 := Tryd.zeroValue86
  t105 := Tryd.underlying75
  a105 := Tryd.isAgg75
  z105 := Tryd.sizeOf75
  v105 := Tryd.zeroValue75
  t119 := Tryd.underlying94
  a119 := Tryd.isAgg94
  z119 := Tryd.sizeOf94
  t127 := Tryd.underlying109
  a127 := Tryd.isAgg109
  z127 := Tryd.sizeOf109
  v127 := Tryd.zeroValue109
  t138 := Tryd.underlying96
  a138 := Tryd.isAgg96
  z138 := Tryd.sizeOf96
  v138 := Tryd.zeroValue96
  t139 := Tryd.underlying97
  a139 := Tryd.isAgg97
  z139 := Tryd.sizeOf97
  v139 := Tryd.zeroValue97
  t146 := Tryd.underlying155
  a146 := Tryd.isAgg155
  z146 := Tryd.sizeOf155
  v146 := Tryd.zeroValue155
  t164 := Tryd.underlying120
  a164 := Tryd.isAgg120
  z164 := Tryd.sizeOf120
  v164 := Tryd.zeroValue120
  g1 := by kernel_rfl
  g3 := by kernel_rfl
  g4 := by kernel_rfl
  t80 := Tryd.underlying88
  a80 := Tryd.isAgg88
  z80 := Tryd.sizeOf88
  v80 := Tryd.zeroValue88
  i0 := by kernel_rfl
  i3 := by kernel_rfl
  i4 := by kernel_rfl
  i5 := by kernel_rfl
  i9 := by kernel_rfl
  i20 := by kernel_rfl
  i21 := by kernel_rfl
  i37 := by kernel_rfl
  i46 := by kernel_rfl
  i51 := by kernel_rfl
  i70 := by kernel_rfl
  i72 := by kernel_rfl
  i75 := by kernel_rfl
  i76 := by kernel_rfl
  i80 := by kernel_rfl
  i105 := by kernel_rfl
  i127 := by kernel_rfl
  i138 := by kernel_rfl
  i139 := by kernel_rfl
  i146 := by kernel_rfl
  i164 := by kernel_rfl
  m1 := by kernel_rfl
  s1_3 := fun w h => Go.Proofs.cell_of_shapedOpen_int (zero := #[.int .i64 0]) (t := 3) h (of_decide_eq_true (by kernel_rfl)) (by kernel_rfl) rfl (by kernel_rfl) (by kernel_rfl) Tryd.underlying3
  m3 := by kernel_rfl
  m4 := by kernel_rfl }
def Tryd.laysParse_ren : Go.Shelf.Ren := ⟨fun | 174 => 99 | 247 => 114 | 245 => 113 | 287 => 112 | 279 => 125 | 280 => 126 | 281 => 127 | 282 => 128 | 321 => 123 | 322 => 124 | 316 => 138 | 171 => 140 | 205 => 139 | 243 => 147 | 246 => 102 | 283 => 117 | 284 => 118 | 285 => 119 | 286 => 120 | 129 => 131 | 317 => 130 | 318 => 132 | 319 => 133 | 320 => 134 | 337 => 141 | 338 => 142 | n => n, fun | 9 => 9 | 3 => 3 | 2 => 2 | 75 => 85 | 85 => 116 | 4 => 4 | 167 => 134 | 5 => 5 | 53 => 113 | 175 => 114 | 46 => 98 | 168 => 136 | 37 => 80 | 0 => 0 | 210 => 147 | 21 => 21 | 127 => 109 | 145 => 152 | 143 => 150 | 171 => 128 | 173 => 131 | 212 => 140 | 51 => 141 | 20 => 20 | 213 => 142 | 232 => 153 | 233 => 154 | 80 => 88 | n => n, fun | 15 => 4 | 16 => 5 | 17 => 3 | 18 => 6 | 19 => 7 | n => n⟩
theorem Tryd.laysParse : Go.Proofs.LaysC.n174 Tryd.prog Tryd.laysParse_ren := {
  mixed := by kernel_rfl
  f129 := Tryd.func131.trans (congrArg some (by kernel_rfl))
  f171 := Tryd.func140.trans (congrArg some (by kernel_rfl))
  f174 := Tryd.func99.trans (congrArg some (by kernel_rfl))
  f205 := Tryd.func139.trans (congrArg some (by kernel_rfl))
  f243 := Tryd.func147.trans (congrArg some (by kernel_rfl))
  f245 := Tryd.func113.trans (congrArg some (by kernel_rfl))
  f246 := Tryd.func102.trans (congrArg some (by kernel_rfl))
  f247 := Tryd.func114.trans (congrArg some (by kernel_rfl))
  f279 := Tryd.func125.trans (congrArg some (by kernel_rfl))
  f280 := Tryd.func126.trans (congrArg some (by kernel_rfl))
  f281 := Tryd.func127.trans (congrArg some (by kernel_rfl))
  f282 := Tryd.func128.trans (congrArg some (by kernel_rfl))
  f283 := Tryd.func117.trans (congrArg some (by kernel_rfl))
  f284 := Tryd.func118.trans (congrArg some (by kernel_rfl))
  f285 := Tryd.func119.trans (congrArg some (by kernel_rfl))
  f286 := Tryd.func120.trans (congrArg some (by kernel_rfl))
  f287 := Tryd.func112.trans (congrArg some (by kernel_rfl))
  f316 := Tryd.func138.trans (congrArg some (by kernel_rfl))
  f317 := Tryd.func130.trans (congrArg some (by kernel_rfl))
  f318 := Tryd.func132.trans (congrArg some (by kernel_rfl))
  f319 := Tryd.func133.trans (congrArg some (by kernel_rfl))
  f320 := Tryd.func134.trans (congrArg some (by kernel_rfl))
  f321 := Tryd.func123.trans (congrArg some (by kernel_rfl))
  f322 := Tryd.func124.trans (congrArg some (by kernel_rfl))
  f337 := Tryd.func141.trans (congrArg some (by kernel_rfl))
  f338 := Tryd.func142.trans (congrArg some (by kernel_rfl))
  t0 := Tryd.underlying0
  a0 := Tryd.isAgg0
  z0 := Tryd.sizeOf0
  v0 := Tryd.zeroValue0
  t2 := Tryd.underlying2
  a2 := Tryd.isAgg2
  z2 := Tryd.sizeOf2
  v2 := Tryd.zeroValue2
  t3 := Tryd.underlying3
  a3 := Tryd.isAgg3
  z3 := Tryd.sizeOf3
  v3 := Tryd.zeroValue3
  t4 := Tryd.underlying4
  a4 := Tryd.isAgg4
  z4 := Tryd.sizeOf4
  v4 := Tryd.zeroValue4
  t5 := Tryd.underlying5
  a5 := Tryd.isAgg5
  z5 := Tryd.sizeOf5
  v5 := Tryd.zeroValue5
  t9 := Tryd.underlying9
  a9 := Tryd.isAgg9
  z9 := Tryd.sizeOf9
  v9 := Tryd.zeroValue9
  t20 := Tryd.underlying20
  a20 := Tryd.isAgg20
  z20 := Tryd.sizeOf20
  v20 := Tryd.zeroValue20
  t21 := Tryd.underlying21
  a21 := Tryd.isAgg21
  z21 := Tryd.sizeOf21
  v21 := Tryd.zeroValue21
  t37 := Tryd.underlying80
  a37 := Tryd.isAgg80
  z37 := Tryd.sizeOf80
  v37 := Tryd.zeroValue80
  t46 := Tryd.underlying98
  a46 := Tryd.isAgg98
  z46 := Tryd.sizeOf98
  v46 := Tryd.zeroValue98
  t51 := Tryd.underlying141
  a51 := Tryd.isAgg141
  z51 := Tryd.sizeOf141
  v51 := Tryd.zeroValue141
  t53 := Tryd.underlying113
  a53 := Tryd.isAgg113
  z53 := Tryd.sizeOf113
  v53 := Tryd.zeroValue113
  t75 := Tryd.underlying85
  a75 := Tryd.isAgg85
  z75 := Tryd.sizeOf85
  v75 := Tryd.zeroValue85
  t85 := Tryd.underlying116
  a85 := Tryd.isAgg116
  z85 := Tryd.sizeOf116
  v85 := Tryd.zeroValue116
  t127 := Tryd.underlying109
  a127 := Tryd.isAgg109
  z127 := Tryd.sizeOf109
  v127 := Tryd.zeroValue109
  t143 := Tryd.underlying150
  a143 := Tryd.isAgg150
  z143 := Tryd.sizeOf150
  v143 := Tryd.zeroValue150
  t145 := Tryd.underlying152
  a145 := Tryd.isAgg152
  z145 := Tryd.sizeOf152
  v145 := Tryd.zeroValue152
  t167 := Tryd.underlying134
  a167 := Tryd.isAgg134
  z167 := Tryd.sizeOf134
  v167 := Tryd.zeroValue134
  t168 := Tryd.underlying136
  a168 := Tryd.isAgg136
  z168 := Tryd.sizeOf136
  v168 := Tryd.zeroValue136
  t171 := Tryd.underlying128
  a171 := Tryd.isAgg128
  z171 := Tryd.sizeOf128
  v171 := Tryd.zeroValue128
  t173 := Tryd.underlying131
  a173 := Tryd.isAgg131
  z173 := Tryd.sizeOf131
  v173 := Tryd.zeroValue131
  t175 := Tryd.underlying114
  a175 := Tryd.isAgg114
  z175 := Tryd.sizeOf114
  v175 := Tryd.zeroValue114
  t210 := Tryd.underlying147
  a210 := Tryd.isAgg147
  z210 := Tryd.sizeOf147
  v210 := Tryd.zeroValue147
  t212 := Tryd.underlying140
  a212 := Tryd.isAgg140
  z212 := Tryd.sizeOf140
  v212 := Tryd.zeroValue140
  t213 := Tryd.underlying142
  a213 := Tryd.isAgg142
  z213 := Tryd.sizeOf142
  t232 := Tryd.underlying153
  a232 := Tryd.isAgg153
  z232 := Tryd.sizeOf153
  v232 := Tryd.zeroValue153
  t233 := Tryd.underlying154
  a233 := Tryd.isAgg154
  z233 := Tryd.sizeOf154
  v233 := Tryd.zeroValue154
  g15 := by kernel_rfl
  g16 := by kernel_rfl
  g17 := by kernel_rfl
  g18 := by kernel_rfl
  g19 := by kernel_rfl
  t80 := Tryd.underlying88
  a80 := Tryd.isAgg88
  z80 := Tryd.sizeOf88
  v80 := Tryd.zeroValue88
  i0 := by kernel_rfl
  i2 := by kernel_rfl
  i3 := by kernel_rfl
  i4 := by kernel_rfl
  i5 := by kernel_rfl
  i9 := by kernel_rfl
  i20 := by kernel_rfl
  i21 := by kernel_rfl
  i37 := by kernel_rfl
  i46 := by kernel_rfl
  i51 := by kernel_rfl
  i53 := by kernel_rfl
  i75 := by kernel_rfl
  i80 := by kernel_rfl
  i85 := by kernel_rfl
  i127 := by kernel_rfl
  i143 := by kernel_rfl
  i145 := by kernel_rfl
  i167 := by kernel_rfl
  i168 := by kernel_rfl
  i171 := by kernel_rfl
  i173 := by kernel_rfl
  i175 := by kernel_rfl
  i210 := by kernel_rfl
  i212 := by kernel_rfl
  i232 := by kernel_rfl
  i233 := by kernel_rfl
  m15 := by kernel_rfl
  m16 := by kernel_rfl
  m17 := by kernel_rfl
  m18 := by kernel_rfl
  m19 := by kernel_rfl
  c0 := by kernel_rfl
  c2 := by kernel_rfl
  c3 := by kernel_rfl
  c4 := by kernel_rfl
  c5 := by kernel_rfl
  c9 := by kernel_rfl
  c20 := by kernel_rfl
  c21 := by kernel_rfl
  c37 := by kernel_rfl
  c46 := by kernel_rfl
  c51 := by kernel_rfl
  c53 := by kernel_rfl
  c75 := by kernel_rfl
  c80 := by kernel_rfl
  c85 := by kernel_rfl
  c127 := by kernel_rfl
  c143 := by kernel_rfl
  c145 := by kernel_rfl
  c167 := by kernel_rfl
  c168 := by kernel_rfl
  c171 := by kernel_rfl
  c173 := by kernel_rfl
  c175 := by kernel_rfl
  c210 := by kernel_rfl
  c212 := by kernel_rfl
  c213 := by kernel_rfl
  c232 := by kernel_rfl
  c233 := by kernel_rfl }
def Tryd.laysFmt_ren : Go.Shelf.Ren := ⟨fun | 173 => 84 | 246 => 102 | 283 => 117 | 284 => 118 | 285 => 119 | 286 => 120 | 129 => 131 | 317 => 130 | 318 => 132 | 319 => 133 | 320 => 134 | 337 => 141 | 338 => 142 | n => n, fun | 2 => 2 | 3 => 3 | 9 => 9 | 4 => 4 | 171 => 128 | 0 => 0 | 53 => 113 | 37 => 80 | 5 => 5 | 173 => 131 | 212 => 140 | 51 => 141 | 20 => 20 | 213 => 142 | 46 => 98 | 232 => 153 | 233 => 154 | n => n, fun | 17 => 3 | 18 => 6 | 19 => 7 | n => n⟩
theorem Tryd.laysFmt : Go.Proofs.LaysM.n173 Tryd.prog Tryd.laysFmt_ren := {
  mixed := by kernel_rfl
  f129 := Tryd.func131.trans (congrArg some (by kernel_rfl))
  f173 := Tryd.func84.trans (congrArg some (by kernel_rfl))
  f246 := Tryd.func102.trans (congrArg some (by kernel_rfl))
  f283 := Tryd.func117.trans (congrArg some (by kernel_rfl))
  f284 := Tryd.func118.trans (congrArg some (by kernel_rfl))
  f285 := Tryd.func119.trans (congrArg some (by kernel_rfl))
  f286 := Tryd.func120.trans (congrArg some (by kernel_rfl))
  f317 := Tryd.func130.trans (congrArg some (by kernel_rfl))
  f318 := Tryd.func132.trans (congrArg some (by kernel_rfl))
  f319 := Tryd.func133.trans (congrArg some (by kernel_rfl))
  f320 := Tryd.func134.trans (congrArg some (by kernel_rfl))
  f337 := Tryd.func141.trans (congrArg some (by kernel_rfl))
  f338 := Tryd.func142.trans (congrArg some (by kernel_rfl))
  t0 := Tryd.underlying0
  a0 := Tryd.isAgg0
  z0 := Tryd.sizeOf0
  v0 := Tryd.zeroValue0
  t2 := Tryd.underlying2
  a2 := Tryd.isAgg2
  z2 := Tryd.sizeOf2
  v2 := Tryd.zeroValue2
  t3 := Tryd.underlying3
  a3 := Tryd.isAgg3
  z3 := Tryd.sizeOf3
  v3 := Tryd.zeroValue3
  t4 := Tryd.underlying4
  a4 := Tryd.isAgg4
  z4 := Tryd.sizeOf4
  v4 := Tryd.zeroValue4
  t5 := Tryd.underlying5
  a5 := Tryd.isAgg5
  z5 := Tryd.sizeOf5
  v5 := Tryd.zeroValue5
  t9 := Tryd.underlying9
  a9 := Tryd.isAgg9
  z9 := Tryd.sizeOf9
  v9 := Tryd.zeroValue9
  t20 := Tryd.underlying20
  a20 := Tryd.isAgg20
  z20 := Tryd.sizeOf20
  v20 := Tryd.zeroValue20
  t37 := Tryd.underlying80
  a37 := Tryd.isAgg80
  z37 := Tryd.sizeOf80
  v37 := Tryd.zeroValue80
  t46 := Tryd.underlying98
  a46 := Tryd.isAgg98
  z46 := Tryd.sizeOf98
  v46 := Tryd.zeroValue98
  t51 := Tryd.underlying141
  a51 := Tryd.isAgg141
  z51 := Tryd.sizeOf141
  v51 := Tryd.zeroValue141
  t53 := Tryd.underlying113
  a53 := Tryd.isAgg113
  z53 := Tryd.sizeOf113
  v53 := Tryd.zeroValue113
  t171 := Tryd.underlying128
  a171 := Tryd.isAgg128
  z171 := Tryd.sizeOf128
  v171 := Tryd.zeroValue128
  t173 := Tryd.underlying131
  a173 := Tryd.isAgg131
  z173 := Tryd.sizeOf131
  v173 := Tryd.zeroValue131
  t212 := Tryd.underlying140
  a212 := Tryd.isAgg140
  z212 := Tryd.sizeOf140
  v212 := Tryd.zeroValue140
  t213 := Tryd.underlying142
  a213 := Tryd.isAgg142
  z213 := Tryd.sizeOf142
  t232 := Tryd.underlying153
  a232 := Tryd.isAgg153
  z232 := Tryd.sizeOf153
  v232 := Tryd.zeroValue153
  t233 := Tryd.underlying154
  a233 := Tryd.isAgg154
  z233 := Tryd.sizeOf154
  v233 := Tryd.zeroValue154
  g17 := by kernel_rfl
  g18 := by kernel_rfl
  g19 := by kernel_rfl
  i0 := by kernel_rfl
  i2 := by kernel_rfl
  i3 := by kernel_rfl
  i4 := by kernel_rfl
  i5 := by kernel_rfl
  i9 := by kernel_rfl
  i20 := by kernel_rfl
  i37 := by kernel_rfl
  i46 := by kernel_rfl
  i51 := by kernel_rfl
  i53 := by kernel_rfl
  i171 := by kernel_rfl
  i173 := by kernel_rfl
  i212 := by kernel_rfl
  i232 := by kernel_rfl
  i233 := by kernel_rfl
  m17 := by kernel_rfl
  m18 := by kernel_rfl
  m19 := by kernel_rfl }
def Tryd.laysHasP_ren : Go.Shelf.Ren := ⟨fun | 99 => 48 | 206 => 77 | n => n, fun | 9 => 9 | 4 => 4 | 3 => 3 | n => n, fun | n => n⟩
theorem Tryd.laysHasP : Go.Proofs.Lays.n99 Tryd.prog Tryd.laysHasP_ren := {
  mixed := by kernel_rfl
  f99 := Tryd.func48.trans (congrArg some (by kernel_rfl))
  f206 := Tryd.func77.trans (congrArg some (by kernel_rfl))
  t3 := Tryd.underlying3
  a3 := Tryd.isAgg3
  z3 := Tryd.sizeOf3
  v3 := Tryd.zeroValue3
  t4 := Tryd.underlying4
  a4 := Tryd.isAgg4
  z4 := Tryd.sizeOf4
  v4 := Tryd.zeroValue4
  t9 := Tryd.underlying9
  a9 := Tryd.isAgg9
  z9 := Tryd.sizeOf9
  v9 := Tryd.zeroValue9 }
def Tryd.laysJoin_ren : Go.Shelf.Ren := ⟨fun | 156 => 29 | 165 => 58 | 166 => 59 | 169 => 60 | 240 => 86 | 241 => 87 | 276 => 104 | 277 => 105 | n => n, fun | 31 => 58 | 9 => 9 | 3 => 3 | 4 => 4 | 0 => 0 | 20 => 20 | 72 => 82 | 76 => 86 | 70 => 79 | 37 => 80 | 75 => 85 | 127 => 109 | 164 => 120 | 5 => 5 | 80 => 88 | n => n, fun | n => n⟩
theorem Tryd.laysJoin : Go.Proofs.Lays.n156 Tryd.prog Tryd.laysJoin_ren := {
  mixed := by kernel_rfl
  f156 := Tryd.func29.trans (congrArg some (by kernel_rfl))
  f165 := Tryd.func58.trans (congrArg some (by kernel_rfl))
  f166 := Tryd.func59.trans (congrArg some (by kernel_rfl))
  f169 := Tryd.func60.trans (congrArg some (by kernel_rfl))
  f240 := Tryd.func86.trans (congrArg some (by kernel_rfl))
  f241 := Tryd.func87.trans (congrArg some (by kernel_rfl))
  f276 := Tryd.func104.trans (congrArg some (by kernel_rfl))
  f277 := Tryd.func105.trans (congrArg some (by kernel_rfl))
  t0 := Tryd.underlying0
  a0 := Tryd.isAgg0
  z0 := Tryd.sizeOf0
  v0 := Tryd.zeroValue0
  t3 := Tryd.underlying3
  a3 := Tryd.isAgg3
  z3 := Tryd.sizeOf3
  v3 := Tryd.zeroValue3
  t4 := Tryd.underlying4
  a4 := Tryd.isAgg4
  z4 := Tryd.sizeOf4
  v4 := Tryd.zeroValue4
  t9 := Tryd.underlying9
  a9 := Tryd.isAgg9
  z9 := Tryd.sizeOf9
  v9 := Tryd.zeroValue9
  t20 := Tryd.underlying20
  a20 := Tryd.isAgg20
  z20 := Tryd.sizeOf20
  v20 := Tryd.zeroValue20
  t31 := Tryd.underlying58
  a31 := Tryd.isAgg58
  z31 := Tryd.sizeOf58
  v31 := Tryd.zeroValue58
  t37 := Tryd.underlying80
  a37 := Tryd.isAgg80
  z37 := Tryd.sizeOf80
  v37 := Tryd.zeroValue80
  t70 := Tryd.underlying79
  a70 := Tryd.isAgg79
  z70 := Tryd.sizeOf79
  v70 := Tryd.zeroValue79
  t72 := Tryd.underlying82
  a72 := Tryd.isAgg82
  z72 := Tryd.sizeOf82
  v72 := Tryd.zeroValue82
  t75 := Tryd.underlying85
  a75 := Tryd.isAgg85
  z75 := Tryd.sizeOf85
  v75 := Tryd.zeroValue85
  t76 := Tryd.underlying86
  a76 := Tryd.isAgg86
  z76 := Tryd.sizeOf86
  v76 := Tryd.zeroValue86
  t127 := Tryd.underlying109
  a127 := Tryd.isAgg109
  z127 := Tryd.sizeOf109
  v127 := Tryd.zeroValue109
  t164 := Tryd.underlying120
  a164 := Tryd.isAgg120
  z164 := Tryd.sizeOf120
  v164 := Tryd.zeroValue120 }
end Go.Proofs

/- The walks of runes.Right and runes.Split. -/
set_option linter.unusedSimpArgs false
set_option linter.unusedVariables false
set_option maxRecDepth 100000
namespace Go.Proofs.YtbnddpicpomakaaDoor
open Go.RowKit

/-- Go's two tables of UTF-8 lie as the program's text lays them. -/
def Tabs (w : World) : Prop := Lib.Utf8Tabs (Tryd.laysValid_ren.g 3) (Tryd.laysValid_ren.g 4) w

theorem Tabs.below {w w' : World} (h : Tabs w) (hb : Below w.heap.size w w') : Tabs w' := Utf8Tabs_below h hb

/-- The code points as Go's integers. -/
def ptsZ (p : List Nat) : List Int := p.map fun (n : Nat) => (n : Int)
theorem ptsZ_len (p : List Nat) : (ptsZ p).length = p.length := by simp [ptsZ]
theorem ptsZ_append (p q : List Nat) : ptsZ (p ++ q) = ptsZ p ++ ptsZ q := by simp [ptsZ]

theorem Right_any (s : ByteArray) (w : World) (hs : s.size ≤ 9223372036854775807) (hT : Tabs w) :
    Calls Tryd.prog 25 #[.string s] w fun e w' => e = .returned (.bool (decS (bytesU s)).isSome) ∧ Below w.heap.size w w' := by
  have cV : Calls Tryd.prog 45 #[.string s] w _ := Any.utf8_ValidString Tryd.laysValid s w hs hT
  rw [valid_bytes] at cV
  obtain ⟨g, hg⟩ : ∃ g, (decS (bytesU s)).isSome = g := ⟨_, rfl⟩
  rw [hg] at cV ⊢
  have CV := Lib.hid cV
  clear cV hg hT
  go_enter Tryd.func25, Tryd.ntmps25
  go_wp2_with fail
  refine CV.out.mono ?_
  rintro e w1 ⟨rfl, hb⟩
  go_wp2
  go_ret
  exact ⟨rfl, hb⟩

theorem OwnI.iterAt {k : IntKind} {w : World} {base : Nat} {T : TypeId} {v : Value} {l : List Int} (h : OwnI k w base T v l) {b : Nat} (hb : b < base) (s : ByteArray) (pos : Nat) : OwnI k (w.iterAt b s pos) base T v l := by
  obtain ⟨h1, h2⟩ := h
  refine ⟨h1, ?_⟩
  rcases h2 with h2 | ⟨g, cap, cur, hv, hg, hh, r⟩
  · exact .inl h2
  · exact .inr ⟨g, cap, cur, hv, hg, by rw [Lib.iterAt_other _ _ _ _ _ (by omega)]; exact hh, r⟩

/-- What Split hands back: the points, or an error. -/
def RetSp (w : World) (o : Option (List Nat)) (e : Ending) (w' : World) : Prop :=
  Below w.heap.size w w' ∧ ((o = none ∧ e = .returned (.tuple #[.slice none 0 0, .int .i64 3])) ∨
    ∃ p a cap, o = some p ∧ e = .returned (.tuple #[.slice a p.length cap, .int .i64 0]) ∧ p.length ≤ cap ∧ Rs .i32 w'.heap.size w' a (ptsZ p))

theorem Tryd.info21 : (Tryd.prog.info? 21).map (fun i => (i.zero, i.size, i.bytes)) = some (some (.int .i32 0), 1, 4) := by kernel_rfl

end Go.Proofs.YtbnddpicpomakaaDoor

/- Quoted texts: plain mathematics. -/
set_option linter.unusedSimpArgs false
set_option linter.unusedVariables false
set_option maxRecDepth 100000
namespace Go.Proofs.YtbnddpicpomakaaDoor
set_option linter.unusedSimpArgs false
open Go

def dblL : List UInt8 → List UInt8
  | [] => []
  | c :: l => if c = 39 then 39 :: 39 :: dblL l else c :: dblL l

theorem dblL_app : ∀ a b : List UInt8, dblL (a ++ b) = dblL a ++ dblL b
  | [], b => rfl
  | c :: a, b => by
    rw [List.cons_append, dblL, dblL, dblL_app a b]
    split <;> rfl

theorem dblL_plain : ∀ {a : List UInt8}, (∀ c ∈ a, c ≠ 39) → dblL a = a
  | [], _ => rfl
  | c :: a, h => by rw [dblL, if_neg (h c (by simp)), dblL_plain fun x hx => h x (by simp [hx])]

theorem dblL_len : ∀ a : List UInt8, a.length ≤ (dblL a).length ∧ (dblL a).length ≤ 2 * a.length
  | [] => by simp [dblL]
  | c :: a => by
    have := dblL_len a
    rw [dblL]
    split <;> simp <;> omega

/-- Every text is free of quotes, or is one that is, a quote, and a rest. -/
theorem split_quote : ∀ l : List UInt8, (∀ c ∈ l, c ≠ 39) ∨ ∃ a b, l = a ++ 39 :: b ∧ ∀ c ∈ a, c ≠ 39
  | [] => .inl (by simp)
  | c :: l => by
    by_cases h : c = 39
    · subst h; exact .inr ⟨[], l, rfl, by simp⟩
    · rcases split_quote l with h2 | ⟨a, b, h3, h4⟩
      · exact .inl fun x hx => (List.mem_cons.1 hx).elim (fun e => e ▸ h) (h2 x)
      · exact .inr ⟨c :: a, b, by rw [h3]; rfl, fun x hx => (List.mem_cons.1 hx).elim (fun e => e ▸ h) (h4 x)⟩

theorem index_none_of (p : List UInt8) : ∀ {l : List UInt8}, p = 39 :: p.tail → (∀ c ∈ l, c ≠ 39) → Lib.index l p = -1
  | [], hp, _ => by rw [hp]; rfl
  | c :: l, hp, h => by
    have h0 := h c (by simp)
    have hn : p.isPrefixOf (c :: l) = false := by
      rw [hp, List.isPrefixOf]
      have : ((39 : UInt8) == c) = false := by simpa using fun e => h0 e.symm
      rw [this]; rfl
    rw [Lib.index, hn, index_none_of p hp fun x hx => h x (by simp [hx])]
    rfl

theorem index_some_of (p : List UInt8) : ∀ {a b : List UInt8}, p = 39 :: p.tail → (∀ c ∈ a, c ≠ 39) → p.isPrefixOf b = true → Lib.index (a ++ b) p = (a.length : Int)
  | [], b, hp, _, hb => by
    cases b with
    | nil => rw [hp] at hb; simp [List.isPrefixOf] at hb
    | cons x b => rw [List.nil_append, Lib.index, hb]; rfl
  | c :: a, b, hp, h, hb => by
    have h0 := h c (by simp)
    have hn : p.isPrefixOf (c :: (a ++ b)) = false := by
      rw [hp, List.isPrefixOf]
      have : ((39 : UInt8) == c) = false := by simpa using fun e => h0 e.symm
      rw [this]; rfl
    have ih := index_some_of p (a := a) (b := b) hp (fun x hx => h x (by simp [hx])) hb
    rw [List.cons_append, Lib.index, hn, ih, List.length_cons]
    rw [if_neg (by simp)]
    have : ((a.length : Int) == -1) = false := by simp
    rw [this]
    simp

theorem replaceK_none {o n l : List UInt8} (h : Lib.index l o = -1) : ∀ k, Lib.replaceK o n k l = l
  | 0 => rfl
  | k + 1 => by rw [Lib.replaceK, h]; rfl

/-- Each quote doubled. -/
theorem replaceK_dbl : ∀ (k : Nat) (l : List UInt8), Lib.count l [39] ≤ k → Lib.replaceK [39] [39, 39] k l = dblL l
  | k, l, hk => by
    rcases split_quote l with h | ⟨a, b, rfl, h⟩
    · rw [replaceK_none (index_none_of [39] rfl h), dblL_plain h]
    · have hi : Lib.index (a ++ 39 :: b) [39] = (a.length : Int) := index_some_of [39] rfl h (by simp [List.isPrefixOf])
      have hc := Lib.count_hit (by simp) hi
      cases k with
      | zero => omega
      | succ k =>
        have hd : (a ++ 39 :: b).drop (a.length + [(39 : UInt8)].length) = b := by
          rw [← List.drop_drop, List.drop_left]; rfl
        rw [hd] at hc
        rw [Lib.replaceK_hit _ _ _ _ _ hi, hd, List.take_left, replaceK_dbl k b (by omega), dblL_app, dblL_plain h]
        simp [dblL]

theorem replaceAll_dbl (l : List UInt8) : Lib.replaceAll l [39] [39, 39] = dblL l := by
  unfold Lib.replaceAll Lib.replace Lib.replaceNum
  rw [if_neg (by decide), if_pos (.inl (by omega))]
  exact replaceK_dbl _ l (Nat.le_refl _)

/-- .. and back. -/
theorem replaceK_undbl : ∀ (k : Nat) (l : List UInt8), Lib.count (dblL l) [39, 39] ≤ k → Lib.replaceK [39, 39] [39] k (dblL l) = l
  | k, l, hk => by
    rcases split_quote l with h | ⟨a, b, rfl, h⟩
    · rw [dblL_plain h, replaceK_none (index_none_of [39, 39] rfl h)]
    · have e : dblL (a ++ 39 :: b) = a ++ 39 :: 39 :: dblL b := by rw [dblL_app, dblL_plain h]; simp [dblL]
      rw [e] at hk ⊢
      have hi : Lib.index (a ++ 39 :: 39 :: dblL b) [39, 39] = (a.length : Int) := index_some_of [39, 39] rfl h (by simp [List.isPrefixOf])
      have hc := Lib.count_hit (by simp) hi
      cases k with
      | zero => omega
      | succ k =>
        have hd : (a ++ 39 :: 39 :: dblL b).drop (a.length + [(39 : UInt8), 39].length) = dblL b := by
          rw [← List.drop_drop, List.drop_left]; rfl
        rw [hd] at hc
        rw [Lib.replaceK_hit _ _ _ _ _ hi, hd, List.take_left, replaceK_undbl k b (by omega)]
        simp

theorem replaceAll_undbl (l : List UInt8) : Lib.replaceAll (dblL l) [39, 39] [39] = l := by
  unfold Lib.replaceAll Lib.replace Lib.replaceNum
  rw [if_neg (by decide), if_pos (.inl (by omega))]
  exact replaceK_undbl _ l (Nat.le_refl _)

def quoteL (l : List UInt8) : List UInt8 := 39 :: (dblL l ++ [39])
def bodyL (l : List UInt8) : List UInt8 := Lib.trimSuffix (Lib.trimPrefix l [39]) [39]
def plainL (l : List UInt8) : List UInt8 := Lib.replaceAll (bodyL l) [39, 39] [39]
def unquoteL (l : List UInt8) : List UInt8 × Int := if quoteL (plainL l) = l then (plainL l, 0) else ([], 3)

theorem body_quote (l : List UInt8) : bodyL (quoteL l) = dblL l := by
  have h1 : Lib.trimPrefix (quoteL l) [39] = dblL l ++ [39] := by
    unfold Lib.trimPrefix Lib.hasPrefix quoteL
    rw [if_pos (by simp [List.isPrefixOf])]
    rfl
  have hs : [(39 : UInt8)].isSuffixOf (dblL l ++ [39]) = true := by
    rw [List.isSuffixOf_iff_suffix]
    exact ⟨dblL l, rfl⟩
  unfold bodyL
  rw [h1]
  unfold Lib.trimSuffix Lib.hasSuffix
  rw [if_pos hs]
  simp

theorem plain_quote (l : List UInt8) : plainL (quoteL l) = l := by
  unfold plainL; rw [body_quote, replaceAll_undbl]

theorem unquote_quote (l : List UInt8) : unquoteL (quoteL l) = (l, 0) := by
  unfold unquoteL; rw [plain_quote, if_pos rfl]

theorem body_len (l : List UInt8) : (bodyL l).length ≤ l.length := by
  unfold bodyL Lib.trimSuffix Lib.trimPrefix
  split <;> split <;> simp [List.length_take, List.length_drop] <;> omega
end Go.Proofs.YtbnddpicpomakaaDoor

/- The walks of runes.Count, Quote, Unquote, isDigits, Number and Digits. -/
set_option linter.unusedSimpArgs false
set_option linter.unusedVariables false
set_option maxRecDepth 100000
namespace Go.Proofs.YtbnddpicpomakaaDoor
set_option linter.unusedSimpArgs false
open Go.RowKit

/-- The name of the table of powers. -/
def powName : String := "internal/strconv.uint64pow10"

/-- What the package's variables hold. -/
structure Pre4 (w : World) : Prop where
  tabs : Tabs w
  maxlen : ∃ m, w.cell? ⟨Tryd.laysRepl_ren.g 1, 0, none⟩ = some (.int .i64 m)
  pow : Lib.TabIs Tryd.prog w powName .u64 Lib.pow10Tab
/-- .. and the error of numbers out of range. -/
structure Pre5 (w : World) : Prop extends Pre4 w where
  rng : ∃ ev, w.cell? ⟨Tryd.laysParse_ren.g 16, 0, none⟩ = some ev ∧ (ev = .nilIface ∨ ∃ te pe, ev = .iface te pe)
instance (w : World) : Coe (Pre5 w) (Pre4 w) := ⟨fun h => h.toPre4⟩

theorem cell_kept5 {w w' : World} {a : Addr} {v : Value} (h : w.cell? a = some v) (hb : Below w.heap.size w w') : w'.cell? a = some v :=
  (hb.cell (World.block_lt_of_cell? _ _ h)).trans h

theorem var_kept5 {P : Program} {w w' : World} {n : String} {cs : Array Value} (h : w.var? P n = some cs) (hb : Below w.heap.size w w') : w'.var? P n = some cs := by
  unfold World.var? at h ⊢
  cases hg : P.globalNamed n with
  | none => rw [hg] at h; simp at h
  | some g =>
    rw [hg] at h
    simp only [Option.bind_some] at h ⊢
    have hlt : g < w.heap.size := by
      by_cases hlt : g < w.heap.size
      · exact hlt
      · rw [Array.getElem?_eq_none (by omega)] at h; simp at h
    rw [hb.block g hlt]
    exact h

theorem Pre4.below {w w' : World} (h : Pre4 w) (hb : Below w.heap.size w w') : Pre4 w' :=
  ⟨h.tabs.below hb, let ⟨m, hm⟩ := h.maxlen; ⟨m, cell_kept5 hm hb⟩, var_kept5 h.pow hb⟩
theorem Pre5.below {w w' : World} (h : Pre5 w) (hb : Below w.heap.size w w') : Pre5 w' :=
  ⟨h.toPre4.below hb, let ⟨ev, h1, h2⟩ := h.rng; ⟨ev, cell_kept5 h1 hb, h2⟩⟩

/-! Count. -/
theorem count_dec (s : ByteArray) : ∀ (r : List Nat) (pos fuel : Nat), decS ((bytesU s).drop pos) = some r → s.size ≤ pos + fuel → Lib.runeCountFrom s fuel pos = r.length
  | [], pos, fuel, h, _ => by
    have hp : ¬ pos < s.size := by
      intro hp
      have h2 := ((decS_iff (fun c hc => bytesU_lt s c (List.mem_of_mem_drop hc)) []).1 h).2
      have := congrArg List.length h2
      rw [List.length_drop, bytesU_len] at this
      simp [encS] at this
      omega
    rw [Lib.runeCountFrom_end s fuel pos hp]; rfl
  | v :: r, pos, fuel, h, hf => by
    have hne : (bytesU s).drop pos ≠ [] := by
      intro h0; rw [h0, decS_nil] at h; simp at h
    obtain ⟨v', n, r', h1, h2, h3, h4, h5, h6, h7, h8⟩ := decS_step (fun c hc => bytesU_lt s c (List.mem_of_mem_drop hc)) h hne
    simp only [List.cons.injEq] at h2
    obtain ⟨rfl, rfl⟩ := h2
    rw [List.length_drop, bytesU_len] at h6
    obtain ⟨f, rfl⟩ : ∃ f, fuel = f + 1 := ⟨fuel - 1, by omega⟩
    unfold Lib.runeCountFrom
    rw [if_pos (by omega), decode_hd, h4]
    rw [List.drop_drop] at h3
    rw [count_dec s r (pos + n) f h3 (by omega), List.length_cons]; omega

def countV (s : ByteArray) : Int × Int := match decS (bytesU s) with
  | none => (0, 3)
  | some p => ((p.length : Int), 0)

/-! Quote and Unquote. -/
def baL (l : List UInt8) : ByteArray := ⟨l.toArray⟩
theorem baL_list (l : List UInt8) : (baL l).data.toList = l := by simp [baL]
theorem baL_size (l : List UInt8) : (baL l).size = l.length := by simp [baL, ByteArray.size]
theorem baL_data (s : ByteArray) : baL s.data.toList = s := by
  apply ByteArray.ext; simp [baL]

def quoteS (s : ByteArray) : ByteArray := baL (quoteL s.data.toList)
def unquoteS (s : ByteArray) : ByteArray × Int := (baL (unquoteL s.data.toList).1, (unquoteL s.data.toList).2)

theorem extraRepl : Builder.Extra Tryd.prog Tryd.laysRepl_ren := {
  sizeBuilder := by kernel_rfl
  liesBuilder := by kernel_rfl
  t5 := Tryd.underlying5
  a5 := Tryd.isAgg5
  z5 := Tryd.sizeOf5
  v5 := Tryd.zeroValue5
  infoByte := by kernel_rfl
  cellsByte := by kernel_rfl
  sizeByte := by kernel_rfl
  neB5 := by decide }

theorem repl_any (s old new : ByteArray) (w : World) (hT : Pre4 w) (hs : s.size ≤ 1000000) (h1 : 1 ≤ old.size) (h2 : new.size ≤ 2) :
    Calls Tryd.prog 85 #[.string s, .string old, .string new] w fun e w' => e = .returned (.string (baL (Lib.replaceAll s.data.toList old.data.toList new.data.toList))) ∧ Below w.heap.size w w' := by
  obtain ⟨m, hm⟩ := hT.maxlen
  have hc := Lib.countB_le old h1 s.size s (Nat.le_refl _)
  refine Any.strings_ReplaceAll { Tryd.laysRepl with } extraRepl s old new m w (by omega) hm h1 ?_
  have : Lib.countB s old * new.size ≤ s.size * 2 := Nat.mul_le_mul hc h2
  omega

theorem quote_cat (s : ByteArray) : (⟨#[39]⟩ : ByteArray) ++ baL (dblL s.data.toList) ++ ⟨#[39]⟩ = quoteS s := by
  apply ByteArray.ext
  simp [quoteS, baL, quoteL]

theorem dbl_size (s : ByteArray) : (baL (dblL s.data.toList)).size ≤ 2 * s.size := by
  rw [baL_size]
  have := (dblL_len s.data.toList).2
  simpa using this

set_option maxHeartbeats 1000000 in
theorem Quote_any (s : ByteArray) (w : World) (hT : Pre4 w) (hs : s.size ≤ 1000000) :
    Calls Tryd.prog 56 #[.string s] w fun e w' => e = .returned (.string (quoteS s)) ∧ Below w.heap.size w w' := by
  have h := repl_any s ⟨#[39]⟩ ⟨#[39, 39]⟩ w hT hs (by decide) (by decide)
  have e : Lib.replaceAll s.data.toList (⟨#[39]⟩ : ByteArray).data.toList (⟨#[39, 39]⟩ : ByteArray).data.toList = dblL s.data.toList := replaceAll_dbl _
  rw [e] at h
  have hq := quote_cat s
  have hz := dbl_size s
  obtain ⟨d, hd⟩ : ∃ d, baL (dblL s.data.toList) = d := ⟨_, rfl⟩
  rw [hd] at h hq hz
  have HQ := Lib.hid hq
  have HC := Lib.hid h
  have s1 : ¬ 9223372036854775807 < 1 + d.size := by omega
  have s2 : ¬ 9223372036854775807 < 1 + d.size + 1 := by omega
  clear h e hq hd hT
  go_enter Tryd.func56, Tryd.ntmps56
  go_wp2_with fail
  refine HC.out.mono ?_
  rintro e w1 ⟨rfl, b1⟩
  go_wp2
  go_ret
  exact ⟨by rw [← HQ.out]; rfl, b1⟩

theorem neq_lists {a b : ByteArray} (h : ¬ a = b) : (a.toList != b.toList) = true := by
  rw [bne_iff_ne]
  intro e
  apply h
  rw [ByteArray.toList_eq, ByteArray.toList_eq] at e
  exact ByteArray.ext (Array.toList_inj.1 e)

theorem plain_len (l : List UInt8) (h : quoteL (plainL l) = l) : (plainL l).length ≤ l.length := by
  have := congrArg List.length h
  unfold quoteL at this
  have h2 := (dblL_len (plainL l)).1
  simp at this
  omega

theorem index_bd (l p : List UInt8) : Lib.index l p ≤ (l.length : Int) := by
  induction l with
  | nil => rw [Lib.index]; split <;> simp
  | cons b l ih =>
    rw [Lib.index]
    split
    · simp; omega
    · split
      · simp; omega
      · simp; omega

theorem replaceK_len (o n : List UInt8) (h : n.length ≤ o.length) : ∀ (k : Nat) (l : List UInt8), (Lib.replaceK o n k l).length ≤ l.length + n.length * k
  | 0, l => by simp [Lib.replaceK]
  | k + 1, l => by
    rw [Lib.replaceK]
    split
    · omega
    · have := replaceK_len o n h k (l.drop ((Lib.index l o).toNat + o.length))
      rw [List.length_append, List.length_append, List.length_take]
      rw [List.length_drop] at this
      rw [Nat.mul_succ]
      omega

theorem plain_bd (l : List UInt8) : (plainL l).length ≤ 2 * l.length + 1 := by
  unfold plainL Lib.replaceAll Lib.replace Lib.replaceNum
  have hb := body_len l
  rw [if_neg (by decide), if_pos (.inl (by omega))]
  have h1 := replaceK_len [39, 39] [39] (by simp) (Lib.count (bodyL l) [39, 39]) (bodyL l)
  have h2 := Lib.count_le (bodyL l) [39, 39]
  simp at h1
  omega

set_option maxHeartbeats 2000000 in
theorem Unquote_any (s : ByteArray) (w : World) (hT : Pre4 w) (hs : s.size ≤ 400000) :
    Calls Tryd.prog 83 #[.string s] w fun e w' => e = .returned (.tuple #[.string (unquoteS s).1, .int .i64 (unquoteS s).2]) ∧ Below w.heap.size w w' := by
  have HP : ∀ W, Calls Tryd.prog 101 #[.string s, .string ⟨#[39]⟩] W fun e w' => e = .returned (.string (baL (Lib.trimPrefix s.data.toList [39]))) ∧ w' = W := fun W => Any.strings_TrimPrefix Tryd.laysTrimP s ⟨#[39]⟩ W
  have hpl : (Lib.trimPrefix s.data.toList [39]).length ≤ s.size := by
    unfold Lib.trimPrefix
    have : s.data.toList.length = s.size := by simp
    split
    · rw [List.length_drop]; omega
    · omega
  have HS : ∀ W, Calls Tryd.prog 100 #[.string (baL (Lib.trimPrefix s.data.toList [39])), .string ⟨#[39]⟩] W fun e w' => e = .returned (.string (baL (bodyL s.data.toList))) ∧ w' = W := fun W => by
    have := Any.strings_TrimSuffix Tryd.laysTrimS (baL (Lib.trimPrefix s.data.toList [39])) ⟨#[39]⟩ W (by rw [baL_size]; omega)
    rw [baL_list] at this
    exact this
  have hbl : (baL (bodyL s.data.toList)).size ≤ 1000000 := by
    rw [baL_size]
    have := body_len s.data.toList
    have e : s.data.toList.length = s.size := by simp
    omega
  have HR : ∀ W, Below w.heap.size w W → Calls Tryd.prog 85 #[.string (baL (bodyL s.data.toList)), .string ⟨#[39, 39]⟩, .string ⟨#[39]⟩] W fun e w' => e = .returned (.string (baL (plainL s.data.toList))) ∧ Below W.heap.size W w' := fun W hb => by
    have := repl_any (baL (bodyL s.data.toList)) ⟨#[39, 39]⟩ ⟨#[39]⟩ W (hT.below hb) hbl (by decide) (by decide)
    rw [baL_list] at this
    exact this
  have hpz : (baL (plainL s.data.toList)).size ≤ 1000000 := by
    rw [baL_size]
    have := plain_bd s.data.toList
    have e : s.data.toList.length = s.size := by simp
    omega
  have HQ : ∀ W, Below w.heap.size w W → Calls Tryd.prog 56 #[.string (baL (plainL s.data.toList))] W fun e w' => e = .returned (.string (quoteS (baL (plainL s.data.toList)))) ∧ Below W.heap.size W w' := fun W hb => Quote_any _ W (hT.below hb) hpz
  have hU : (quoteS (baL (plainL s.data.toList)) = s ∧ unquoteS s = (baL (plainL s.data.toList), 0)) ∨ (¬ quoteS (baL (plainL s.data.toList)) = s ∧ unquoteS s = (⟨#[]⟩, 3)) := by
    unfold unquoteS unquoteL quoteS
    rw [baL_list]
    by_cases h : quoteL (plainL s.data.toList) = s.data.toList
    · left
      rw [if_pos h, h]
      exact ⟨baL_data s, rfl⟩
    · right
      rw [if_neg h]
      refine ⟨fun e => h ?_, rfl⟩
      have h3 := congrArg (fun t : ByteArray => t.data.toList) e
      rw [baL_list] at h3
      exact h3
  have H1 := Lib.hid HP
  have H2 := Lib.hid HS
  have H3 := Lib.hid HR
  have H4 := Lib.hid HQ
  obtain ⟨t, ht⟩ : ∃ t, baL (Lib.trimPrefix s.data.toList [39]) = t := ⟨_, rfl⟩
  obtain ⟨b, hb⟩ : ∃ b, baL (bodyL s.data.toList) = b := ⟨_, rfl⟩
  obtain ⟨p, hp⟩ : ∃ p, baL (plainL s.data.toList) = p := ⟨_, rfl⟩
  rw [ht] at H1 H2
  rw [hb] at H2 H3
  rw [hp] at H3 H4 hU
  obtain ⟨q, hq⟩ : ∃ q, quoteS p = q := ⟨_, rfl⟩
  rw [hq] at H4 hU
  clear HP HS HR HQ hpl hbl hpz ht hb hp hq hT
  rcases hU with ⟨rfl, hU⟩ | ⟨hne, hU⟩
  · have HU := Lib.hid hU
    clear hU
    go_enter Tryd.func83, Tryd.ntmps83
    go_wp2_with fail
    refine (H1.out _).mono ?_
    rintro e w1 ⟨rfl, rfl⟩
    go_wp2_with fail
    refine (H2.out _).mono ?_
    rintro e w2 ⟨rfl, rfl⟩
    go_wp2_with fail
    refine (H3.out _ (Below.refl _ _)).mono ?_
    rintro e w3 ⟨rfl, b3⟩
    go_wp2_with fail
    refine (H4.out _ b3).mono ?_
    rintro e w4 ⟨rfl, b4⟩
    go_wp2
    go_ret2
    exact ⟨by rw [HU.out]; rfl, b3.trans (b4.mono b3.size)⟩
  · have HU := Lib.hid hU
    have qn2 : (q.toList == s.toList) = false := by have := neq_lists hne; simpa using this
    clear hU hne
    go_enter Tryd.func83, Tryd.ntmps83
    go_wp2_with fail
    refine (H1.out _).mono ?_
    rintro e w1 ⟨rfl, rfl⟩
    go_wp2_with fail
    refine (H2.out _).mono ?_
    rintro e w2 ⟨rfl, rfl⟩
    go_wp2_with fail
    refine (H3.out _ (Below.refl _ _)).mono ?_
    rintro e w3 ⟨rfl, b3⟩
    go_wp2_with fail
    refine (H4.out _ b3).mono ?_
    rintro e w4 ⟨rfl, b4⟩
    go_wp2
    go_ret2
    exact ⟨by rw [HU.out]; rfl, b3.trans (b4.mono b3.size)⟩

/-! Digits. -/
theorem Digits_any (n : Int) (w : World) (hT : Pre4 w) (h0 : -9223372036854775808 ≤ n) (h1 : n ≤ 9223372036854775807) :
    Calls Tryd.prog 55 #[.int .i64 n] w fun e w' => e = .returned (.string (baL (Lib.itoa n))) ∧ Below w.heap.size w w' := by
  have hF : Calls Tryd.prog 84 #[.int .i64 n, .int .i64 10] w fun e w' => e = .returned (.string (baL (Lib.itoa n))) ∧ ∃ k os, w' = Sort.grow (w.drewN k) os := Any.strconv_FormatInt_10 Tryd.laysFmt n h0 h1 w hT.pow
  obtain ⟨d, hd⟩ : ∃ d, baL (Lib.itoa n) = d := ⟨_, rfl⟩
  rw [hd] at hF ⊢
  have HF := Lib.hid hF
  clear hF hd hT
  go_enter Tryd.func55, Tryd.ntmps55
  go_wp2_with fail
  refine HF.out.mono ?_
  rintro e w1 ⟨rfl, k, os, rfl⟩
  have hb : Below w.heap.size w (Sort.grow (w.drewN k) os) := ⟨rfl, rfl, rfl, by first | (simp [Sort.grow]; done) | (simp [Sort.grow]; omega), fun i hi => by
    show ((w.drewN k).heap ++ os)[i]? = _
    rw [Array.getElem?_append_left (by show i < w.heap.size; omega)]
    rfl⟩
  obtain ⟨W, hW⟩ : ∃ W, Sort.grow (w.drewN k) os = W := ⟨_, rfl⟩
  rw [hW] at hb ⊢
  clear hW
  go_wp2
  go_ret
  exact ⟨rfl, hb⟩
end Go.Proofs.YtbnddpicpomakaaDoor

/- The walks of token.text and token.Write. -/
set_option linter.unusedSimpArgs false
set_option linter.unusedVariables false
set_option maxRecDepth 100000
namespace Go.Proofs.YtbnddpicpomakaaDoor
open Go.RowKit

/-- A token. -/
structure Tk where
  kd : Int
  at_ : Int
  tx : ByteArray
  n : Int
  deriving DecidableEq
def Tk.cells (t : Tk) : List Value := [.int .i64 t.kd, .int .i64 t.at_, .string t.tx, .int .i64 t.n]
structure Tk.fair (t : Tk) : Prop where
  kd : -9223372036854775808 ≤ t.kd ∧ t.kd ≤ 9223372036854775807
  at_ : -9223372036854775808 ≤ t.at_ ∧ t.at_ ≤ 9223372036854775807
  tx : t.tx.size ≤ 140737488351232
  n : -9223372036854775808 ≤ t.n ∧ t.n ≤ 9223372036854775807
def cellsTk (l : List Tk) : List Value := cellsOf Tk.cells l
theorem cellsTk_len (l : List Tk) : (cellsTk l).length = l.length * 4 := cellsOf_len _ 4 (fun _ => rfl) l
theorem tkAt {N : Nat} {w : World} {a : Option Addr} {l : List Tk} (h : Arr N w a (cellsTk l)) {k : Nat} (hk : k < l.length) : ∃ b o, a = some ⟨b, o, none⟩ ∧ b < N ∧
    w.cell? ⟨b, o + k * 4, none⟩ = some (.int .i64 l[k].kd) ∧ w.cell? ⟨b, o + k * 4 + 1, none⟩ = some (.int .i64 l[k].at_) ∧ w.cell? ⟨b, o + k * 4 + 2, none⟩ = some (.string l[k].tx) ∧ w.cell? ⟨b, o + k * 4 + 3, none⟩ = some (.int .i64 l[k].n) := by
  obtain ⟨b, o, ha, hb, hc⟩ := h.at_ (by intro h0; have := cellsTk_len l; rw [h0] at this; simp at this; omega)
  have g := fun (j : Nat) (v : Value) (hv : (Tk.cells l[k])[j]? = some v) => hc _ _ (cellsOf_get Tk.cells 4 (fun _ => rfl) l k j l[k] v (List.getElem?_eq_getElem hk) hv)
  exact ⟨b, o, ha, hb, by simpa using g 0 _ rfl, by simpa [Nat.add_assoc] using g 1 _ rfl, by simpa [Nat.add_assoc] using g 2 _ rfl, by simpa [Nat.add_assoc] using g 3 _ rfl⟩

/-- The text of a token, if it has one. -/
def Tk.text (t : Tk) : ByteArray × Bool :=
  if t.kd = 1 ∨ t.kd = 5 then (t.tx, true) else if t.kd = 2 then (baL (Lib.itoa t.n), true) else if t.kd = 3 then (quoteS t.tx, true) else if t.kd = 4 then (⟨#[120]⟩ ++ quoteS (hexS t.tx), true) else (⟨#[]⟩, false)

structure Slot4 (W : World) (B : Nat) (v0 v1 v2 v3 : Value) : Prop where
  c0 : W.cell? ⟨B, 0, none⟩ = some v0
  c1 : W.cell? ⟨B, 1, none⟩ = some v1
  c2 : W.cell? ⟨B, 2, none⟩ = some v2
  c3 : W.cell? ⟨B, 3, none⟩ = some v3
theorem Slot4.new (w : World) (T : TypeId) (v0 v1 v2 v3 : Value) : Slot4 (w.alloc (.cells #[v0, v1, v2, v3] T)) w.heap.size v0 v1 v2 v3 := ⟨by simp, by simp, by simp, by simp⟩
theorem Slot4.later {W W' : World} {B N : Nat} {v0 v1 v2 v3 : Value} (h : Slot4 W B v0 v1 v2 v3) (hB : B < N) (hb : Below N W W') : Slot4 W' B v0 v1 v2 v3 :=
  ⟨(hb.cell (p := ⟨B, 0, none⟩) hB).trans h.c0, (hb.cell (p := ⟨B, 1, none⟩) hB).trans h.c1, (hb.cell (p := ⟨B, 2, none⟩) hB).trans h.c2, (hb.cell (p := ⟨B, 3, none⟩) hB).trans h.c3⟩

theorem hexS_size (s : ByteArray) : (hexS s).size = 2 * s.size := by
  unfold hexS; rw [strN_size, hexN_len, bytesU_len]; omega
theorem quoteS_size (s : ByteArray) : (quoteS s).size ≤ 2 * s.size + 2 := by
  rw [← quote_cat]
  have := dbl_size s
  simp only [ByteArray.size_append]
  have h1 : (⟨#[39]⟩ : ByteArray).size = 1 := rfl
  omega

set_option maxHeartbeats 2000000 in
theorem tkText_any (t : Tk) (w : World) (hT : Pre4 w) (hF : t.fair) (hs : t.tx.size ≤ 400000) :
    Calls Tryd.prog 28 #[.agg #[.int .i64 t.kd, .int .i64 t.at_, .string t.tx, .int .i64 t.n]] w fun e w' => e = .returned (.tuple #[.string t.text.1, .bool t.text.2]) ∧ Below w.heap.size w w' := by
  obtain ⟨kd, at_, tx, n⟩ := t
  simp only at hs ⊢
  have hn := hF.n
  simp only at hn
  have HX := Lib.hid (Slot4.new w 33 (.int .i64 kd) (.int .i64 at_) (.string tx) (.int .i64 n))
  have HB0 : Hid (∀ o, Below w.heap.size w (w.alloc o)) := fun o => (Below.refl _ w).alloc (Nat.le_refl _) _
  have HP := Lib.hid (fun W (hb : Below w.heap.size w W) => hT.below hb)
  clear hF hT
  have hcase : kd = 1 ∨ kd = 5 ∨ kd = 2 ∨ kd = 3 ∨ kd = 4 ∨ (kd ≠ 1 ∧ kd ≠ 5 ∧ kd ≠ 2 ∧ kd ≠ 3 ∧ kd ≠ 4) := by omega
  obtain ⟨x0, x1, x2, x3⟩ := HX.out
  rcases hcase with rfl | rfl | rfl | rfl | rfl | ⟨h1, h5, h2, h3, h4⟩
  · go_enter Tryd.func28, Tryd.ntmps28
    go_wp2
    go_ret2
    exact ⟨rfl, HB0.out _⟩
  · go_enter Tryd.func28, Tryd.ntmps28
    go_wp2
    go_ret2
    exact ⟨rfl, HB0.out _⟩
  · have HD := Lib.hid (fun W (hb : Below w.heap.size w W) => Digits_any n W (HP.out W hb) hn.1 hn.2)
    have HR : Hid (Tk.text ⟨2, at_, tx, n⟩ = (baL (Lib.itoa n), true)) := rfl
    rw [HR.out]
    generalize baL (Lib.itoa n) = d at *
    go_enter Tryd.func28, Tryd.ntmps28
    go_wp2_with fail
    refine (HD.out _ (HB0.out _)).mono ?_
    rintro e w1 ⟨rfl, hb1⟩
    have HB1 := Lib.hid ((HB0.out _).trans (hb1.mono (by simp)))
    clear hb1 x0 x1 x2 x3
    go_wp2
    go_ret2
    exact ⟨rfl, HB1.out⟩
  · have HD := Lib.hid (fun W (hb : Below w.heap.size w W) => Quote_any tx W (HP.out W hb) (by omega))
    have HR : Hid (Tk.text ⟨3, at_, tx, n⟩ = (quoteS tx, true)) := rfl
    rw [HR.out]
    generalize quoteS tx = d at *
    go_enter Tryd.func28, Tryd.ntmps28
    go_wp2_with fail
    refine (HD.out _ (HB0.out _)).mono ?_
    rintro e w1 ⟨rfl, hb1⟩
    have HB1 := Lib.hid ((HB0.out _).trans (hb1.mono (by simp)))
    clear hb1 x0 x1 x2 x3
    go_wp2
    go_ret2
    exact ⟨rfl, HB1.out⟩
  · have HH := Lib.hid (fun W => digitsOf_any tx W (by omega))
    have hz := hexS_size tx
    have HR : Hid (Tk.text ⟨4, at_, tx, n⟩ = (⟨#[120]⟩ ++ quoteS (hexS tx), true)) := rfl
    rw [HR.out]
    generalize hexS tx = h at *
    have HD := Lib.hid (fun W (hb : Below w.heap.size w W) => Quote_any h W (HP.out W hb) (by omega))
    have hq := quoteS_size h
    generalize quoteS h = d at *
    have s1 : ¬ 9223372036854775807 < 1 + d.size := by omega
    go_enter Tryd.func28, Tryd.ntmps28
    go_wp2_with fail
    refine (HH.out _).mono ?_
    rintro e w1 ⟨rfl, hb1⟩
    have HB1 := Lib.hid ((HB0.out _).trans (hb1.mono (by simp)))
    clear hb1 x0 x1 x2 x3 hz
    go_wp2_with fail
    refine (HD.out _ HB1.out).mono ?_
    rintro e w2 ⟨rfl, hb2⟩
    have HB2 := Lib.hid (HB1.out.trans (hb2.mono HB1.out.size))
    clear hb2
    go_wp2
    go_ret2
    exact ⟨rfl, HB2.out⟩
  · have q1 : (kd == 1) = false := by simpa using h1
    have q5 : (kd == 5) = false := by simpa using h5
    have q2 : (kd == 2) = false := by simpa using h2
    have q3 : (kd == 3) = false := by simpa using h3
    have q4 : (kd == 4) = false := by simpa using h4
    have HR : Hid (Tk.text ⟨kd, at_, tx, n⟩ = (⟨#[]⟩, false)) := by unfold Tk.text; simp [h1, h5, h2, h3, h4, Hid]
    rw [HR.out]
    clear h1 h5 h2 h3 h4
    go_enter Tryd.func28, Tryd.ntmps28
    go_wp2
    go_ret2
    exact ⟨rfl, HB0.out _⟩
end Go.Proofs.YtbnddpicpomakaaDoor
