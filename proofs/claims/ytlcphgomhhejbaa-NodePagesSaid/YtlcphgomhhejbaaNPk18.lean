/- Several texts of one proof, one behind the other. -/
import Derived.Test.YtlcphgomhhejbaaNPk17
import Derived.Deep.WholeRow
import Derived.Great.BuildSlice
import Derived.Lib.BufferWrite
set_option linter.unusedSimpArgs false
set_option linter.unusedVariables false

/- empty, New. -/
namespace Go.Proofs.Ytlcphgomhhejbaa
set_option linter.unusedSimpArgs false
open Go.RowKit

end Go.Proofs.Ytlcphgomhhejbaa

/- Read. -/
namespace Go.Proofs.Ytlcphgomhhejbaa
set_option linter.unusedSimpArgs false
open Go.RowKit

/-- The cells of bytes. -/
def cellsB (l : List Nat) : List Value := l.map fun (c : Nat) => Value.int .u8 (c : Int)
theorem cellsB_len (l : List Nat) : (cellsB l).length = l.length := by simp [cellsB]
theorem cellsB_one (l : List Nat) : (cellsB l).toArray.all (·.oneCell') = true := by
  rw [Array.all_eq_true_iff_forall_mem]
  intro v hv
  have : v ∈ cellsB l := by simpa using hv
  obtain ⟨c, _, rfl⟩ := List.mem_map.1 this
  rfl

end Go.Proofs.Ytlcphgomhhejbaa

/- Write. -/
namespace Go.Proofs.Ytlcphgomhhejbaa
set_option linter.unusedSimpArgs false
open Go.RowKit

theorem Wr.cells_len {x : Wr} (hx : x.b.length = 128) : x.cells.length = 130 := by unfold Wr.cells; simp [hx]
theorem Wr.cells_one' (x : Wr) : x.cells.toArray.all (·.oneCell') = true := by
  rw [Array.all_eq_true_iff_forall_mem]
  intro v hv
  exact Wr.cells_one x v (by simpa using hv)

end Go.Proofs.Ytlcphgomhhejbaa

/- The walks of the writer's number and text. -/
namespace Go.Proofs.Ytlcphgomhhejbaa
open Go.RowKit

/-- The cells of a page of which the bytes L are written. -/
def pageA (L : List Nat) : Array Value := putB (Array.replicate 512 (byteV 0)) 0 L

theorem pageA_size {L : List Nat} (h : L.length ≤ 512) : (pageA L).size = 512 := by
  unfold pageA
  rw [putB_size _ _ _ (by rw [Array.size_replicate]; omega), Array.size_replicate]

theorem pageA_list (L : List Nat) : (pageA L).toList = L.map byteV ++ List.replicate (512 - L.length) (byteV 0) := by
  unfold pageA putB
  rw [List.toList_toArray, Array.toList_replicate, List.take_zero, List.nil_append, List.drop_replicate, Nat.zero_add]

theorem pageA_more (L M : List Nat) (h : (L ++ M).length ≤ 512) : putB (pageA L) L.length M = pageA (L ++ M) := by
  apply Array.toList_inj.1
  rw [List.length_append] at h
  rw [pageA_list]
  unfold putB
  rw [pageA_list]
  rw [List.toList_toArray, List.take_append, List.drop_append, List.length_map, List.map_append, List.length_append]
  rw [List.take_of_length_le (by rw [List.length_map]; omega), List.drop_of_length_le (by rw [List.length_map]; omega), Nat.sub_self, List.take_zero, List.append_nil, List.nil_append, List.drop_replicate, List.append_assoc]
  congr 3
  omega

theorem pageA_byte (L : List Nat) (i : Nat) (h : L.length ≤ 512) (hi : i < 512) : ∃ d : Int, (pageA L)[i]? = some (.int .u8 d) := by
  have e : (pageA L)[i]? = (pageA L).toList[i]? := (Array.getElem?_toList ..).symm
  rw [e, pageA_list]
  by_cases h1 : i < L.length
  · rw [List.getElem?_append_left (by simpa using h1), List.getElem?_map, List.getElem?_eq_getElem h1]
    exact ⟨_, rfl⟩
  · rw [List.getElem?_append_right (by simpa using h1), List.getElem?_replicate, if_pos (by simp; omega)]
    exact ⟨_, rfl⟩

/-- The writer in block wb has written the bytes L into block g. -/
structure Wrt (w : World) (wb g : Nat) (L : List Nat) : Prop where
  len : L.length ≤ 512
  ne : wb ≠ g
  blk : Blk w wb 69 #[.slice (some ⟨g, 0, none⟩) 512 512, .int .i64 (L.length : Int)]
  page : Blk w g 5 (pageA L)

theorem Wrt.chg {w w' : World} {wb g : Nat} {L : List Nat} {S : List Nat} (h : Wrt w wb g L) (hc : Chg S w w') (h1 : wb ∉ S) (h2 : g ∉ S) : Wrt w' wb g L :=
  ⟨h.len, h.ne, h.blk.chg hc h1, h.page.chg hc h2⟩

def RetWr (w : World) (wb g : Nat) (L : List Nat) (e : Ending) (w' : World) : Prop := e = .returned (.tuple #[]) ∧ Wrt w' wb g L ∧ Chg [wb, g] w w'

/-- 'b[k:m]' of a page, k below its end. -/
theorem cutPage (g k m : Nat) (hk : k < 512) (hkm : k ≤ m) (hm : m ≤ 512) (W : World) :
    (Instr.slice 27 (.slice (some ⟨g, 0, none⟩) 512 512) (some (.int .i64 (k : Int))) (some (.int .i64 (m : Int))) none).run Try.prog W = .ok (.slice (some ⟨g, k, none⟩) (m - k) (512 - k)) W := by
  have hu := Try.underlying27
  have ht' : Try.prog.underlying 27 = some (.slice (Try.prog.elem 27)) := by simp [Program.elem, hu]
  have hee : Try.prog.elem 27 = 5 := by simp [Program.elem, hu]
  rw [run_slice_lh (P := Try.prog) W 27 (some ⟨g, 0, none⟩) 512 512 ht' .i64 .i64 (k : Int) (m : Int) (by omega) (by omega) (by omega), hee, Try.sizeOf5]
  simp only [Result.andThen, sliced, Int.toNat_natCast]
  rw [if_neg (by omega)]
  simp [Addr.add]
  omega

set_option maxRecDepth 100000 in
set_option maxHeartbeats 1000000 in
theorem number_any (wb g : Nat) (L : List Nat) (n s : Nat) (ni si : Int) (w : World) (hni : ni = (n : Int)) (hsi : si = (s : Int)) (h : Wrt w wb g L) (hs : 1 ≤ s) (hs7 : s ≤ 7) (hl : L.length + s ≤ 512) (hn : n < 9223372036854775808) :
    Calls Try.prog 55 #[.pointer (some ⟨wb, 0, none⟩), .int .i64 ni, .int .i64 si] w (RetWr w wb g (L ++ beL s n)) := by
  subst hni hsi
  obtain ⟨hlen, hne, hblk, hpg⟩ := h
  have HPut := Lib.hid (Put_any g L.length s (512 - L.length) n 5 (pageA L) w.drew hpg (by rw [pageA_size hlen]; exact hl) (fun i _ h2 => pageA_byte L i hlen (by omega)) hs7 hn)
  have hmore := pageA_more L (beL s n) (by rw [List.length_append, beL_len]; exact hl)
  have hcut := fun W => cutPage g L.length (L.length + s) (by omega) (by omega) hl W
  rw [show L.length + s - L.length = s by omega] at hcut
  have hll : (L ++ beL s n).length = L.length + s := by rw [List.length_append, beL_len]
  generalize hLL : L.length = k at *
  rw [show ((k + s : Nat) : Int) = (k : Int) + (s : Int) by omega] at hcut
  have hblt := hblk.lt
  have e0 : ∀ W, Chg [] w.drew W → W.cell? ⟨wb, 0, none⟩ = some (.slice (some ⟨g, 0, none⟩) 512 512) := fun W hW => (hW.cell (b := wb) hblt (by simp)).trans ((hblk.cell 0).trans rfl)
  have e1 : ∀ W, Chg [] w.drew W → W.cell? ⟨wb, 1, none⟩ = some (.int .i64 (k : Int)) := fun W hW => (hW.cell (b := wb) hblt (by simp)).trans ((hblk.cell 1).trans rfl)
  have hws : IntKind.i64.wrap ((k : Int) + (s : Int)) = (k : Int) + (s : Int) := IntWalk.i64_in _ ⟨by omega, by omega⟩
  have HH : Hid (∀ w', Blk w' g 5 (putB (pageA L) k (beL s n)) → Chg [g] w.drew w' → Wrt (w'.setCell ⟨wb, 1, none⟩ (.int .i64 ((k : Int) + (s : Int)))) wb g (L ++ beL s n) ∧ Chg [wb, g] w (w'.setCell ⟨wb, 1, none⟩ (.int .i64 ((k : Int) + (s : Int)))) ∧ w'.cell? ⟨wb, 1, none⟩ = some (.int .i64 (k : Int)) ∧ w'.frozen? ⟨wb, 1, none⟩ = false ∧ wb < w'.heap.size) := by
    intro w' h1 h2
    rw [hmore] at h1
    have h3 := hblk.chg (w := w.drew) h2 (by simpa using hne)
    have h4 := h3.set_ 1 (.int .i64 ((k : Int) + (s : Int)))
    refine ⟨⟨by rw [hll]; exact hl, hne, ?_, h1.far (Ne.symm hne) _⟩, ((h2.undrew).sub (by simp)).setCell (.inl (by simp)) _, (h3.cell 1).trans rfl, h3.frozen 1, h3.lt⟩
    rw [hll]
    exact h4
  clear hmore hll hpg hLL hblk hne
  go_enter Try.func55, Try.ntmps55
  go_wp2_with fail
  refine wp_region_ordX [] 16 [(0, true), (1, true), (2, true), (3, true), (4, true), (5, true), (6, true), (7, true), (8, true), (9, true), (10, true), (11, true), (12, true), (13, true), (14, true), (15, true)] (by kernel_rfl) (by kernel_rfl) (by kernel_rfl) (by kernel_rfl) ?_
  repeat (first | ((refine wpOX_F rfl (by rfl) (fun w' hL => exec_load rfl rfl (e0 w' hL)) ?_); try simp only [Act.put, List.setIfInBounds_toArray, List.set_cons_zero, List.set_cons_succ]) | ((refine wpOX_F rfl (by rfl) (fun w' hL => exec_load rfl rfl (e1 w' hL)) ?_); try simp only [Act.put, List.setIfInBounds_toArray, List.set_cons_zero, List.set_cons_succ]) | (refine wpOX_F (v := ?_) rfl (by rfl) (fun w' hL => ?_) ?_; rotate_left; (solve | (go_simp; with_reducible rfl) | go_simp); try simp only [Act.put, List.setIfInBounds_toArray, List.set_cons_zero, List.set_cons_succ]) | (refine wpOX_G (Chg.refl _) rfl (by rfl) ?_; try simp only [Act.put, List.setIfInBounds_toArray, List.set_cons_zero, List.set_cons_succ]))
  refine wpOX_end rfl (by rfl) ?_
  go_simp
  refine HPut.out.mono ?_
  rintro e w1 ⟨rfl, hB1, hc1⟩
  obtain ⟨hW, hC, c1, f1, l1⟩ := HH.out w1 hB1 hc1
  have HW := Lib.hid hW
  have HC := Lib.hid hC
  clear hB1 hc1 HPut HH hW hC e0 e1 hcut
  simp only [NoPanic, Act.put]
  go_wp2
  exact bodyPost_end (v := .tuple #[]) (results_none rfl _ _ _) rfl ⟨rfl, HW.out, HC.out⟩
theorem exec_copyS {P : Program} {o : Oper} {a : Act} {w w' : World} {d s : Operand} {dT sT : TypeId} (ho : o.op = .call { callee := .builtin .copy, args := #[d, s], argTypes := #[dT, sT] }) {vd vs v : Value} (hd : a.eval d = vd) (hs : a.eval s = vs)
    (h : (Builtin.copy_ #[dT, sT] o.type #[vd, vs]).run P w = .ok v w') : (execOp a.eval o).run P w = .ok (.value v) w' := by
  unfold execOp
  simp only [ho]
  simp [resolve, invoke, builtin, hd, hs, h, Sem.run_bind, Result.andThen]

/-- 'b[k:]' of a page, and 'copy' of a string into it. -/
theorem copyPage (g : Nat) (L : List Nat) (s : ByteArray) (h : L.length + s.size ≤ 512) : ∃ a, (∀ W, (Instr.slice 27 (.slice (some ⟨g, 0, none⟩) 512 512) (some (.int .i64 (L.length : Int))) none none).run Try.prog W = .ok (.slice a (512 - L.length) (512 - L.length)) W) ∧
    ∀ (w : World) (ty : TypeId), Blk w g 5 (pageA L) → ∃ w', (Builtin.copy_ #[27, 9] ty #[.slice a (512 - L.length) (512 - L.length), .string s]).run Try.prog w = .ok (.int .i64 (s.size : Int)) w' ∧ Blk w' g 5 (pageA (L ++ bytesOf s)) ∧ Chg [g] w w' := by
  have hu := Try.underlying27
  have ht' : Try.prog.underlying 27 = some (.slice (Try.prog.elem 27)) := by simp [Program.elem, hu]
  have hee : Try.prog.elem 27 = 5 := by simp [Program.elem, hu]
  have hlb : (L ++ bytesOf s).length ≤ 512 := by rw [List.length_append, bytesOf_len]; exact h
  have hrun : ∀ W, (Instr.slice 27 (.slice (some ⟨g, 0, none⟩) 512 512) (some (.int .i64 (L.length : Int))) none none).run Try.prog W = .ok (.slice (if L.length = 512 then some ⟨g, 0, none⟩ else some ⟨g, L.length, none⟩) (512 - L.length) (512 - L.length)) W := by
    intro W
    rw [run_slice_l (P := Try.prog) W 27 (some ⟨g, 0, none⟩) 512 512 ht' .i64 (L.length : Int) (by omega) (by omega), hee, Try.sizeOf5]
    simp only [Result.andThen, sliced, Int.toNat_natCast]
    by_cases h1 : L.length = 512
    · rw [if_pos h1.symm, if_pos h1]
    · rw [if_neg (by omega), if_neg h1]
      generalize L.length = k
      simp [Addr.add]
      omega
  by_cases h1 : L.length = 512
  · rw [if_pos h1] at hrun
    refine ⟨_, hrun, fun w ty hB => ⟨w, ?_, ?_, Chg.refl _ _⟩⟩
    · have h0 : s.size = 0 := by omega
      have := Lib.run_copy_empty_string (P := Try.prog) w 27 9 ty 5 (some ⟨g, 0, none⟩) (512 - L.length) (512 - L.length) s hu (by kernel_rfl) h0
      rw [this, h0]
      rfl
    · have h0 : bytesOf s = [] := List.length_eq_zero_iff.1 (by rw [bytesOf_len]; omega)
      rw [h0, List.append_nil]; exact hB
  · rw [if_neg h1] at hrun
    refine ⟨_, hrun, fun w ty hB => ⟨_, Lib.run_copy_row_string (P := Try.prog) w 27 9 ty 5 g L.length (512 - L.length) (512 - L.length) s (pageA L) 5 hu (by kernel_rfl) hB (by omega) (by rw [pageA_size (by omega)]; exact h), ?_, ?_⟩⟩
    · have := setRow_heap w g (pageA L) ((pageA L).toList.take L.length ++ Lib.byteCells s.data.toList ++ (pageA L).toList.drop (L.length + s.size)).toArray _ _ hB
      have e : ((pageA L).toList.take L.length ++ Lib.byteCells s.data.toList ++ (pageA L).toList.drop (L.length + s.size)).toArray = pageA (L ++ bytesOf s) := by
        rw [← pageA_more L (bytesOf s) hlb]
        unfold putB
        rw [bytesOf_len, List.append_assoc]
        rw [show (bytesOf s).map byteV = Lib.byteCells s.data.toList from by
          unfold Lib.byteCells bytesOf
          rw [List.map_map]
          rfl]
      rw [e] at this ⊢
      exact this
    · refine ⟨rfl, rfl, rfl, by simp [World.setRow], fun k _ hn => ?_⟩
      simp only [List.mem_singleton] at hn
      simp only [World.setRow, Array.getElem?_modify]
      rw [if_neg (by omega)]

set_option maxRecDepth 100000 in
set_option maxHeartbeats 1000000 in
theorem text_any (wb g : Nat) (L : List Nat) (s : ByteArray) (w : World) (h : Wrt w wb g L) (hl : L.length + s.size ≤ 512) :
    Calls Try.prog 56 #[.pointer (some ⟨wb, 0, none⟩), .string s] w (RetWr w wb g (L ++ bytesOf s)) := by
  obtain ⟨hlen, hne, hblk, hpg⟩ := h
  obtain ⟨a, hcut, hcopy⟩ := copyPage g L s hl
  have hll : (L ++ bytesOf s).length = L.length + s.size := by rw [List.length_append, bytesOf_len]
  generalize hLL : L.length = k at *
  have hblt := hblk.lt
  obtain ⟨w', hrun, hB', hc'⟩ := hcopy w.drew 3 hpg
  have e0 : ∀ W, Chg [g] w.drew W → W.cell? ⟨wb, 0, none⟩ = some (.slice (some ⟨g, 0, none⟩) 512 512) := fun W hW => (hW.cell (b := wb) hblt (by simpa using hne)).trans ((hblk.cell 0).trans rfl)
  have e1 : ∀ W, Chg [g] w.drew W → W.cell? ⟨wb, 1, none⟩ = some (.int .i64 (k : Int)) := fun W hW => (hW.cell (b := wb) hblt (by simpa using hne)).trans ((hblk.cell 1).trans rfl)
  have hws : IntKind.i64.wrap ((k : Int) + (s.size : Int)) = (k : Int) + (s.size : Int) := IntWalk.i64_in _ ⟨by omega, by omega⟩
  have h3 := hblk.chg (w := w.drew) hc' (by simpa using hne)
  have h4 := h3.set_ 1 (.int .i64 ((k : Int) + (s.size : Int)))
  have HW : Hid (Wrt (w'.setCell ⟨wb, 1, none⟩ (.int .i64 ((k : Int) + (s.size : Int)))) wb g (L ++ bytesOf s)) := by
    refine ⟨by rw [hll]; exact hl, hne, ?_, hB'.far (Ne.symm hne) _⟩
    rw [hll]
    exact h4
  have HC : Hid (Chg [wb, g] w (w'.setCell ⟨wb, 1, none⟩ (.int .i64 ((k : Int) + (s.size : Int))))) := ((hc'.undrew).sub (by simp)).setCell (.inl (by simp)) _
  have c1 : w'.cell? ⟨wb, 1, none⟩ = some (.int .i64 (k : Int)) := (h3.cell 1).trans rfl
  have f1 := h3.frozen 1
  have l1 := h3.lt
  have HRun := Lib.hid hrun
  have HChg := Lib.hid hc'
  clear hcopy hrun hB' hc' h3 h4 hblk hpg hll hLL hne
  go_enter Try.func56, Try.ntmps56
  go_wp2_with fail
  refine wp_region_ordX [g] 18 [(0, true), (1, true), (2, true), (3, true), (4, true), (5, true), (6, true), (7, true), (8, true), (9, true), (10, true), (11, true), (12, true), (13, true), (14, false), (15, true), (16, true), (17, true)] (by kernel_rfl) (by kernel_rfl) (by kernel_rfl) (by kernel_rfl) ?_
  repeat (first | ((refine wpOX_F rfl (by rfl) (fun w' hL => exec_load rfl rfl (e0 w' hL)) ?_); try simp only [Act.put, List.setIfInBounds_toArray, List.set_cons_zero, List.set_cons_succ]) | ((refine wpOX_F rfl (by rfl) (fun w' hL => exec_load rfl rfl (e1 w' hL)) ?_); try simp only [Act.put, List.setIfInBounds_toArray, List.set_cons_zero, List.set_cons_succ]) | (refine wpOX_F (v := ?_) rfl (by rfl) (fun w' hL => ?_) ?_; rotate_left; (solve | (go_simp; with_reducible rfl) | go_simp); try simp only [Act.put, List.setIfInBounds_toArray, List.set_cons_zero, List.set_cons_succ]) | (refine wpOX_G (Chg.refl _) rfl (by rfl) ?_; try simp only [Act.put, List.setIfInBounds_toArray, List.set_cons_zero, List.set_cons_succ]))
  refine wpOX_C rfl (by rfl) ?_
  refine wp_val (exec_copyS rfl rfl rfl HRun.out) ?_
  refine ⟨HChg.out, ?_⟩
  try simp only [Act.put, List.setIfInBounds_toArray, List.set_cons_zero, List.set_cons_succ]
  repeat (first | ((refine wpOX_F rfl (by rfl) (fun w' hL => exec_load rfl rfl (e0 w' hL)) ?_); try simp only [Act.put, List.setIfInBounds_toArray, List.set_cons_zero, List.set_cons_succ]) | ((refine wpOX_F rfl (by rfl) (fun w' hL => exec_load rfl rfl (e1 w' hL)) ?_); try simp only [Act.put, List.setIfInBounds_toArray, List.set_cons_zero, List.set_cons_succ]) | (refine wpOX_F (v := ?_) rfl (by rfl) (fun w' hL => ?_) ?_; rotate_left; (solve | (go_simp; with_reducible rfl) | go_simp); try simp only [Act.put, List.setIfInBounds_toArray, List.set_cons_zero, List.set_cons_succ]) | (refine wpOX_G (Chg.refl _) rfl (by rfl) ?_; try simp only [Act.put, List.setIfInBounds_toArray, List.set_cons_zero, List.set_cons_succ]))
  refine wpOX_end rfl (by rfl) ?_
  go_simp
  simp only [NoPanic]
  exact bodyPost_end (v := .tuple #[]) (results_none rfl _ _ _) rfl ⟨rfl, HW.out, HC.out⟩
end Go.Proofs.Ytlcphgomhhejbaa
