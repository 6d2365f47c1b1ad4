/- Read. -/
import Derived.Test.YtaggghfnbllbgaaDk7
import Derived.Deep.WholeRow
namespace Go.Proofs.Ytaggghfnbllbgaa
set_option linter.unusedSimpArgs false
open Go.RowKit

/-- The cells of bytes. -/
def cellsB (l : List Nat) : List Value := l.map fun (c : Nat) => Value.int .u8 (c : Int)
theorem cellsB_len (l : List Nat) : (cellsB l).length = l.length := by simp [cellsB]
theorem cellsB_one (l : List Nat) : (cellsB l).toArray.all (·.oneCell') = true := by
  rw [Array.all_eq_true_iff_forall_mem]
  intro v hv
  have : v ∈ cellsB l := by simpa using hv
  obtain ⟨c, _, rfl⟩ := List.mem_map.1 this
  rfl

theorem zero_sec (w : World) : (zeroValue 93).run Try.prog w = .ok (arrN .u8 noughts) w := zero_of (by kernel_rfl) w
theorem size_sec {l : List Nat} (h : l.length = 128) : (Try.prog.info? 93).map (·.size) = some (cellsB l).toArray.size := by
  rw [List.size_toArray, cellsB_len, h]
  kernel_rfl

/-- A sector stored in the block that was made last. -/
theorem store_sec (w : World) (l l' : List Nat) (h : l.length = 128) (h' : l'.length = 128) : (storeVar 93 ⟨w.heap.size, 0, none⟩ (arrN .u8 l')).run Try.prog (w.alloc (.cells (cellsB l).toArray 93)) = .ok () (w.alloc (.cells (cellsB l').toArray 93)) :=
  run_storeVar_new w 93 (cellsB l).toArray (cellsB l').toArray (size_sec h') (by simp [cellsB_len, h, h']) (cellsB_one l')

/-- What Read hands back. -/
def RetRead (w : World) (r : Except Nat (List Nat)) (e : Ending) (w' : World) : Prop :=
  Below w.heap.size w w' ∧ ((∃ n : Nat, r = .error n ∧ e = .returned (.tuple #[.slice none 0 0, .int .i64 (n : Int)])) ∨
    ∃ b g, r = .ok b ∧ e = .returned (.tuple #[.slice (some ⟨g, 0, none⟩) 128 128, .int .i64 0]) ∧ w.heap.size ≤ g ∧ SecOk b ∧ Blk w' g 93 (cellsB b).toArray)

set_option maxRecDepth 100000 in
set_option maxHeartbeats 4000000 in
theorem Read_any {w : World} {B Mv Md : Nat} {pv : Value} {d : DS} (h : DiskAt w B d Mv Md pv) (f s : Int) :
    Calls Try.prog 21 #[.pointer (some ⟨B, 0, none⟩), .int .i64 f, .int .i64 s] w (RetRead w (d.read f s)) := by
  obtain ⟨c0, c1, c2, c3, c4, c5, c6, c7, c8, c9, c10, c11⟩ := h.cells
  have HM := Lib.hid (made_yes w B c0)
  have HF := Lib.hid (isFile_any f w)
  by_cases hbad : isFileB f = false
  · have hr : d.read f s = .error 1 := by
      unfold DS.read
      rw [if_pos]
      left
      unfold isFileB at hbad
      simp at hbad
      omega
    rw [hr]
    rw [hbad] at HF
    clear h hbad hr
    go_enter Try.func21, Try.ntmps21
    go_wp2_with (first | (go_at_call 49; refine HM.out.mono ?_; rintro e w' ⟨rfl, rfl⟩) | (go_at_call 50; refine HF.out.mono ?_; rintro e w' ⟨rfl, rfl⟩))
    go_ret2
    exact ⟨Below.refl _ _, .inl ⟨1, rfl, rfl⟩⟩
  · have hg : isFileB f = true := by simpa using hbad
    rw [hg] at HF
    have hf2 : 0 ≤ f ∧ f < 2 := by unfold isFileB at hg; simpa using hg
    by_cases hs : s < 0
    · have hr : d.read f s = .error 1 := by unfold DS.read; rw [if_pos (.inr hs)]
      rw [hr]
      have q0 : decide (s < 0) = true := by simpa using hs
      clear h hbad hr hg
      go_enter Try.func21, Try.ntmps21
      go_wp2_with (first | (go_at_call 49; refine HM.out.mono ?_; rintro e w' ⟨rfl, rfl⟩) | (go_at_call 50; refine HF.out.mono ?_; rintro e w' ⟨rfl, rfl⟩))
      go_ret2
      exact ⟨Below.refl _ _, .inl ⟨1, rfl, rfl⟩⟩
    · have q0 : decide (s < 0) = false := by simpa using hs
      obtain ⟨n, rfl⟩ : ∃ n : Nat, s = (n : Int) := ⟨s.toNat, by omega⟩
      obtain ⟨m, rfl⟩ : ∃ m : Nat, f = (m : Int) := ⟨f.toNat, by omega⟩
      have hr : d.read m n = if d.down then .error 51 else if (d.vis.len m : Int) ≤ (n : Int) then .error 4 else .ok ((d.vis.get m n).getD noughts) := by
        unfold DS.read
        rw [if_neg (by omega), Int.toNat_natCast, Int.toNat_natCast]
      rw [hr]
      clear hr hs hg hbad
      cases hd : d.down with
      | true =>
        rw [hd] at c11
        clear h hd
        rw [if_pos rfl]
        go_enter Try.func21, Try.ntmps21
        go_wp2_with (first | (go_at_call 49; refine HM.out.mono ?_; rintro e w' ⟨rfl, rfl⟩) | (go_at_call 50; refine HF.out.mono ?_; rintro e w' ⟨rfl, rfl⟩))
        go_ret2
        exact ⟨Below.refl _ _, .inl ⟨51, rfl, rfl⟩⟩
      | false =>
        rw [hd] at c11
        rw [if_neg (by simp)]
        have hz := zero_sec
        have hm : m = 0 ∨ m = 1 := by omega
        have hlook := h.vis.lookup (P := Try.prog) Try.underlying41 Try.underlying94 Try.underlying3 (by kernel_rfl) hz [m, n] rfl
        have hkey : d.vis.key [m, n] = d.vis.get m n := rfl
        rw [hkey] at hlook
        have hbok : SecOk ((d.vis.get m n).getD noughts) := by
          cases hg : d.vis.get m n with
          | none => exact noughts_ok
          | some b => exact (h.ok.vis.sec m n b hg).2.2
        have hlk : ((d.vis.get m n).map (arrN .u8)).getD (arrN .u8 noughts) = arrN .u8 ((d.vis.get m n).getD noughts) := by cases d.vis.get m n <;> rfl
        rw [hlk] at hlook
        obtain ⟨b, hb⟩ : ∃ b, (d.vis.get m n).getD noughts = b := ⟨_, rfl⟩
        rw [hb] at hlook hbok ⊢
        have HBOK := Lib.hid hbok
        have HST := Lib.hid (store_sec w noughts b noughts_ok.1 hbok.1)
        have hal : ∀ W, (zeroValue 93).run Try.prog W = .ok (arrN .u8 noughts) W := zero_sec
        have HZ := Lib.hid hal
        clear h hkey hlk hb hz hbok hal
        rcases hm with rfl | rfl
        · generalize d.vis.len 0 = l0 at *
          have hlook' : (Instr.lookup 41 (.map (some Mv)) (.agg #[.int .i64 ((0 : Nat) : Int), .int .i64 (n : Int)]) false).run Try.prog w = .ok (arrN .u8 b) w := hlook
          have HL := Lib.hid hlook'
          clear hlook hlook' hf2
          by_cases hln : (l0 : Int) ≤ (n : Int)
          · rw [if_pos hln]
            have q1 : decide ((l0 : Int) ≤ (n : Int)) = true := by simpa using hln
            go_enter Try.func21, Try.ntmps21
            go_wp2_with (first | (go_at_call 49; refine HM.out.mono ?_; rintro e w' ⟨rfl, rfl⟩) | (go_at_call 50; refine HF.out.mono ?_; rintro e w' ⟨rfl, rfl⟩))
            go_ret2
            exact ⟨Below.refl _ _, .inl ⟨4, rfl, rfl⟩⟩
          · rw [if_neg hln]
            have q1 : decide ((l0 : Int) ≤ (n : Int)) = false := by simpa using hln
            go_enter Try.func21, Try.ntmps21
            go_wp2_with (first | (go_at_call 49; refine HM.out.mono ?_; rintro e w' ⟨rfl, rfl⟩) | (go_at_call 50; refine HF.out.mono ?_; rintro e w' ⟨rfl, rfl⟩) | (guard_target =~ wpList _ _ _ (Oper.mk _ (Op.lookup _ _ _ _) _ _ _ _ :: _) _ _; refine wpList_val rfl (exec_lookup rfl rfl rfl HL.out) ?_) | (guard_target =~ wpList _ _ _ (Oper.mk _ (Op.alloc _) _ _ _ _ :: _) _ _; refine wpList_val rfl (exec_alloc (e := 93) rfl HZ.out) ?_) | (guard_target =~ wpList _ _ _ (Oper.mk _ (Op.store _ _ _) _ _ _ _ :: _) _ _; refine wpList_skp rfl (exec_store (ty := 93) rfl rfl rfl HST.out) ?_))
            go_ret2
            refine ⟨(Below.refl _ _).alloc (Nat.le_refl _) _, .inr ⟨b, w'.heap.size, rfl, rfl, Nat.le_refl _, HBOK.out, Blk.new _ _ _⟩⟩
        · generalize d.vis.len 1 = l0 at *
          have hlook' : (Instr.lookup 41 (.map (some Mv)) (.agg #[.int .i64 ((1 : Nat) : Int), .int .i64 (n : Int)]) false).run Try.prog w = .ok (arrN .u8 b) w := hlook
          have HL := Lib.hid hlook'
          clear hlook hlook' hf2
          by_cases hln : (l0 : Int) ≤ (n : Int)
          · rw [if_pos hln]
            have q1 : decide ((l0 : Int) ≤ (n : Int)) = true := by simpa using hln
            go_enter Try.func21, Try.ntmps21
            go_wp2_with (first | (go_at_call 49; refine HM.out.mono ?_; rintro e w' ⟨rfl, rfl⟩) | (go_at_call 50; refine HF.out.mono ?_; rintro e w' ⟨rfl, rfl⟩))
            go_ret2
            exact ⟨Below.refl _ _, .inl ⟨4, rfl, rfl⟩⟩
          · rw [if_neg hln]
            have q1 : decide ((l0 : Int) ≤ (n : Int)) = false := by simpa using hln
            go_enter Try.func21, Try.ntmps21
            go_wp2_with (first | (go_at_call 49; refine HM.out.mono ?_; rintro e w' ⟨rfl, rfl⟩) | (go_at_call 50; refine HF.out.mono ?_; rintro e w' ⟨rfl, rfl⟩) | (guard_target =~ wpList _ _ _ (Oper.mk _ (Op.lookup _ _ _ _) _ _ _ _ :: _) _ _; refine wpList_val rfl (exec_lookup rfl rfl rfl HL.out) ?_) | (guard_target =~ wpList _ _ _ (Oper.mk _ (Op.alloc _) _ _ _ _ :: _) _ _; refine wpList_val rfl (exec_alloc (e := 93) rfl HZ.out) ?_) | (guard_target =~ wpList _ _ _ (Oper.mk _ (Op.store _ _ _) _ _ _ _ :: _) _ _; refine wpList_skp rfl (exec_store (ty := 93) rfl rfl rfl HST.out) ?_))
            go_ret2
            refine ⟨(Below.refl _ _).alloc (Nat.le_refl _) _, .inr ⟨b, w'.heap.size, rfl, rfl, Nat.le_refl _, HBOK.out, Blk.new _ _ _⟩⟩
end Go.Proofs.Ytaggghfnbllbgaa
