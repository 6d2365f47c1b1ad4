/- Clock: the reference's Write. -/
import Derived.Test.YtfldjmjnjeemeaaClkM
import Derived.Test.YtfldjmjnjeemeaaNApp
import Derived.Test.YtfldjmjnjeemeaaBig
import Derived.Lib.BufferWrite
import Derived.Deep.OwnRows
namespace Go.Proofs.Ytfldjmjnjeemeaa
open Go.RowKit

theorem whole8_beL (m : Nat) : whole8 m = beL 8 m := by
  simp only [whole8, beL, List.nil_append, List.cons_append]
  simp only [Nat.div_div_eq_div_mul]
def s12 (u r : Nat) : List Nat := [1, 0, 0, 0, 0, 0, 0, 0] ++ beL 8 u ++ [0, 0, r / 256, r % 256]
theorem s12_len (u r : Nat) : (s12 u r).length = 20 := by simp [s12, beL_len]
theorem beL4 (r : Nat) (h : r ≤ 4095) : beL 4 r = [0, 0, r / 256, r % 256] := by
  simp only [beL, List.nil_append, List.cons_append, List.cons.injEq, and_true]
  omega
theorem stL_s12 (l : Int) (r : Nat) (h : r ≤ 4095) : stL l r = s12 (up64 l) r ++ List.replicate 44 0 := by
  unfold stL s12
  rw [whole8_beL, beL4 r h]
  simp only [List.append_assoc]
theorem cellsU_app (a b : List Nat) : cellsU (a ++ b) = cellsU a ++ cellsU b := by simp [cellsU]

/-- What the reference's Write hands back. -/
def RetRW (l r : Int) (w : World) (e : Ending) (w' : World) : Prop :=
  ∃ v, e = .returned (.tuple #[v, .int .i64 (wrS l r).2]) ∧ w'.ownsRow w.heap.size 5 1 v 64 (cellsU (wrS l r).1) ∧ Below w.heap.size w w'

theorem make64 (V : World) : (Instr.makeSlice 30 (.int .i64 64) (.int .i64 64)).run Try.prog V = .ok (.slice (some ⟨V.heap.size, 0, none⟩) 64 64) (V.alloc (.cells (cellsU z64).toArray 5)) := by
  have := run_make_row' (P := Try.prog) 30 5 (.int .u8 0) 1 Try.underlying30 (by kernel_rfl) rfl .i64 .i64 64 (by omega) (by omega) V
  have e : madeCells #[.int .u8 0] 64 = (cellsU z64).toArray := by kernel_rfl
  rw [e] at this
  simpa using this

set_option maxRecDepth 100000 in
set_option maxHeartbeats 1000000 in
theorem RWr_no (l r : Int) (w : World) (hr : r < 0 ∨ 4095 < r) :
    Calls Try.prog 14 #[.int .i64 l, .int .i64 r] w (RetRW l r w) := by
  have HR : Hid (RetRW l r w (.returned (.tuple #[.slice (some ⟨w.heap.size, 0, none⟩) 64 64, .int .i64 3])) (w.alloc (.cells (cellsU z64).toArray 5))) := by
    have e : wrS l r = (z64, 3) := by unfold wrS; rw [if_pos hr]
    unfold Hid RetRW
    rw [e]
    exact ⟨_, rfl, World.ownsRow_lit w (cellsU z64).toArray 64 (Nat.le_refl _) (by unfold maxLen; omega) (by simp [cellsU, z64]), (Below.refl _ _).alloc (Nat.le_refl _) _⟩
  have hr2 : (r < 0 ∧ Hid True) ∨ (¬ r < 0 ∧ 4095 < r) := by
    by_cases h0 : r < 0
    · exact .inl ⟨h0, trivial⟩
    · exact .inr ⟨by omega, by omega⟩
  clear hr
  have hmk := make64
  rcases hr2 with ⟨h0, _⟩ | ⟨h0, h1⟩
  all_goals
    go_enter Try.func14, Try.ntmps14
    go_wp2
    go_ret2
    exact HR.out

theorem arr_lit (w : World) (T : TypeId) (l : List Nat) : Arr (w.heap.size + 1) (w.alloc (.cells (cellsU l).toArray T)) (some ⟨w.heap.size, 0, none⟩) (cellsU l) :=
  .inr ⟨w.heap.size, 0, rfl, by omega, fun i v hi => by
    rw [World.cell?_alloc_new, Nat.zero_add]
    simpa using hi⟩

set_option maxRecDepth 100000 in
set_option maxHeartbeats 4000000 in
theorem RWr_yes (l : Int) (r : Nat) (w : World) (hr : r ≤ 4095) (hl : -9223372036854775808 ≤ l ∧ l ≤ 9223372036854775807) :
    Calls Try.prog 14 #[.int .i64 l, .int .i64 (r : Int)] w (RetRW l r w) := by
  obtain ⟨i0, hi0, hz0, hz1, hz2⟩ := info_parts Try.info5
  obtain ⟨u, hu⟩ : ∃ u, u = up64 l := ⟨_, rfl⟩
  have hun : IntKind.u64.wrap (IntKind.u64.wrap l + 9223372036854775808) = (u : Int) := by
    rw [hu]; unfold up64
    rw [IntKind.wrap_u64, IntKind.wrap_u64]; omega
  have hub : u < 18446744073709551616 := by rw [hu]; unfold up64; omega
  have HR : Hid (∀ v w', w'.ownsRow w.heap.size 5 1 v 64 (cellsU (s12 u r ++ List.replicate 44 0)) → Below w.heap.size w w' → RetRW l r w (.returned (.tuple #[v, .int .i64 0])) w') := by
    intro v w' h1 h2
    have e : wrS l r = (s12 u r ++ List.replicate 44 0, 0) := by
      unfold wrS
      rw [if_neg (by omega), hu, Int.toNat_natCast, stL_s12 l r hr]
    unfold RetRW
    rw [e]
    exact ⟨_, rfl, h1, h2⟩
  generalize RetRW l r w = RR at *
  have HUN := Lib.hid hun
  have q1 : decide ((r : Int) < 0) = false := by simp
  have q2 : decide ((4095 : Int) < (r : Int)) = false := by simp; omega
  have q3 : decide (4095 < r) = false := by simp; omega
  have hown8 : (w.alloc (.cells #[.int .u8 1, .int .u8 0, .int .u8 0, .int .u8 0, .int .u8 0, .int .u8 0, .int .u8 0, .int .u8 0] 5)).ownsRow w.heap.size 5 1 (.slice (some ⟨w.heap.size, 0, none⟩) 8 8) 8 (cellsU [1, 0, 0, 0, 0, 0, 0, 0]) :=
    World.ownsRow_lit w #[.int .u8 1, .int .u8 0, .int .u8 0, .int .u8 0, .int .u8 0, .int .u8 0, .int .u8 0, .int .u8 0] 8 (Nat.le_refl _) (by unfold maxLen; omega) rfl
  have HO8 := Lib.hid hown8
  clear hown8 hun hu hl
  go_enter Try.func14, Try.ntmps14
  have hun := HUN.out
  go_wp2
  clear hun
  go_loopw [7, 8, 9] (fun x v i wr => ∃ (k : Nat) (a : Option Addr) (cap : Nat), k ≤ 8 ∧ i = .int .i64 k ∧ x = .int .u64 ((u / 256 ^ k : Nat) : Int) ∧ v = .slice a k cap ∧ wr.ownsRow (w.heap.size + 1) 5 1 (.slice a k cap) k (cellsU (beL k u)) ∧ Below (w.heap.size + 1) (w.alloc (.cells #[.int .u8 1, .int .u8 0, .int .u8 0, .int .u8 0, .int .u8 0, .int .u8 0, .int .u8 0, .int .u8 0] 5)) wr) (fun _ _ i _ => 8 - (intOf i).toNat)
  case atStart => exact ⟨0, none, 0, by omega, rfl, by simp, rfl, World.ownsRow_nil _ _ _ _, Below.refl _ _⟩
  case round =>
    obtain ⟨k, a, cap, hk, rfl, rfl, rfl, hown, hb⟩ := hrel
    have hN : u / 256 ^ k ≤ u := Nat.div_le_self _ _
    have hbs : w.heap.size + 1 ≤ wr.heap.size := by have := hb.size; simpa using this
    by_cases hlt : k < 8
    · have HC : Hid (cellsU (beL (k + 1) u) = [.int .u8 (((u / 256 ^ k : Nat) : Int) % 256)] ++ cellsU (beL k u)) := by rw [beL_cons]; rfl
      have HD : Hid (u / 256 ^ (k + 1) = u / 256 ^ k / 256) := by rw [Nat.pow_succ, Nat.div_div_eq_div_mul]; rfl
      obtain ⟨_, _, e1, g1, g2, harr⟩ := own_slice hown
      simp only [Value.slice.injEq, true_and] at e1
      obtain ⟨rfl, rfl⟩ := e1
      generalize u / 256 ^ k = N at *
      have hone : (wr.alloc (.cells #[.int .u8 ((N : Int) % 256)] 5)).ownsRow (w.heap.size + 1) 5 1 (.slice (some ⟨wr.heap.size, 0, none⟩) 1 1) 1 [.int .u8 ((N : Int) % 256)] := World.ownsRow_lit wr #[.int .u8 ((N : Int) % 256)] 1 hbs (by unfold maxLen; omega) rfl
      have HOne := Lib.hid hone
      have HArr : Hid (Arr (wr.alloc (.cells #[.int .u8 ((N : Int) % 256)] 5)).heap.size (wr.alloc (.cells #[.int .u8 ((N : Int) % 256)] 5)) a (cellsU (beL k u))) := harr.later (N := 0) ((Below.refl _ _).alloc (Nat.le_refl _) _)
      have HB := Lib.hid hb
      have hbs2 : w.heap.size + 1 ≤ (wr.alloc (.cells #[.int .u8 ((N : Int) % 256)] 5)).heap.size := by simp; omega
      have HLB : Hid ((cellsU (beL k u)).length = k * 1) := by show _ = _; rw [cellsU_len, beL_len]
      clear hone harr hown hb
      go_wp2_with (at_builtin; refine wpList_appS rfl (.tmp 28) (.tmp 29) 30 rfl (w.heap.size + 1) 5 i0 (.int .u8 0) 1 1 Try.underlying30 hi0 hz0 rfl hz1 (by omega) hz2 (by omega) (.slice (some ⟨wr.heap.size, 0, none⟩) 1 1) 1 _ _ HOne.out rfl _ a k cap (cellsU (beL k u)) HArr.out HLB.out (one_B _) rfl (by omega) hbs2 ?_; intro v' w' hown' _ hb'; obtain ⟨a', c', rfl, _, _, _⟩ := own_slice hown'; have HOwn' := Lib.hid hown'; have HB' := Lib.hid hb'; clear hown' hb')
      go_roundw
      case rel => exact ⟨k + 1, a', c', by omega, by go_num, by rw [HD.out]; rfl, by rw [Nat.add_comm], by rw [HC.out, Nat.add_comm k 1]; exact HOwn'.out, HB.out.trans ((Below.refl _ _).alloc hbs _ |>.trans HB'.out)⟩
      case measure => simp [intOf]; omega
    · have hkk : k = 8 := by omega
      subst hkk
      obtain ⟨_, _, e1, g1, g2, harr⟩ := own_slice hown
      simp only [Value.slice.injEq, true_and] at e1
      obtain ⟨rfl, rfl⟩ := e1
      have HArr := Lib.hid harr
      have HOw8 := Lib.hid (own_below HO8.out (by simp) hb)
      have HL8 : Hid ((cellsU (beL 8 u)).length = 8 * 1) := by show _ = _; rw [cellsU_len, beL_len]
      have HBw : Hid (Below w.heap.size w wr) := ((Below.refl _ _).alloc (Nat.le_refl _) _).trans (hb.mono (by omega))
      clear harr hown hb hlt hN HO8
      go_wp2_with (first | (refine wpList_appS rfl (.tmp 33) (.tmp 34) 30 rfl w.heap.size 5 i0 (.int .u8 0) 1 1 Try.underlying30 hi0 hz0 rfl hz1 (by omega) hz2 (by omega) (.slice (some ⟨w.heap.size, 0, none⟩) 8 8) 8 _ _ HOw8.out rfl _ a 8 cap (cellsU (beL 8 u)) HArr.out HL8.out (one_B _) rfl (by omega) (by omega) ?_; intro v2 w2 hown2 _ hb2; obtain ⟨a2, c2, rfl, _, _, _⟩ := own_slice hown2; have HO2 := Lib.hid hown2; have HB2 := Lib.hid (HBw.out.trans hb2); have hs2 : w.heap.size ≤ w2.heap.size := HB2.out.size; clear hown2 hb2) | (refine wpList_appS rfl (.tmp 36) (.tmp 43) 30 rfl w.heap.size 5 i0 (.int .u8 0) 1 1 Try.underlying30 hi0 hz0 rfl hz1 (by omega) hz2 (by omega) (.slice a2 (8 + 8) c2) (8 + 8) _ (w2.alloc (.cells #[.int .u8 0, .int .u8 0, .int .u8 ((r : Int) / 256), .int .u8 ((r : Int) % 256)] 5)) (World.ownsRow.alloc HO2.out _) rfl _ (some ⟨w2.heap.size, 0, none⟩) 4 4 (cellsU [0, 0, r / 256, r % 256]) (arr_lit w2 _ [0, 0, r / 256, r % 256]) rfl (one_B _) rfl (by omega) (by simp; omega) ?_; intro v3 w3 hown3 _ hb3; obtain ⟨a3, c3, rfl, _, _, _⟩ := own_slice hown3; have HO3 : Hid (w3.ownsRow w.heap.size 5 1 (.slice a3 20 c3) 20 (cellsU (s12 u r))) := (by unfold s12; rw [cellsU_app, cellsU_app]; exact hown3); have HB3 := Lib.hid (HB2.out.trans (((Below.refl _ w2).alloc hs2 _).trans hb3)); have hs3 : w.heap.size ≤ w3.heap.size := HB3.out.size; clear hown3 hb3))
      clear HO2 HB2 HOw8 HArr HBw
      go_loopw [6] (fun v wr => ∃ (k : Nat) (a : Option Addr) (cap : Nat), k ≤ 44 ∧ v = .slice a (20 + k) cap ∧ Hid (wr.ownsRow w.heap.size 5 1 (.slice a (20 + k) cap) (20 + k) (cellsU (s12 u r ++ List.replicate k 0))) ∧ Hid (Below w.heap.size w wr)) (fun v _ => match v with | .slice _ n _ => 64 - n | _ => 0)
      case atStart => exact ⟨0, a3, c3, by omega, rfl, by simpa using HO3, HB3⟩
      case round =>
        obtain ⟨k, a4, c4, hk, rfl, HO4, HB4⟩ := hrel
        clear HO3 HB3
        have hs4 : w.heap.size ≤ wr.heap.size := HB4.out.size
        by_cases hlt : k < 44
        · have q5 : decide ((20 : Int) + (k : Int) < 64) = true := by simp; omega
          have q6 : decide (20 + k < 64) = true := by simp; omega
          have HX : Hid (cellsU (s12 u r ++ List.replicate (k + 1) 0) = cellsU (s12 u r ++ List.replicate k 0) ++ [.int .u8 0]) := by
            show _ = _
            rw [List.replicate_succ', ← List.append_assoc, cellsU_app]; rfl
          go_wp2_with (refine wpList_appS rfl (.tmp 48) (.tmp 49) 30 rfl w.heap.size 5 i0 (.int .u8 0) 1 1 Try.underlying30 hi0 hz0 rfl hz1 (by omega) hz2 (by omega) (.slice a4 (20 + k) c4) (20 + k) _ (wr.alloc (.cells #[.int .u8 0] 5)) (World.ownsRow.alloc HO4.out _) rfl _ (some ⟨wr.heap.size, 0, none⟩) 1 1 (cellsU [0]) (arr_lit wr _ [0]) rfl (one_B _) rfl (by omega) (by simp; omega) ?_; intro v5 w5 hown5 _ hb5; obtain ⟨a5, c5, rfl, _, _, _⟩ := own_slice hown5; have HO5 := Lib.hid hown5; have HB5 := Lib.hid (HB4.out.trans (((Below.refl _ wr).alloc hs4 _).trans hb5)); clear hown5 hb5)
          go_roundw
          case rel => exact ⟨k + 1, a5, c5, by omega, by first | rfl | rw [Nat.add_assoc], by show World.ownsRow _ _ _ _ _ _ _; rw [HX.out, ← Nat.add_assoc]; exact HO5.out, HB5⟩
          case measure => first | (simp; done) | (simp; omega)
        · have q5 : decide ((20 : Int) + (k : Int) < 64) = false := by simp; omega
          have q6 : decide (20 + k < 64) = false := by simp; omega
          go_wp2
          have hkk : k = 44 := by omega
          subst hkk
          exact HR.out _ _ HO4.out HB4.out

theorem RWr_any (l r : Int) (w : World) (hl : -9223372036854775808 ≤ l ∧ l ≤ 9223372036854775807) :
    Calls Try.prog 14 #[.int .i64 l, .int .i64 r] w (RetRW l r w) := by
  by_cases hr : r < 0 ∨ 4095 < r
  · exact RWr_no l r w hr
  · obtain ⟨n, rfl⟩ : ∃ n : Nat, r = n := ⟨r.toNat, by omega⟩
    exact RWr_yes l n w (by omega) hl
end Go.Proofs.Ytfldjmjnjeemeaa
