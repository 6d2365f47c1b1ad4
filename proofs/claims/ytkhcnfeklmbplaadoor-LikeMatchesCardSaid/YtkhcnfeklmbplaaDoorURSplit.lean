/- The walks of hindsightref05.Split and Write. -/
import Derived.Test.YtkhcnfeklmbplaaDoorUPoint
import Derived.Test.YtkhcnfeklmbplaaDoorUKit
namespace Go.Proofs.YtkhcnfeklmbplaaDoor
set_option linter.unusedSimpArgs false
open Go.RowKit

/-- What the reference's Split hands back. -/
def RetRS (w : World) (o : Option (List Nat)) (e : Ending) (w' : World) : Prop :=
  Below w.heap.size w w' ∧ ((o = none ∧ e = .returned (.tuple #[.slice none 0 0, .bool false])) ∨
    ∃ p a cap, o = some p ∧ e = .returned (.tuple #[.slice a p.length cap, .bool true]) ∧ p.length ≤ cap ∧ Rs .i64 w'.heap.size w' a (p.map fun (n : Nat) => (n : Int)))

theorem Tryd.info3 : (Tryd.prog.info? 3).map (fun i => (i.zero, i.size, i.bytes)) = some (some (.int .i64 0), 1, 8) := by kernel_rfl

set_option maxRecDepth 100000 in
set_option maxHeartbeats 2000000 in
theorem rSplit_any (s : ByteArray) (w : World) (hs : s.size ≤ 1000000000) :
    Calls Tryd.prog 9 #[.string s] w (RetRS w (decS (bytesU s))) := by
  obtain ⟨i0, hi, hz0, hz1, hz2⟩ := info_parts Tryd.info3
  obtain ⟨o, ho⟩ : ∃ o, decS (bytesU s) = o := ⟨_, rfl⟩
  rw [ho]
  have HO := Lib.hid ho
  clear ho
  go_enter Tryd.func9, Tryd.ntmps9
  go_wp2
  go_loopw [4, 5] (fun v i wr => ∃ (pos : Nat) (q : List Nat), i = .int .i64 pos ∧ pos ≤ s.size ∧ Hid (o = (decS ((bytesU s).drop pos)).map (q ++ ·)) ∧ OwnI .i64 wr w.heap.size 3 v (q.map fun (n : Nat) => (n : Int)) ∧ Below w.heap.size w wr ∧ Hid (q.length ≤ pos))
    (fun _ i _ => s.size - (intOf i).toNat)
  case atStart => exact ⟨0, [], rfl, by omega, by rw [List.drop_zero, HO.out]; cases o <;> simp [Hid], OwnI.nil _ _ _ _, Below.refl _ _, by simp [Hid]⟩
  case round =>
    obtain ⟨pos, q, rfl, hpos, HD, hown, hb, HQ⟩ := hrel
    by_cases hp : pos < s.size
    · have hne : (bytesU s).drop pos ≠ [] := by
        intro h; have := congrArg List.length h; rw [List.length_drop, bytesU_len] at this; simp at this; omega
      have h256 : ∀ c ∈ (bytesU s).drop pos, c < 256 := fun c hc => bytesU_lt s c (List.mem_of_mem_drop hc)
      have hP := point_any s pos wr hp hs
      rw [refP_pt _ h256 hne] at hP
      cases hpt : pt ((bytesU s).drop pos) with
      | none =>
        rw [hpt] at hP
        have HN : Hid (o = none) := by rw [HD.out, decS_bad h256 hne hpt]; rfl
        have HP := Lib.hid hP
        clear hP hpt h256 hne HD
        dsimp only [Option.getD_none] at HP
        go_wp2_with fail
        refine HP.out.mono ?_
        rintro e w1 ⟨rfl, hb1⟩
        clear HP
        go_wp2
        go_ret2
        exact ⟨hb.trans (hb1.mono hb.size), .inl ⟨HN.out, rfl⟩⟩
      | some x =>
        obtain ⟨v, n⟩ := x
        rw [hpt] at hP
        obtain ⟨g1, g2, g3, g4, g5, g6⟩ := pt_some h256 hpt
        rw [List.length_drop, bytesU_len] at g4
        have HD2 : Hid (o = (decS ((bytesU s).drop (pos + n))).map ((q ++ [v]) ++ ·)) := by
          rw [HD.out, decS_go h256 hpt, List.drop_drop, Option.map_map]
          congr 1
          funext r
          simp
        have hv := okP_le g1
        have HP := Lib.hid hP
        clear hP hpt h256 hne HD g1 g2 g3 g6
        dsimp only [Option.getD_some] at HP
        have hn0 : ((n : Int) == 0) = false := by simp; omega
        have hq : (q.map fun (n : Nat) => (n : Int)).length < 1000000000000 := by rw [List.length_map]; have := HQ.out; omega
        go_wp2_with fail
        refine HP.out.mono ?_
        rintro e w1 ⟨rfl, hb1⟩
        have hown1 := hown.below (Nat.le_refl _) hb1
        have hb2 := hb.trans (hb1.mono hb.size)
        have hsz := hb2.size
        clear HP hown hb hb1
        go_wp2_with (at_builtin; refine wpList_appI rfl _ _ 31 rfl .i64 w.heap.size 3 i0 8 Tryd.underlying31 hi hz0 hz1 hz2 (by omega) _ (q.map fun (n : Nat) => (n : Int)) w1 hown1 rfl (v : Int) rfl hq hsz ?_; intro v' w3 hown3 hb3 hsz3)
        go_roundw
        case rel => exact ⟨pos + n, q ++ [v], by go_num, by omega, HD2, by rw [List.map_append]; exact hown3, hb2.trans hb3, by have := HQ.out; show (q ++ [v]).length ≤ pos + n; rw [List.length_append]; simp only [List.length_cons, List.length_nil]; omega⟩
        case measure => simp [intOf]; omega
    · have HP2 : Hid (o = some q) := by
        have h0 : (bytesU s).drop pos = [] := List.drop_of_length_le (by rw [bytesU_len]; omega)
        rw [HD.out, h0, decS_nil]; simp [Hid]
      obtain ⟨a5, c5, rfl, hcap5, hV5, _⟩ := hown.slice
      rw [List.length_map] at hcap5 ⊢
      have HV := Lib.hid hV5
      clear hown hV5 HD
      go_wp2
      go_ret2
      exact ⟨hb, .inr ⟨q, a5, c5, HP2.out, rfl, hcap5, HV.out⟩⟩
end Go.Proofs.YtkhcnfeklmbplaaDoor
