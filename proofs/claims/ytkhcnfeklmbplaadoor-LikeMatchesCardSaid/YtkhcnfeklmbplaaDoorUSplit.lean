/- The walks of runes.Right and runes.Split. -/
import Derived.Test.YtkhcnfeklmbplaaDoorUDec
import Derived.Test.YtkhcnfeklmbplaaDoorUKit
import Derived.Test.YtkhcnfeklmbplaaDoorShelf
import Derived.Shelf.Unicode.ValidAny
import Derived.Lib.OthersKept
import Derived.Lib.Hide
namespace Go.Proofs.YtkhcnfeklmbplaaDoor
open Go.RowKit

/-- Go's two tables of UTF-8 lie as the program's text lays them. -/
def Tabs (w : World) : Prop := Lib.Utf8Tabs (Tryd.laysValid_ren.g 3) (Tryd.laysValid_ren.g 4) w

theorem Tabs.below {w w' : World} (h : Tabs w) (hb : Below w.heap.size w w') : Tabs w' := Utf8Tabs_below h hb

/-- The code points as Go's integers. -/
def ptsZ (p : List Nat) : List Int := p.map fun (n : Nat) => (n : Int)
theorem ptsZ_len (p : List Nat) : (ptsZ p).length = p.length := by simp [ptsZ]
theorem ptsZ_append (p q : List Nat) : ptsZ (p ++ q) = ptsZ p ++ ptsZ q := by simp [ptsZ]

theorem Right_any (s : ByteArray) (w : World) (hs : s.size ≤ 9223372036854775807) (hT : Tabs w) :
    Calls Tryd.prog 14 #[.string s] w fun e w' => e = .returned (.bool (decS (bytesU s)).isSome) ∧ Below w.heap.size w w' := by
  have cV : Calls Tryd.prog 16 #[.string s] w _ := Any.utf8_ValidString Tryd.laysValid s w hs hT
  rw [valid_bytes] at cV
  obtain ⟨g, hg⟩ : ∃ g, (decS (bytesU s)).isSome = g := ⟨_, rfl⟩
  rw [hg] at cV ⊢
  have CV := Lib.hid cV
  clear cV hg hT
  go_enter Tryd.func14, Tryd.ntmps14
  go_wp2_with fail
  refine CV.out.mono ?_
  rintro e w1 ⟨rfl, hb⟩
  go_wp2
  go_ret
  exact ⟨rfl, hb⟩

theorem OwnI.iterAt {k : IntKind} {w : World} {base : Nat} {T : TypeId} {v : Value} {l : List Int} (h : OwnI k w base T v l) {b : Nat} (hb : b < base) (s : ByteArray) (pos : Nat) : OwnI k (w.iterAt b s pos) base T v l := by
  obtain ⟨h1, h2⟩ := h
  refine ⟨h1, ?_⟩
  rcases h2 with h2 | ⟨g, cap, cur, hv, hg, hh, r⟩
  · exact .inl h2
  · exact .inr ⟨g, cap, cur, hv, hg, by rw [Lib.iterAt_other _ _ _ _ _ (by omega)]; exact hh, r⟩

/-- What Split hands back: the points, or an error. -/
def RetSp (w : World) (o : Option (List Nat)) (e : Ending) (w' : World) : Prop :=
  Below w.heap.size w w' ∧ ((o = none ∧ e = .returned (.tuple #[.slice none 0 0, .int .i64 3])) ∨
    ∃ p a cap, o = some p ∧ e = .returned (.tuple #[.slice a p.length cap, .int .i64 0]) ∧ p.length ≤ cap ∧ Rs .i32 w'.heap.size w' a (ptsZ p))

theorem Tryd.info21 : (Tryd.prog.info? 21).map (fun i => (i.zero, i.size, i.bytes)) = some (some (.int .i32 0), 1, 4) := by kernel_rfl

set_option maxHeartbeats 2000000 in
theorem Split_any (s : ByteArray) (w : World) (hs : s.size ≤ 1000000000) (hT : Tabs w) :
    Calls Tryd.prog 11 #[.string s] w (RetSp w (decS (bytesU s))) := by
  obtain ⟨i0, hi, hz0, hz1, hz2⟩ := info_parts Tryd.info21
  have HR := Lib.hid (Right_any s w (by omega) hT)
  obtain ⟨o, ho⟩ : ∃ o, decS (bytesU s) = o := ⟨_, rfl⟩
  rw [ho] at HR ⊢
  have HO := Lib.hid ho
  clear ho hT
  go_enter Tryd.func11, Tryd.ntmps11
  go_wp2_with fail
  refine HR.out.mono ?_
  rintro e w1 ⟨rfl, hb1⟩
  cases o with
  | none =>
    go_wp2
    go_ret2
    exact ⟨hb1, .inl ⟨rfl, rfl⟩⟩
  | some p =>
    clear HR
    go_wp2
    have hbase : Below w.heap.size w (w1.iter s 0) := hb1.alloc hb1.size _
    go_loopw [4] (fun v wr => ∃ (pos : Nat) (q r : List Nat), wr.heap[w1.heap.size]? = some (.stringIter s pos) ∧ pos ≤ s.size ∧ Hid (p = q ++ r) ∧ Hid (decS ((bytesU s).drop pos) = some r) ∧ OwnI .i32 wr (w1.heap.size + 1) 21 v (ptsZ q) ∧ Below w.heap.size w wr ∧ w1.heap.size + 1 ≤ wr.heap.size ∧ Hid (q.length ≤ pos))
      (fun _ wr => s.size - wr.iterPos w1.heap.size)
    case atStart => exact ⟨0, [], p, World.iter_heap _ _ _, by omega, rfl, HO.out, OwnI.nil _ _ _ _, hbase, by simp [World.iter], by simp [Hid]⟩
    case round =>
      obtain ⟨pos, q, r, hit, hpos, HP, HD, hown, hbr, hsz, HQ⟩ := hrel
      by_cases hp : pos < s.size
      · have hne : (bytesU s).drop pos ≠ [] := by
          intro h; have := congrArg List.length h; rw [List.length_drop, bytesU_len] at this; simp at this; omega
        obtain ⟨v, n, r', h1, h2, h3, h4, h5, h6, h7, h8⟩ := decS_step (fun c hc => bytesU_lt s c (List.mem_of_mem_drop hc)) HD.out hne
        rw [List.length_drop, bytesU_len] at h6
        have hnx : ∀ ty, (Instr.next (.pointer (some ⟨w1.heap.size, 0, none⟩)) true ty).run Tryd.prog wr = .ok (.tuple #[.bool true, .int .i64 pos, .int .i32 (v : Int)]) (wr.iterAt w1.heap.size s (pos + n)) := fun ty => by
          rw [Lib.run_next_any_at wr w1.heap.size s pos ty hit hp, decode_hd, h4]
        have HP' : Hid (p = (q ++ [v]) ++ r') := by rw [HP.out, h2]; simp [Hid]
        have HD' : Hid (decS ((bytesU s).drop (pos + n)) = some r') := by rw [List.drop_drop] at h3; exact h3
        have hit2 := Lib.iterAt_heap wr w1.heap.size s pos (pos + n) hit
        have hown2 := hown.iterAt (b := w1.heap.size) (by omega) s (pos + n)
        have hbr2 : Below w.heap.size w (wr.iterAt w1.heap.size s (pos + n)) := Lib.below_iterAt hbr hb1.size s (pos + n)
        have hsz2 : w1.heap.size + 1 ≤ (wr.iterAt w1.heap.size s (pos + n)).heap.size := by rw [Lib.iterAt_size]; exact hsz
        obtain ⟨W2, hW2⟩ : ∃ W2, wr.iterAt w1.heap.size s (pos + n) = W2 := ⟨_, rfl⟩
        rw [hW2] at hnx hit2 hown2 hbr2 hsz2
        have hv31 : v ≤ 1114111 := okP_le h7
        have hq : (ptsZ q).length < 1000000000000 := by rw [ptsZ_len]; have := HQ.out; omega
        have HIP : Hid (wr.iterPos w1.heap.size = pos) := by simp [Hid, World.iterPos, hit]
        clear h1 h2 h3 h4 h8 hne hown hbr hsz HP HD hW2 hbase hit
        go_wp2_with (at_builtin; refine wpList_appI rfl _ _ 35 rfl .i32 (w1.heap.size + 1) 21 i0 4 Tryd.underlying35 hi hz0 hz1 hz2 (by omega) _ (ptsZ q) W2 hown2 rfl (v : Int) rfl hq hsz2 ?_; intro v' w3 hown3 hb3 hsz3)
        go_roundw
        case rel => exact ⟨pos + n, q ++ [v], r', (hb3.block _ (by omega)).trans hit2, by omega, HP', HD', by rw [ptsZ_append]; exact hown3, hbr2.trans (hb3.mono (by have := hb1.size; omega)), by omega, by have := HQ.out; show (q ++ [v]).length ≤ pos + n; rw [List.length_append]; simp only [List.length_cons, List.length_nil]; omega⟩
        case measure =>
          have h1 := HIP.out
          have h2 : w3.iterPos w1.heap.size = pos + n := by simp [World.iterPos, (hb3.block w1.heap.size (by omega)).trans hit2]
          rw [h1, h2]; omega
      · have hr : r = [] := by
          have h0 : (bytesU s).drop pos = [] := List.drop_of_length_le (by rw [bytesU_len]; omega)
          have := HD.out
          rw [h0, decS_nil] at this
          simpa using this.symm
        have HP2 : Hid (p = q) := by rw [HP.out, hr]; simp [Hid]
        have hnx : ∀ ty, (Instr.next (.pointer (some ⟨w1.heap.size, 0, none⟩)) true ty).run Tryd.prog wr = _ := fun ty => Lib.run_next_end_at wr w1.heap.size s pos ty hit hp
        obtain ⟨a5, c5, rfl, hcap5, hV5, _⟩ := hown.slice
        rw [ptsZ_len] at hcap5 ⊢
        have HV := Lib.hid hV5
        clear hown hV5 HP HD hr
        go_wp2
        go_ret2
        exact ⟨hbr, .inr ⟨q, a5, c5, by rw [HP2.out], rfl, hcap5, HV.out⟩⟩
end Go.Proofs.YtkhcnfeklmbplaaDoor
