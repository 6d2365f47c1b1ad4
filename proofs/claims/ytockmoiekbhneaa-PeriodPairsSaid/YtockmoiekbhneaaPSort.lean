/- slices.SortFunc at spans, by their beginnings: the closure's walk and what the row holds behind it. -/
import Derived.Test.YtockmoiekbhneaaSortL
import Derived.Shelf.SlSortCmp.WholeK
import Derived.Shelf.SlSortCmp.NoneTotal
import Derived.Test.YtockmoiekbhneaaPValid
namespace Go.Proofs.Ytockmoiekbhneaa
open Go.RowKit

def cmpI (x y : Int) : Int := if x < y then -1 else if y < x then 1 else 0

set_option maxHeartbeats 400000 in
theorem isNaN_any (x : Int) (w : World) : Calls Try.prog 32 #[.int .i64 x] w fun e w' => e = .returned (.bool false) ∧ w = w' := by
  go_enter Try.func32, Try.ntmps32
  go_wp2
  go_ret
  exact ⟨by simp, rfl⟩

set_option maxHeartbeats 1000000 in
theorem Compare_any (x y : Int) (w : World) : Calls Try.prog 29 #[.int .i64 x, .int .i64 y] w fun e w' => e = .returned (.int .i64 (cmpI x y)) ∧ w = w' := by
  have hc : (x < y ∧ cmpI x y = -1) ∨ (¬ x < y ∧ y < x ∧ cmpI x y = 1) ∨ (¬ x < y ∧ ¬ y < x ∧ cmpI x y = 0) := by
    unfold cmpI
    by_cases h1 : x < y
    · exact .inl ⟨h1, by rw [if_pos h1]⟩
    · by_cases h2 : y < x
      · exact .inr (.inl ⟨h1, h2, by rw [if_neg h1, if_pos h2]⟩)
      · exact .inr (.inr ⟨h1, h2, by rw [if_neg h1, if_neg h2]⟩)
  generalize cmpI x y = r at *
  have HN := Lib.hid (fun x W => isNaN_any x W)
  rcases hc with ⟨h1, rfl⟩ | ⟨h1, h2, rfl⟩ | ⟨h1, h2, rfl⟩
  all_goals
    go_enter Try.func29, Try.ntmps29
    go_wp2_with (refine (HN.out _ _).mono ?_; rintro e w' ⟨rfl, rfl⟩)
    go_ret
    exact ⟨rfl, rfl⟩

set_option maxHeartbeats 1000000 in
theorem closure_any (x y : Int × Int) (W : World) : Calls Try.prog 28 #[.agg #[.int .i64 x.1, .int .i64 x.2], .agg #[.int .i64 y.1, .int .i64 y.2]] W fun e w' => e = .returned (.int .i64 (cmpI x.1 y.1)) ∧ ∃ q os', w' = Go.Sort.grow (W.drewN q) os' := by
  have hcon := fun W' => Compare_any x.1 y.1 W'
  generalize cmpI x.1 y.1 = r at hcon ⊢
  have HC := Lib.hid hcon
  clear hcon
  go_enter Try.func28, Try.ntmps28
  go_wp2_with (refine (HC.out _).mono ?_; rintro e w' ⟨rfl, rfl⟩)
  go_ret
  exact ⟨rfl, 0, _, by rw [Go.Sort.alloc_eq_grow, Go.Sort.alloc_eq_grow, Go.Sort.grow_grow]; rfl⟩

theorem ltI (x y : Int × Int) : Go.Proofs.ltOf (fun x y : Int × Int => cmpI x.1 y.1) x y = decide (x.1 < y.1) := by
  unfold Go.Proofs.ltOf cmpI
  by_cases h1 : x.1 < y.1
  · simp [h1]
  · by_cases h2 : y.1 < x.1 <;> simp [h1, h2]
theorem swoI : Go.Sort.SWO (Go.Proofs.ltOf fun x y : Int × Int => cmpI x.1 y.1) where
  irrefl x := by rw [ltI]; simp
  trans x y z h1 h2 := by rw [ltI] at *; simp at *; omega
  ntrans x y z h1 h2 := by rw [ltI] at *; simp at *; omega

/-- What a world of the sort's is to the one ahead of it. -/
theorem sortW_chg (w : World) (blk off n : Nat) (d : Array (Int × Int)) (os : Array Obj) : Chg [blk] w (Go.Proofs.sortWorldK encS 2 w blk off n d os) := by
  refine ⟨rfl, rfl, rfl, ?_, fun k hk hn => ?_⟩
  · simp [Go.Proofs.sortWorldK, Go.Sort.grow, Go.Sort.putRowK, Go.Sort.putRow, Go.Sort.mapBlock, Go.Sort.ahead]
  · have hne : ¬ blk = k := fun e => hn (by simp [e])
    simp only [Go.Proofs.sortWorldK, Go.Sort.grow, Go.Sort.putRowK, Go.Sort.putRow, Go.Sort.mapBlock, Go.Sort.ahead]
    rw [Array.getElem?_append_left (by simpa using hk), Array.getElem?_modify, if_neg hne]

theorem cellsOf_atS : ∀ (l : List (Int × Int)) (i : Nat) (v : Value), (cellsT l)[i]? = some v → ∃ y, l[i / 2]? = some y ∧ (encS y)[i % 2]? = some v
  | [], i, v, h => by simp [cellsOf] at h
  | x :: r, i, v, h => by
    have e : cellsT (x :: r) = encS x ++ cellsT r := rfl
    rw [e] at h
    by_cases hi : i < 2
    · rw [List.getElem?_append_left (by rw [encS_len]; exact hi)] at h
      exact ⟨x, by rw [Nat.div_eq_of_lt hi]; rfl, by rw [Nat.mod_eq_of_lt hi]; exact h⟩
    · rw [List.getElem?_append_right (by rw [encS_len]; omega), encS_len] at h
      obtain ⟨y, h1, h2⟩ := cellsOf_atS r (i - 2) v h
      refine ⟨y, ?_, ?_⟩
      · rw [show i / 2 = (i - 2) / 2 + 1 by omega]; exact h1
      · rw [show i % 2 = (i - 2) % 2 by omega]; exact h2

/-- slices.SortFunc at a row of spans of the call's own. -/
theorem sort_any (l : List (Int × Int)) (g n cap base : Nat) (w : World) (hown : w.ownsRow base 23 2 (.slice (some ⟨g, 0, none⟩) n cap) n (cellsT l)) (hn : n = l.length) (hmax : n ≤ 1000000) :
    Calls Try.prog 27 #[.slice (some ⟨g, 0, none⟩) n cap, .func (.func 28) #[] #[]] w fun e w' =>
      e = .returned (.tuple #[]) ∧ ∃ d : List (Int × Int), d.Perm l ∧ Asc d ∧ Arr w'.heap.size w' (some ⟨g, 0, none⟩) (cellsT d) ∧ Chg [g] w w' := by
  have eg : ∀ args w, (callFunc 28 args).run Try.prog w = .ok (.enter 28 args) w := enters_of Try.func28 (by kernel_rfl) rfl
  have hgl : g < w.heap.size := (World.ownsRow.lt hown g rfl).2
  have hH : Go.Sort.HoldsK encS 2 w g 0 l.toArray := by
    intro j hj
    rw [Go.Sort.size_flatK] at hj
    have hj2 : j < n * 2 := by rw [hn]; simpa using hj
    rw [Nat.zero_add]
    refine ⟨?_, World.ownsRow.frozenAt hown j⟩
    rw [World.ownsRow.cellAt hown j hj2, Go.Sort.get_flatK _ _ _ _ hj]
    have hjl : j / 2 < l.length := by omega
    have e1 : (l.toArray)[j / 2]! = l[j / 2] := by simp [hjl]
    rw [e1]
    have hm : j % 2 < 2 := Nat.mod_lt _ (by omega)
    have e2 : (encS l[j / 2])[j % 2]? = some ((encS l[j / 2])[j % 2]!) := by
      rw [List.getElem!_eq_getElem?_getD, List.getElem?_eq_getElem (by rw [encS_len]; exact hm)]; rfl
    have := cellsOf_get encS 2 encS_len l (j / 2) (j % 2) _ _ (List.getElem?_eq_getElem hjl) e2
    rw [Nat.div_add_mod'] at this
    exact this
  have hcmp : Go.Proofs.CmpLays Try.prog 28 #[] encS 2 (fun x y : Int × Int => cmpI x.1 y.1) g 0 l.toArray.size w := fun _ _ _ _ x y => closure_any x y _
  have hcon := Go.Proofs.AnyQ.slices_SortFunc Try.sortSpan 2 Try.isAgg23 Try.sizeOf23 encS encS_len (fun x v hv => by simp only [encS, List.mem_cons, List.not_mem_nil, or_false] at hv; rcases hv with rfl | rfl <;> rfl) (fun x y : Int × Int => cmpI x.1 y.1) swoI 28 #[] g 0 cap l.toArray w eg hcmp hH hgl (by simp; omega)
  have hsz : l.toArray.size = n := by simp [hn]
  change Calls Try.prog 27 _ _ _ at hcon
  rw [hsz] at hcon
  refine hcon.mono ?_
  rintro e w' ⟨rfl, d', m, os, hp, hs, rfl⟩
  obtain ⟨hp1, _, hp3⟩ := hp
  rw [hsz] at hp1
  have hd : d'.size = n := hp1
  refine ⟨rfl, d'.toList, ?_, ?_, ?_, sortW_chg w g 0 m d' os⟩
  · have e1 : d'.extract 0 n = d' := by rw [← hd]; simp
    have e2 : l.toArray.extract 0 n = l.toArray := by rw [← hsz]; simp
    rw [e1, e2] at hp3
    simpa using hp3
  · apply Asc.of_get
    intro i j hi hj hij
    have hj' : j < d'.size := by simpa using hj
    have hi' : i < d'.size := by simpa using hi
    have := hs i j (Nat.zero_le _) hij (by omega)
    rw [ltI] at this
    simp only [decide_eq_false_iff_not] at this
    rw [getElem!_pos d' i hi', getElem!_pos d' j hj'] at this
    simp only [Array.getElem_toList]
    omega
  · have hH' : Go.Sort.HoldsK encS 2 (Go.Proofs.sortWorldK encS 2 w g 0 m d' os) g 0 d' := Go.Proofs.holdsK_sortWorldK_c encS 2 w g 0 l.toArray d' m os hH hgl (by rw [hd, hsz])
    refine .inr ⟨g, 0, rfl, Nat.lt_of_lt_of_le hgl (sortW_chg w g 0 m d' os).size, fun i v hv => ?_⟩
    obtain ⟨y, h1, h2⟩ := cellsOf_atS d'.toList i v hv
    have hi2 : i / 2 < d'.size := by
      have := (List.getElem?_eq_some_iff.1 h1).1
      simpa using this
    have hcell := (hH'.cell (i := i / 2) (c := i % 2) hi2 (Nat.mod_lt _ (by omega))).1
    have e1 : d'[i / 2]! = y := by
      rw [getElem!_pos d' _ hi2]
      have := (List.getElem?_eq_some_iff.1 h1).2
      simpa using this
    have e2 : (encS y)[i % 2]! = v := by rw [List.getElem!_eq_getElem?_getD, h2]; rfl
    rw [e1, e2] at hcell
    rw [show (0 : Nat) + i = 0 + i / 2 * 2 + i % 2 by omega]
    exact hcell

theorem sort_none (a : Option Addr) (cap : Nat) (w : World) :
    Calls Try.prog 27 #[.slice a 0 cap, .func (.func 28) #[] #[]] w fun e w' => e = .returned (.tuple #[]) ∧ w' = w := by
  have hcon := Go.Proofs.AnyF.slices_SortFunc_none Try.sortSpan a cap (.func (.func 28) #[] #[]) w
  change Calls Try.prog 27 _ _ _ at hcon
  exact hcon
end Go.Proofs.Ytockmoiekbhneaa
