/- The walks of record.decode and the reference's one. -/
import Derived.Test.YtipeinkogoghnaaRRefW
namespace Go.Proofs.Ytipeinkogoghnaa
open Go.RowKit

theorem slots2_here (w : World) (T : TypeId) (a0 a1 a2 b0 b1 b2 : Value) : Slot ((w.alloc (.cells #[a0, a1, a2] T)).alloc (.cells #[b0, b1, b2] T)) w.heap.size a0 a1 a2 ∧ Slot ((w.alloc (.cells #[a0, a1, a2] T)).alloc (.cells #[b0, b1, b2] T)) (w.heap.size + 1) b0 b1 b2 := by
  obtain ⟨h1, h2, _⟩ := slots2 w T a0 a1 a2 b0 b1 b2 ((w.alloc (.cells #[a0, a1, a2] T)).alloc (.cells #[b0, b1, b2] T)) (Later.refl _)
  exact ⟨h1, h2⟩

/-- What a value that begins at an index is answered as. -/
def RetD (w : World) (o : Option (Vl × Nat)) (e : Ending) (w' : World) : Prop :=
  Below w.heap.size w w' ∧ ((o = none ∧ ∃ (k n : Int) (s : ByteArray) (m : Int), e = .returned (.tuple #[.agg #[.int .u8 k, .int .i64 n, .string s], .int .i64 m, .bool false])) ∨
    ∃ (x : Vl) (n : Nat), o = some (x, n) ∧ e = .returned (.tuple #[.agg #[.int .u8 x.k, .int .i64 x.n, .string x.s], .int .i64 (n : Int), .bool true]))

theorem RetD.no {w w' : World} {o : Option (Vl × Nat)} (h : o = none) (hb : Below w.heap.size w w') (k n : Int) (s : ByteArray) (m : Int) : RetD w o (.returned (.tuple #[.agg #[.int .u8 k, .int .i64 n, .string s], .int .i64 m, .bool false])) w' :=
  ⟨hb, .inl ⟨h, k, n, s, m, rfl⟩⟩
theorem RetD.yes {w w' : World} {o : Option (Vl × Nat)} {k : Nat} {n : Int} {s : ByteArray} {m : Nat} (h : o = some (⟨k, n, s⟩, m)) (hb : Below w.heap.size w w') : RetD w o (.returned (.tuple #[.agg #[.int .u8 (k : Int), .int .i64 n, .string s], .int .i64 (m : Int), .bool true])) w' :=
  ⟨hb, .inr ⟨_, _, h, rfl⟩⟩

theorem decV_at {l : List Nat} {p k : Nat} (h : l[p]? = some k) : decV l p =
    if k = 0 then some (⟨0, 0, ⟨#[]⟩⟩, p + 1)
    else if k = 1 then (if (getR l ((p + 1 : Nat) : Int)).2.2 = 0 then some (⟨1, zagZ (getR l ((p + 1 : Nat) : Int)).1, ⟨#[]⟩⟩, (getR l ((p + 1 : Nat) : Int)).2.1.toNat) else none)
    else if k = 2 ∨ k = 3 then (if (textR l ((p + 1 : Nat) : Int)).2.2 = 0 then some (⟨k, 0, (textR l ((p + 1 : Nat) : Int)).1⟩, (textR l ((p + 1 : Nat) : Int)).2.1.toNat) else none)
    else none := by
  unfold decV; rw [h]

theorem textR_nat (l : List Nat) (h256 : ∀ c ∈ l, c < 256) (p : Nat) (s : ByteArray) (n : Int) (q : Nat) (h : textR l (p : Nat) = (s, n, q)) : ∃ m : Nat, n = m ∧ m ≤ l.length := by
  by_cases hq : q = 0
  · subst hq
    obtain ⟨m, h1, h2, h3, _⟩ := textR_only l h256 p s n h
    exact ⟨m, h1, h3⟩
  · unfold textR at h
    simp only [] at h
    split at h
    · simp only [Prod.mk.injEq] at h; exact ⟨0, by omega, by omega⟩
    · split at h
      · simp only [Prod.mk.injEq] at h; exact ⟨0, by omega, by omega⟩
      · simp only [Prod.mk.injEq] at h; omega

set_option maxHeartbeats 2000000 in
theorem decode_any (l : List Nat) (a : Option Addr) (len cap p : Nat) (w : World) (hB : Bs w.heap.size w a l) (hlen : len = l.length) (hcap : len ≤ cap) (hmax : len ≤ 1000000) (hp : p ≤ 1000000) :
    Calls Try.prog 49 #[.slice a len cap, .int .i64 p] w (RetD w (decV l p)) := by
  have HB := Lib.hid hB
  have HL := Lib.hid hlen
  by_cases hlt : len ≤ p
  · have HD : Hid (decV l p = none) := by unfold decV; rw [List.getElem?_eq_none (by omega)]; rfl
    clear hB hlen
    go_enter Try.func49, Try.ntmps49
    go_wp2
    refine bodyPost_ret (v := .tuple #[.agg #[.int .u8 0, .int .i64 0, .string ⟨#[]⟩], .int .i64 0, .bool false]) (by simp [results, Try.results49, go_sem]) rfl (RetD.no HD.out ?_ _ _ _ _)
    repeat (refine Below.setCell ?_ (by first | exact Nat.le_refl _ | (simp; done) | (simp; omega)) _)
    first | exact ((Below.refl _ _).alloc (Nat.le_refl _) _).alloc (by simp) _ | exact (Below.refl _ _).alloc (Nat.le_refl _) _ | exact (((Below.refl _ _).alloc (Nat.le_refl _) _).alloc (by simp) _).alloc (by simp; omega) _
  · have hkl : p < l.length := by omega
    obtain ⟨h256, hcell⟩ := hB
    rcases hcell with hnil | ⟨b, o, rfl, hN, hcell⟩
    · rw [hnil] at hkl; simp at hkl
    · obtain ⟨k, hk⟩ : ∃ k, l[p]? = some k := ⟨_, List.getElem?_eq_getElem hkl⟩
      have c0 := hcell p k hk
      have hk256 := h256 k (List.mem_of_getElem? hk)
      have HDA := Lib.hid (decV_at hk)
      have hlt' : ¬ len ≤ p := hlt
      clear hcell h256 hlen hk hkl
      have hkc : k = 0 ∨ k = 1 ∨ (k = 2 ∨ k = 3) ∨ 3 < k := by omega
      rcases hkc with rfl | rfl | hk | hk
      · have HD : Hid (decV l p = some (⟨0, 0, ⟨#[]⟩⟩, p + 1)) := HDA.out
        clear HDA
        go_enter Try.func49, Try.ntmps49
        go_wp2
        refine bodyPost_ret (v := .tuple #[.agg #[.int .u8 ((0 : Nat) : Int), .int .i64 0, .string ⟨#[]⟩], .int .i64 ((p + 1 : Nat) : Int), .bool true]) (by simp [results, Try.results49, go_sem]) rfl (RetD.yes HD.out ?_)
        repeat (refine Below.setCell ?_ (by first | exact Nat.le_refl _ | (simp; done) | (simp; omega)) _)
        first | exact ((Below.refl _ _).alloc (Nat.le_refl _) _).alloc (by simp) _ | exact (Below.refl _ _).alloc (Nat.le_refl _) _ | exact (((Below.refl _ _).alloc (Nat.le_refl _) _).alloc (by simp) _).alloc (by simp; omega) _
      · have HG : Hid (∀ W, Below w.heap.size w W → _) := fun W (hW : Below w.heap.size w W) => getInt_any w.heap.size l (some ⟨b, o, none⟩) len cap ((p + 1 : Nat) : Int) W (HB.out.below hW) HL.out (by omega) hcap (by omega) (by omega)
        have hrl := getR_lt l HB.out.1 ((p + 1 : Nat) : Int) (by omega)
        have hD0 := HDA.out
        rw [if_neg (by omega), if_pos rfl] at hD0
        obtain ⟨R, hR⟩ : ∃ R, getR l ((p + 1 : Nat) : Int) = R := ⟨_, rfl⟩
        obtain ⟨v, n, q⟩ := R
        rw [hR] at HG hrl hD0
        simp only at hrl hD0 HG
        obtain ⟨m, rfl⟩ := Int.eq_ofNat_of_zero_le hrl.2.1
        have hm : m ≤ 1000000 := by have := HL.out; omega
        rw [Int.toNat_natCast] at hD0
        have HD := Lib.hid hD0
        clear hR hD0 hrl HDA
        by_cases hq : q = 0
        · subst hq
          simp only [if_true] at HG HD
          go_enter Try.func49, Try.ntmps49
          go_wp2_with fail
          refine (HG.out _ (((Below.refl _ _).alloc (Nat.le_refl _) _).alloc (by simp) _)).mono ?_
          rintro e w1 ⟨rfl, rfl⟩
          clear HG
          go_wp2
          refine bodyPost_ret (v := .tuple #[.agg #[.int .u8 ((1 : Nat) : Int), .int .i64 (zagZ v), .string ⟨#[]⟩], .int .i64 (m : Int), .bool true]) (by simp [results, Try.results49, go_sem]) rfl (RetD.yes HD.out ?_)
          repeat (refine Below.setCell ?_ (by first | exact Nat.le_refl _ | (simp; done) | (simp; omega)) _)
          first | exact ((Below.refl _ _).alloc (Nat.le_refl _) _).alloc (by simp) _ | exact (Below.refl _ _).alloc (Nat.le_refl _) _ | exact (((Below.refl _ _).alloc (Nat.le_refl _) _).alloc (by simp) _).alloc (by simp; omega) _
        · rw [if_neg hq] at HG HD
          have hq3 : ((q : Int) != 0) = true := by simp; omega
          go_enter Try.func49, Try.ntmps49
          go_wp2_with fail
          refine (HG.out _ (((Below.refl _ _).alloc (Nat.le_refl _) _).alloc (by simp) _)).mono ?_
          rintro e w1 ⟨rfl, rfl⟩
          clear HG
          go_wp2
          refine bodyPost_ret (v := .tuple #[.agg #[.int .u8 0, .int .i64 0, .string ⟨#[]⟩], .int .i64 0, .bool false]) (by simp [results, Try.results49, go_sem]) rfl (RetD.no HD.out ?_ _ _ _ _)
          repeat (refine Below.setCell ?_ (by first | exact Nat.le_refl _ | (simp; done) | (simp; omega)) _)
          first | exact ((Below.refl _ _).alloc (Nat.le_refl _) _).alloc (by simp) _ | exact (Below.refl _ _).alloc (Nat.le_refl _) _ | exact (((Below.refl _ _).alloc (Nat.le_refl _) _).alloc (by simp) _).alloc (by simp; omega) _
      · have HG : Hid (∀ W, Below w.heap.size w W → _) := fun W (hW : Below w.heap.size w W) => getText_any w.heap.size l (some ⟨b, o, none⟩) len cap ((p + 1 : Nat) : Int) W (HB.out.below hW) HL.out (by omega) hcap (by omega) (by omega)
        have hD0 := HDA.out
        rw [if_neg (by omega), if_neg (by omega), if_pos hk] at hD0
        obtain ⟨R, hR⟩ : ∃ R, textR l ((p + 1 : Nat) : Int) = R := ⟨_, rfl⟩
        obtain ⟨v, n, q⟩ := R
        obtain ⟨m, rfl, hm⟩ := textR_nat l HB.out.1 (p + 1) v n q hR
        have hm : m ≤ 1000000 := by have := HL.out; omega
        rw [hR] at HG hD0
        simp only at hD0 HG
        rw [Int.toNat_natCast] at hD0
        have HD := Lib.hid hD0
        clear hR hD0 HDA
        by_cases hq : q = 0
        · subst hq
          simp only [if_true] at HD
          rcases hk with rfl | rfl
          all_goals
            go_enter Try.func49, Try.ntmps49
            go_wp2_with fail
            refine (HG.out _ (((Below.refl _ _).alloc (Nat.le_refl _) _).alloc (by simp) _)).mono ?_
            rintro e w1 ⟨rfl, rfl⟩
            clear HG
            go_wp2
          · refine bodyPost_ret (v := .tuple #[.agg #[.int .u8 ((2 : Nat) : Int), .int .i64 0, .string v], .int .i64 (m : Int), .bool true]) (by simp [results, Try.results49, go_sem]) rfl (RetD.yes HD.out ?_)
            repeat (refine Below.setCell ?_ (by first | exact Nat.le_refl _ | (simp; done) | (simp; omega)) _)
            first | exact ((Below.refl _ _).alloc (Nat.le_refl _) _).alloc (by simp) _ | exact (Below.refl _ _).alloc (Nat.le_refl _) _ | exact (((Below.refl _ _).alloc (Nat.le_refl _) _).alloc (by simp) _).alloc (by simp; omega) _
          · refine bodyPost_ret (v := .tuple #[.agg #[.int .u8 ((3 : Nat) : Int), .int .i64 0, .string v], .int .i64 (m : Int), .bool true]) (by simp [results, Try.results49, go_sem]) rfl (RetD.yes HD.out ?_)
            repeat (refine Below.setCell ?_ (by first | exact Nat.le_refl _ | (simp; done) | (simp; omega)) _)
            first | exact ((Below.refl _ _).alloc (Nat.le_refl _) _).alloc (by simp) _ | exact (Below.refl _ _).alloc (Nat.le_refl _) _ | exact (((Below.refl _ _).alloc (Nat.le_refl _) _).alloc (by simp) _).alloc (by simp; omega) _
        · rw [if_neg hq] at HD
          have hq3 : ((q : Int) != 0) = true := by simp; omega
          rcases hk with rfl | rfl
          all_goals
            go_enter Try.func49, Try.ntmps49
            go_wp2_with fail
            refine (HG.out _ (((Below.refl _ _).alloc (Nat.le_refl _) _).alloc (by simp) _)).mono ?_
            rintro e w1 ⟨rfl, rfl⟩
            clear HG
            go_wp2
            refine bodyPost_ret (v := .tuple #[.agg #[.int .u8 0, .int .i64 0, .string ⟨#[]⟩], .int .i64 0, .bool false]) (by simp [results, Try.results49, go_sem]) rfl (RetD.no HD.out ?_ _ _ _ _)
            repeat (refine Below.setCell ?_ (by first | exact Nat.le_refl _ | (simp; done) | (simp; omega)) _)
            first | exact ((Below.refl _ _).alloc (Nat.le_refl _) _).alloc (by simp) _ | exact (Below.refl _ _).alloc (Nat.le_refl _) _ | exact (((Below.refl _ _).alloc (Nat.le_refl _) _).alloc (by simp) _).alloc (by simp; omega) _
      · have HD : Hid (decV l p = none) := by rw [HDA.out, if_neg (by omega), if_neg (by omega), if_neg (by omega)]; rfl
        have e0 : ((k : Int) == 0) = false := by simp; omega
        have e1 : ((k : Int) == 1) = false := by simp; omega
        have e2 : ((k : Int) == 2) = false := by simp; omega
        have e3 : ((k : Int) == 3) = false := by simp; omega
        clear HDA
        go_enter Try.func49, Try.ntmps49
        go_wp2
        refine bodyPost_ret (v := .tuple #[.agg #[.int .u8 0, .int .i64 0, .string ⟨#[]⟩], .int .i64 0, .bool false]) (by simp [results, Try.results49, go_sem]) rfl (RetD.no HD.out ?_ _ _ _ _)
        repeat (refine Below.setCell ?_ (by first | exact Nat.le_refl _ | (simp; done) | (simp; omega)) _)
        first | exact ((Below.refl _ _).alloc (Nat.le_refl _) _).alloc (by simp) _ | exact (Below.refl _ _).alloc (Nat.le_refl _) _ | exact (((Below.refl _ _).alloc (Nat.le_refl _) _).alloc (by simp) _).alloc (by simp; omega) _
end Go.Proofs.Ytipeinkogoghnaa
