/- The model's decoder and the code points. -/
import Derived.Test.YtkhcnfeklmbplaaDoorUMath
import Derived.Test.YtkhcnfeklmbplaaDoorKit
import Derived.Laws.RangeAny
namespace Go.Proofs.YtkhcnfeklmbplaaDoor
open Go

def bytesU (s : ByteArray) : List Nat := s.data.toList.map UInt8.toNat

theorem bytesU_len (s : ByteArray) : (bytesU s).length = s.size := by simp [bytesU]
theorem bytesU_lt (s : ByteArray) : ∀ c ∈ bytesU s, c < 256 := by
  intro c hc
  obtain ⟨u, _, rfl⟩ := List.mem_map.1 hc
  exact u.toNat_lt
theorem map_lt (l : List UInt8) : ∀ c ∈ l.map UInt8.toNat, c < 256 := by
  intro c hc
  obtain ⟨u, _, rfl⟩ := List.mem_map.1 hc
  exact u.toNat_lt

theorem getD_map (l : List UInt8) (i : Nat) : (l.map UInt8.toNat).getD i 0 = (l.getD i 0).toNat := by
  rw [List.getD_eq_getElem?_getD, List.getD_eq_getElem?_getD, List.getElem?_map]
  cases l[i]? <;> rfl

theorem decodeL_hd (l : List UInt8) : Lib.decodeL l = hd (l.map UInt8.toNat) := by
  rw [Lib.decodeL_N]
  unfold hd
  rw [getD_map, getD_map, getD_map, getD_map, List.length_map]

theorem valid_dec : ∀ (n : Nat) (l : List UInt8), l.length ≤ n → Lib.validD l = (decS (l.map UInt8.toNat)).isSome
  | 0, l, h => by
    have : l = [] := List.eq_nil_of_length_eq_zero (by omega)
    subst this
    rw [Lib.validD_nil]; rfl
  | n + 1, l, h => by
    by_cases hne : l = []
    · subst hne; rw [Lib.validD_nil]; rfl
    · have hne2 : l.map UInt8.toNat ≠ [] := by simpa using hne
      have hl : 0 < l.length := List.length_pos_iff.2 hne
      rw [Lib.validD_step l hne, decodeL_hd]
      cases hp : pt (l.map UInt8.toNat) with
      | none =>
        rw [decS_bad (map_lt l) hne2 hp]
        have : hd (l.map UInt8.toNat) = (65533, 1) := by
          unfold pt at hp
          rw [if_neg hne2] at hp
          by_cases h : hd (l.map UInt8.toNat) = (65533, 1)
          · exact h
          · rw [if_neg h] at hp; simp at hp
        rw [this]; simp
      | some x =>
        obtain ⟨v, k⟩ := x
        rw [decS_go (map_lt l) hp]
        obtain ⟨_, _, _, h4, h5, h6⟩ := pt_some (map_lt l) hp
        have hb : ¬ ((hd (l.map UInt8.toNat)).1 = 65533 ∧ (hd (l.map UInt8.toNat)).2 = 1) := by
          intro hh
          unfold pt at hp
          rw [if_neg hne2, if_pos (Prod.ext hh.1 hh.2)] at hp
          simp at hp
        rw [if_neg hb, h6]
        dsimp only
        rw [valid_dec n (l.drop k) (by rw [List.length_drop]; omega), Option.isSome_map, List.map_drop]

theorem valid_bytes (s : ByteArray) : Lib.validD s.data.toList = (decS (bytesU s)).isSome := valid_dec _ _ (Nat.le_refl _)

theorem get_bytes (s : ByteArray) (i : Nat) : (s.get! i).toNat = (bytesU s).getD i 0 := by
  unfold bytesU
  rw [getD_map, List.getD_eq_getElem?_getD]
  congr 1
  show s.data[i]! = _
  rw [getElem!_def]
  simp only [Array.getElem?_toList]
  cases s.data[i]? <;> rfl

theorem decode_hd (s : ByteArray) (i : Nat) : Utf8.decode s i = hd ((bytesU s).drop i) := by
  rw [Lib.decode_at]
  unfold hd
  have hg : ∀ j, ((bytesU s).drop i).getD j 0 = (bytesU s).getD (i + j) 0 := fun j => by
    rw [List.getD_eq_getElem?_getD, List.getD_eq_getElem?_getD, List.getElem?_drop]
  rw [hg, hg, hg, hg, get_bytes, get_bytes, get_bytes, get_bytes, List.length_drop, bytesU_len]
  rfl
end Go.Proofs.YtkhcnfeklmbplaaDoor
