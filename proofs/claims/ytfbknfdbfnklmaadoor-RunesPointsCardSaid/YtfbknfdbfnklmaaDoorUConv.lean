/- '[]rune' to a string. -/
import Derived.Test.YtfbknfdbfnklmaaDoorUDec
import Derived.Test.YtfbknfdbfnklmaaDoorUKit
import Derived.Laws.Cover4
namespace Go.Proofs.YtfbknfdbfnklmaaDoor
open Go.RowKit

/-- The text of some code points. -/
def strP (p : List Nat) : ByteArray := ⟨((encS p).map UInt8.ofNat).toArray⟩

theorem strP_size (p : List Nat) : (strP p).size = (encS p).length := by simp [strP, ByteArray.size]

theorem bytesU_strP {p : List Nat} (h : ∀ v ∈ p, okP v = true) : bytesU (strP p) = encS p := by
  unfold bytesU strP
  simp only [List.map_map]
  conv => rhs; rw [← List.map_id (encS p)]
  refine List.map_congr_left fun c hc => ?_
  have := encS_lt h c hc
  simp; omega

theorem encode_pt {v : Nat} (h : okP v = true) : Utf8.encode (v : Int) = ⟨((encP v).map UInt8.ofNat).toArray⟩ := by
  rw [okP_iff] at h
  have hv : Utf8.valid (v : Int) = true := by
    unfold Utf8.valid
    simp only [Bool.or_eq_true, Bool.and_eq_true, decide_eq_true_eq]
    omega
  unfold Utf8.encode encP
  simp only [hv, if_true, Int.toNat_natCast]
  split
  · rfl
  · split
    · rfl
    · split <;> rfl

theorem runes_foldl : ∀ (p : List Nat) (s : ByteArray), (∀ v ∈ p, okP v = true) → (p.map fun (n : Nat) => (n : Int)).foldl (fun r n => r ++ Utf8.encode n) s = s ++ strP p
  | [], s, _ => by
    have : strP [] = ByteArray.empty := rfl
    rw [this]; simp
  | v :: p, s, h => by
    rw [List.map_cons, List.foldl_cons, runes_foldl p _ (fun x hx => h x (by simp [hx])), encode_pt (h v (by simp)), ByteArray.append_assoc]
    congr 1
    apply ByteArray.ext
    simp [strP, encS_cons]

theorem runes_strP {p : List Nat} (h : ∀ v ∈ p, okP v = true) : runesBytes (p.map fun (n : Nat) => (n : Int)) = strP p := by
  unfold runesBytes
  rw [runes_foldl p _ h]; simp

theorem Rs.str {P : Program} {N : Nat} {w : World} {a : Option Addr} {p : List Nat} (h : Rs .i32 N w a (p.map fun (n : Nat) => (n : Int))) (hok : ∀ v ∈ p, okP v = true) (src dst e : TypeId)
    (hs : P.underlying src = some (.slice e)) (he : P.underlying e = some (.int .i32)) (hd : P.underlying dst = some .string) (n cap : Nat) (hn : n = p.length) :
    (convert src dst (.slice a n cap)).run P w = .ok (.string (strP p)) w := by
  subst hn
  rcases h with h | ⟨b, o, rfl, hb, hc⟩
  · have hp : p = [] := by simpa using h
    subst hp
    cases a with
    | none => exact run_convert_runes_nil w src dst e _ _ hs he hd
    | some a =>
      have := run_convert_runes (P := P) w src dst e a 0 cap [] (by simp) hs he hd (by simp)
      exact this
  · have := run_convert_runes (P := P) w src dst e ⟨b, o, none⟩ p.length cap (p.map fun (n : Nat) => (n : Int)) (by simp) hs he hd (fun j hj => by
      have e1 : (⟨b, o, none⟩ : Addr).add j = ⟨b, o + j, none⟩ := by unfold Addr.add; split <;> simp_all
      rw [e1]
      have hj' : j < p.length := by simpa using hj
      rw [hc j ((p[j] : Nat) : Int) (by simp [hj'])]
      simp [hj'])
    rw [this]
    rw [List.take_of_length_le (by simp), runes_strP hok]
end Go.Proofs.YtfbknfdbfnklmaaDoor
