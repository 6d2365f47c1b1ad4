/- States of a clock, plainly. -/
import Derived.Test.YtfldjmjnjeemeaaFix
import Derived.Test.YtfldjmjnjeemeaaNEnc
import Derived.Stop.BytesEq
namespace Go.Proofs.Ytfldjmjnjeemeaa
open Go.RowKit

def z64 : List Nat := List.replicate 64 0
/-- The bytes of a state. -/
def stL (l : Int) (r : Nat) : List Nat := [1, 0, 0, 0, 0, 0, 0, 0] ++ (whole8 (up64 l) ++ (beL 4 r ++ List.replicate 44 0))
def wrS (l r : Int) : List Nat × Int := if r < 0 ∨ 4095 < r then (z64, 3) else (stL l r.toNat, 0)
/-- The state that bytes are. -/
def rdS (b : List Nat) : (Int × Int) × Int :=
  if b = z64 then ((-9223372036854775808, 0), 0)
  else if valL ((b.drop 16).take 4) ≤ 4095 ∧ stL (rdW ((b.drop 8).take 8)) (valL ((b.drop 16).take 4)) = b then ((rdW ((b.drop 8).take 8), (valL ((b.drop 16).take 4) : Nat)), 0)
  else ((0, 0), 52)
theorem z64_len : z64.length = 64 := by simp [z64]
theorem z64_lt : ∀ c ∈ z64, c < 256 := by intro c hc; unfold z64 at hc; rw [List.mem_replicate] at hc; omega
theorem whole8_len (m : Nat) : (whole8 m).length = 8 := rfl
theorem stL_len (l : Int) (r : Nat) : (stL l r).length = 64 := by simp [stL, whole8_len, beL_len]
theorem stL_lt (l : Int) (r : Nat) : ∀ c ∈ stL l r, c < 256 := by
  intro c hc
  unfold stL at hc
  simp only [List.mem_append, List.mem_cons, List.not_mem_nil, or_false, List.mem_replicate] at hc
  rcases hc with hc | hc | hc | hc
  · omega
  · exact whole8_lt _ _ hc
  · exact beL_lt _ _ _ hc
  · omega
theorem stL_ne (l : Int) (r : Nat) : stL l r ≠ z64 := by
  intro h
  have := congrArg (fun x => x.head?) h
  simp [stL, z64] at this
theorem stL_8 (l : Int) (r : Nat) : ((stL l r).drop 8).take 8 = whole8 (up64 l) := by
  have e : (stL l r).drop 8 = whole8 (up64 l) ++ (beL 4 r ++ List.replicate 44 0) := by unfold stL; rfl
  rw [e]; exact List.take_left' rfl
theorem stL_16 (l : Int) (r : Nat) : ((stL l r).drop 16).take 4 = beL 4 r := by
  have e : (stL l r).drop 16 = beL 4 r ++ List.replicate 44 0 := by unfold stL; rfl
  rw [e]; exact List.take_left' (beL_len _ _)
theorem rdW_whole8 (l : Int) (h1 : -9223372036854775808 ≤ l) (h2 : l ≤ 9223372036854775807) : rdW (whole8 (up64 l)) = l := by
  unfold rdW
  rw [unB_whole8 _ (by unfold up64; omega)]
  unfold up64; omega
theorem rdS_stL (l : Int) (r : Nat) (h1 : -9223372036854775808 ≤ l) (h2 : l ≤ 9223372036854775807) (hr : r ≤ 4095) : rdS (stL l r) = ((l, (r : Int)), 0) := by
  have hv : valL (beL 4 r) = r := by rw [valL_beL]; exact Nat.mod_eq_of_lt (by omega)
  unfold rdS
  rw [if_neg (stL_ne l r), stL_8, stL_16, rdW_whole8 l h1 h2, hv, if_pos ⟨hr, rfl⟩]
theorem rdW_bd {l : List Nat} (h8 : l.length = 8) (h : ∀ c ∈ l, c < 256) : -9223372036854775808 ≤ rdW l ∧ rdW l ≤ 9223372036854775807 := by
  have := (whole8_unB l h8 h).2
  unfold rdW; omega
theorem rdS_ok {b : List Nat} {l r : Int} (h : rdS b = ((l, r), 0)) (hz : b ≠ z64) : 0 ≤ r ∧ r ≤ 4095 ∧ stL l r.toNat = b := by
  unfold rdS at h
  rw [if_neg hz] at h
  split at h
  · rename_i hc
    simp only [Prod.mk.injEq, and_true] at h
    obtain ⟨rfl, rfl⟩ := h
    exact ⟨by omega, by omega, by simpa using hc.2⟩
  · simp at h
theorem rdS_err (b : List Nat) : (rdS b).2 = 0 ∨ (rdS b).2 = 52 := by
  unfold rdS; split
  · simp
  · split <;> simp
/-- The cells of bytes. -/
def byV (c : Nat) : Value := .int .u8 (c : Int)
def byL (l : List Nat) : Array Value := (l.map byV).toArray
theorem aggB_byL (l : List Nat) : aggB l = .agg (byL l) := rfl
theorem byL_size (l : List Nat) : (byL l).size = l.length := by simp [byL]
theorem byL_one (l : List Nat) : (byL l).all (·.oneCell') = true := by
  rw [Array.all_eq_true_iff_forall_mem]
  intro v hv
  simp [byL] at hv
  obtain ⟨c, _, rfl⟩ := hv; rfl
theorem byL_get (l : List Nat) (i : Nat) (h : i < l.length) : (byL l)[i]? = some (byV l[i]) := by simp [byL, h]
/-- Two arrays of bytes are compared. -/
theorem eql_byL (a b : List Nat) (ha : a.length = 64) (hb : b.length = 64) (ha2 : ∀ c ∈ a, c < 256) (hb2 : ∀ c ∈ b, c < 256) (W : World) :
    (Op.equalIn 10000 24 (.agg (byL a)) (.agg (byL b))).run Try.prog W = .ok (a == b) W := by
  have e : ∀ l : List Nat, (∀ c ∈ l, c < 256) → byL l = ((l.map UInt8.ofNat).map Go.Extern.Stop.cell).toArray := by
    intro l hl
    unfold byL
    congr 1
    rw [List.map_map]
    refine List.map_congr_left fun c hc => ?_
    have := hl c hc
    simp only [Function.comp, byV, Go.Extern.Stop.cell]
    congr 2
    rw [UInt8.toNat_ofNat']
    omega
  have hinj : ∀ {a b : List Nat}, (∀ c ∈ a, c < 256) → (∀ c ∈ b, c < 256) → a.map UInt8.ofNat = b.map UInt8.ofNat → a = b := by
    intro a b ha hb h
    have := congrArg (List.map UInt8.toNat) h
    rw [List.map_map, List.map_map] at this
    have q : ∀ l : List Nat, (∀ c ∈ l, c < 256) → l.map (UInt8.toNat ∘ UInt8.ofNat) = l := by
      intro l hl
      conv => rhs; rw [← List.map_id l]
      refine List.map_congr_left fun c hc => ?_
      have := hl c hc
      simp only [Function.comp, UInt8.toNat_ofNat', id]
      omega
    rwa [q a ha, q b hb] at this
  rw [e a ha2, e b hb2, run_equalIn_bytes W 9998 24 5 64 Try.underlying24 Try.underlying5 Try.sizeOf5 _ _ (by simpa using ha) (by simpa using hb)]
  congr 1
  by_cases h : a = b
  · subst h; simp
  · have : ¬ a.map UInt8.ofNat = b.map UInt8.ofNat := fun h' => h (hinj ha2 hb2 h')
    rw [beq_eq_false_iff_ne.2 h, beq_eq_false_iff_ne.2 this]
end Go.Proofs.Ytfldjmjnjeemeaa
