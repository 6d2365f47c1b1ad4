/- The walks of fixed.Put and fixed.Get. -/
import Derived.Test.YtfldjmjnjeemeaaNEnc
import Derived.Test.YtfldjmjnjeemeaaFoot
import Derived.IntWalk
namespace Go.Proofs.Ytfldjmjnjeemeaa
open Go.RowKit

def byteV (c : Nat) : Value := .int .u8 (c : Int)
/-- The cells with the bytes l from a place on. -/
def putB (cs : Array Value) (at_ : Nat) (l : List Nat) : Array Value := (cs.toList.take at_ ++ (l.map byteV ++ cs.toList.drop (at_ + l.length))).toArray

theorem putB_size (cs : Array Value) (at_ : Nat) (l : List Nat) (h : at_ + l.length ≤ cs.size) : (putB cs at_ l).size = cs.size := by
  simp [putB]; omega
theorem putB_nil (cs : Array Value) (at_ : Nat) : putB cs at_ [] = cs := by
  apply Array.toList_inj.1
  simp [putB]
theorem putB_cons (cs : Array Value) (at_ : Nat) (c : Nat) (l : List Nat) (h : at_ + 1 + l.length ≤ cs.size) : (putB cs (at_ + 1) l).setIfInBounds at_ (byteV c) = putB cs at_ (c :: l) := by
  apply Array.toList_inj.1
  have h1 : at_ < cs.toList.length := by simp; omega
  have h2 : cs.toList.take (at_ + 1) = cs.toList.take at_ ++ [cs.toList[at_]] := List.take_succ_eq_append_getElem h1
  have h3 : (cs.toList.take at_).length = at_ := by rw [List.length_take]; omega
  simp only [putB, List.setIfInBounds_toArray]
  rw [h2, List.append_assoc, List.set_append_right _ _ (by omega)]
  simp only [h3, Nat.sub_self, List.cons_append, List.nil_append, List.set_cons_zero, List.map_cons, List.length_cons]
  rw [show at_ + 1 + l.length = at_ + (l.length + 1) by omega]
theorem putB_get (cs : Array Value) (at_ : Nat) (l : List Nat) (i : Nat) (h : at_ + l.length ≤ cs.size) (hi : i < at_) : (putB cs at_ l)[i]? = cs[i]? := by
  have h3 : (cs.toList.take at_).length = at_ := by rw [List.length_take]; simp; omega
  simp only [putB, List.getElem?_toArray]
  rw [List.getElem?_append_left (by omega), List.getElem?_take, if_pos hi]
  simp

theorem byteV_shr (n k : Nat) : (Value.int .u8 ((n : Int) / 2 ^ (8 * k) % 256)) = byteV (n / 256 ^ k % 256) := by
  unfold byteV
  congr 1
  have h2 : (2 : Nat) ^ (8 * k) = 256 ^ k := by rw [Nat.pow_mul]
  rw [← h2, Int.natCast_emod, Int.natCast_ediv, Int.natCast_pow]
  rfl

/-- A call that hands back nothing has laid bytes in block g. -/
def RetPut (w : World) (g : Nat) (T : TypeId) (cs : Array Value) (o s n : Nat) (e : Ending) (w' : World) : Prop :=
  e = .returned (.tuple #[]) ∧ Blk w' g T (putB cs o (beL s n)) ∧ Chg [g] w w'

set_option maxHeartbeats 1000000 in
theorem Put_any (g o s c n : Nat) (T : TypeId) (cs : Array Value) (w : World) (hB : Blk w g T cs) (ho : o + s ≤ cs.size) (hby : ∀ i, o ≤ i → i < o + s → ∃ d : Int, cs[i]? = some (.int .u8 d)) (hs : s ≤ 7) (hn : n < 9223372036854775808) :
    Calls Try.prog 40 #[.slice (some ⟨g, o, none⟩) s c, .int .i64 (n : Int)] w (RetPut w g T cs o s n) := by
  have HB := Lib.hid hB
  have HBy := Lib.hid hby
  clear hB hby
  have HP : ∀ k, k < s → Hid ((putB cs (o + (s - k)) (beL k n)).setIfInBounds (o + (s - 1 - k)) (byteV (n / 256 ^ k % 256)) = putB cs (o + (s - (k + 1))) (beL (k + 1) n)) := by
    intro k hk
    have := putB_cons cs (o + (s - 1 - k)) (n / 256 ^ k % 256) (beL k n) (by rw [beL_len]; omega)
    rw [show o + (s - 1 - k) + 1 = o + (s - k) by omega] at this
    rw [beL_cons, show o + (s - (k + 1)) = o + (s - 1 - k) by omega]
    exact this
  have HG : ∀ k, k < s → Hid (∃ d : Int, (putB cs (o + (s - k)) (beL k n))[o + (s - 1 - k)]? = some (.int .u8 d)) := by
    intro k hk
    show ∃ d : Int, _
    rw [putB_get cs _ _ _ (by rw [beL_len]; omega) (by omega)]
    exact HBy.out _ (by omega) (by omega)
  go_enter Try.func40, Try.ntmps40
  go_wp2
  go_loopw [7] (fun iv wr => ∃ k : Nat, k ≤ s ∧ iv = .int .i64 k ∧ Hid (Blk wr g T (putB cs (o + (s - k)) (beL k n))) ∧ Chg [g] w wr) (fun iv _ => s - (intOf iv).toNat)
  case atStart => exact ⟨0, by omega, rfl, by rw [show beL 0 n = [] from rfl, putB_nil]; exact HB, Chg.refl _ _⟩
  case round =>
    obtain ⟨k, hk, rfl, HBr, hb⟩ := hrel
    by_cases hlt : k < s
    · obtain ⟨d, hd⟩ := (HG k hlt).out
      have e1 := (HBr.out.cell (o + (s - 1 - k))).trans hd
      have e2 := HBr.out.frozen (o + (s - 1 - k))
      have e3 := HBr.out.lt
      have hset := HBr.out.set_ (o + (s - 1 - k)) (byteV (n / 256 ^ k % 256))
      rw [(HP k hlt).out] at hset
      have HN := Lib.hid hset
      have HC : Hid (Chg [g] w (wr.setCell ⟨g, o + (s - 1 - k), none⟩ (byteV (n / 256 ^ k % 256)))) := hb.setCell (.inl (by simp)) _
      clear hset hd HP HG
      have a1 : ((s : Int) - 1 - (k : Int)) = ((s - 1 - k : Nat) : Int) := by omega
      have hv := byteV_shr n k
      have HV := Lib.hid hv
      clear hv
      go_wp2
      go_roundw
      case rel => exact ⟨k + 1, by omega, by go_num, by rw [HV.out]; exact HN.out, by rw [HV.out]; exact HC.out⟩
      case measure => simp [intOf]; omega
    · obtain rfl : k = s := by omega
      go_wp2
      refine bodyPost_end (v := .tuple #[]) (results_none rfl _ _ _) rfl ⟨rfl, ?_, hb⟩
      have := HBr.out
      rw [Nat.sub_self, Nat.add_zero] at this
      exact this
end Go.Proofs.Ytfldjmjnjeemeaa
