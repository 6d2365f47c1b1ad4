/- Several texts of one proof, one behind the other. -/
import Derived.Test.YtlcphgomhhejbaaNPk3
import Derived.Laws.BitsAllLaws
import Derived.WalkKit
import Derived.Laws.StructEq

/- The walk of the reference's number and value. -/
namespace Go.Proofs.Ytlcphgomhhejbaa
open Go.RowKit

/-- A call hands back bytes in a row of its own. -/
def RetOwn (w : World) (l : List Nat) (e : Ending) (w' : World) : Prop := ∃ v, e = .returned v ∧ (∀ c ∈ l, c < 256) ∧ w'.ownsRow w.heap.size 5 1 v l.length (cellsU l) ∧ Below w.heap.size w w'

set_option maxRecDepth 100000 in
set_option maxHeartbeats 2000000 in
theorem rnum_any (n s : Nat) (w : World) (hn : n ≤ 9223372036854775807) (hs : s ≤ 1000) :
    Calls Try.prog 32 #[.int .i64 (n : Int), .int .i64 (s : Int)] w (RetOwn w (beL s n)) := by
  obtain ⟨i0, hi0, hz0, hz1, hz2⟩ := info_parts Try.info5
  go_enter Try.func32, Try.ntmps32
  go_wp2
  go_loopw [0, 5, 6] (fun x v i wr => ∃ (k : Nat) (a : Option Addr) (cap : Nat), k ≤ s ∧ i = .int .i64 k ∧ x = .int .i64 ((n / 256 ^ k : Nat) : Int) ∧ v = .slice a k cap ∧ wr.ownsRow w.heap.size 5 1 (.slice a k cap) k (cellsU (beL k n)) ∧ Below w.heap.size w wr) (fun _ _ i _ => s - (intOf i).toNat)
  case atStart => exact ⟨0, none, 0, by omega, rfl, by simp, rfl, World.ownsRow_nil _ _ _ _, Below.refl _ _⟩
  case round =>
    obtain ⟨k, a, cap, hk, rfl, rfl, rfl, hown, hb⟩ := hrel
    have hN : n / 256 ^ k ≤ n := Nat.div_le_self _ _
    by_cases hlt : k < s
    · have HC : Hid (cellsU (beL (k + 1) n) = [.int .u8 (((n / 256 ^ k : Nat) : Int) % 256)] ++ cellsU (beL k n)) := by rw [beL_cons]; rfl
      have HD : Hid (n / 256 ^ (k + 1) = n / 256 ^ k / 256) := by rw [Nat.pow_succ, Nat.div_div_eq_div_mul]; rfl
      obtain ⟨_, _, e1, g1, g2, harr⟩ := own_slice hown
      simp only [Value.slice.injEq, true_and] at e1
      obtain ⟨rfl, rfl⟩ := e1
      generalize n / 256 ^ k = N at *
      have hbs := hb.size
      have hone : (wr.alloc (.cells #[.int .u8 ((N : Int) % 256)] 5)).ownsRow w.heap.size 5 1 (.slice (some ⟨wr.heap.size, 0, none⟩) 1 1) 1 [.int .u8 ((N : Int) % 256)] := World.ownsRow_lit wr #[.int .u8 ((N : Int) % 256)] 1 hbs (by unfold maxLen; omega) rfl
      have HOne := Lib.hid hone
      have HArr : Hid (Arr (wr.alloc (.cells #[.int .u8 ((N : Int) % 256)] 5)).heap.size (wr.alloc (.cells #[.int .u8 ((N : Int) % 256)] 5)) a (cellsU (beL k n))) := harr.later (N := 0) ((Below.refl _ _).alloc (Nat.le_refl _) _)
      have HB := Lib.hid hb
      have hbs2 : w.heap.size ≤ (wr.alloc (.cells #[.int .u8 ((N : Int) % 256)] 5)).heap.size := by simp; omega
      have HLB : Hid ((cellsU (beL k n)).length = k * 1) := by show _ = _; rw [cellsU_len, beL_len]
      clear hone harr hown hb
      go_wp2_with (at_builtin; refine wpList_appS rfl (.tmp 15) (.tmp 16) 27 rfl w.heap.size 5 i0 (.int .u8 0) 1 1 Try.underlying27 hi0 hz0 rfl hz1 (by omega) hz2 (by omega) (.slice (some ⟨wr.heap.size, 0, none⟩) 1 1) 1 _ _ HOne.out rfl _ a k cap (cellsU (beL k n)) HArr.out HLB.out (one_B _) rfl (by omega) hbs2 ?_; intro v' w' hown' _ hb'; obtain ⟨a', c', rfl, _, _, _⟩ := own_slice hown'; have HOwn' := Lib.hid hown'; have HB' := Lib.hid hb'; clear hown' hb')
      go_roundw
      case rel => exact ⟨k + 1, a', c', by omega, by go_num, by rw [HD.out]; rfl, by rw [Nat.add_comm], by rw [HC.out, Nat.add_comm k 1]; exact HOwn'.out, HB.out.trans ((Below.refl _ _).alloc hbs _ |>.trans HB'.out)⟩
      case measure => simp [intOf]; omega
    · have hkk : k = s := by omega
      subst hkk
      have HE : Hid (RetOwn w (beL k n) (.returned (.slice a k cap)) wr) := ⟨_, rfl, beL_lt _ _, by rw [beL_len]; exact hown, hb⟩
      clear hown hb
      go_wp2
      go_ret
      exact HE.out

set_option maxRecDepth 100000 in
set_option maxHeartbeats 2000000 in
theorem rval_any (l : List Nat) (a : Option Addr) (n cap : Nat) (w : World) (hB : Bs w.heap.size w a l) (hn : n = l.length) (hs : n ≤ 4) :
    Calls Try.prog 42 #[.slice a n cap] w fun e w' => e = .returned (.int .i64 ((valL l : Nat) : Int)) ∧ w = w' := by
  have HB := Lib.hid hB
  have HL := Lib.hid hn
  clear hB hn
  go_enter Try.func42, Try.ntmps42
  go_wp2
  go_loop [3, 4] (fun v i => ∃ k : Nat, k ≤ n ∧ i = .int .i64 k ∧ v = .int .i64 ((valL (l.take k) : Nat) : Int)) (fun _ i => n - (intOf i).toNat)
  case atStart => exact ⟨0, by omega, rfl, by simp [valL]⟩
  case round =>
    obtain ⟨k, hk, rfl, rfl⟩ := hrel
    have hv : valL (l.take k) < 256 ^ (l.take k).length := valL_lt _ (fun c hc => HB.out.1 c (List.mem_of_mem_take hc))
    have hv2 : valL (l.take k) < 4294967296 := by
      refine Nat.lt_of_lt_of_le hv ?_
      have : (l.take k).length ≤ 4 := by rw [List.length_take]; omega
      calc 256 ^ (l.take k).length ≤ 256 ^ 4 := Nat.pow_le_pow_right (by omega) this
        _ = 4294967296 := rfl
    by_cases hlt : k < n
    · have hkl : k < l.length := by have := HL.out; omega
      have hne : l ≠ [] := by intro h0; rw [h0] at hkl; simp at hkl
      obtain ⟨b, o, rfl, hbN, hc⟩ := HB.out.2.resolve_left hne
      have hck := hc k _ (List.getElem?_eq_getElem hkl)
      have hcl := HB.out.1 _ (List.getElem_mem hkl)
      have HS : Hid (valL (l.take (k + 1)) = 256 * valL (l.take k) + l[k]) := by
        rw [List.take_succ_eq_append_getElem hkl]; exact valL_snoc _ _
      generalize l[k]'hkl = c at *
      generalize valL (l.take k) = V at *
      clear hc hv
      go_wp2
      go_round
      case rel => exact ⟨k + 1, by omega, by go_num, by rw [HS.out]; go_num⟩
      case measure => simp [intOf]; omega
    · have HE : Hid (valL (l.take k) = valL l) := by rw [List.take_of_length_le (by have := HL.out; omega)]; rfl
      clear hv
      go_wp2
      go_ret
      exact ⟨by rw [← HE.out]; rfl, rfl⟩
end Go.Proofs.Ytlcphgomhhejbaa

/- Plain mathematics of layer 2: the values of SQL. -/
namespace Go.Proofs.Ytlcphgomhhejbaa

/-- A value: its kind, its integer, its text. -/
structure Vl where
  k : Nat
  n : Int
  s : ByteArray
  deriving DecidableEq

/-- A value's fields fit their types. -/
def Vl.ok (x : Vl) : Prop := x.k < 256 ∧ -9223372036854775808 ≤ x.n ∧ x.n ≤ 9223372036854775807

def Vl.right (x : Vl) : Bool :=
  if x.k = 0 then decide (x.n = 0) && decide (x.s.size = 0)
  else if x.k = 1 then decide (x.s.size = 0)
  else if x.k = 2 ∨ x.k = 3 then decide (x.n = 0)
  else false

def nullV : Vl := ⟨0, 0, ⟨#[]⟩⟩
def numV (n : Int) : Vl := ⟨1, n, ⟨#[]⟩⟩

/-- Does an int64 hold it? -/
def fits (n : Int) : Bool := decide (-9223372036854775808 ≤ n ∧ n ≤ 9223372036854775807)

def addI (x y : Int) : Int × Int := if fits (x + y) then (x + y, 0) else (0, 21)
def subI (x y : Int) : Int × Int := if fits (x - y) then (x - y, 0) else (0, 21)
def mulI (x y : Int) : Int × Int := if fits (x * y) then (x * y, 0) else (0, 21)
def divI (x y : Int) : Int × Int := if y = 0 then (0, 22) else if fits (x.tdiv y) then (x.tdiv y, 0) else (0, 21)
def modI (x y : Int) : Int × Int := if y = 0 then (0, 22) else (x.tmod y, 0)

/-- An operation on two values. -/
def arithV (op : Int → Int → Int × Int) (a b : Vl) : Vl × Int :=
  if a.right = false ∨ b.right = false then (nullV, 3)
  else if 1 < a.k ∨ 1 < b.k then (nullV, 20)
  else if a.k = 0 ∨ b.k = 0 then (nullV, 0)
  else if (op a.n b.n).2 ≠ 0 then (nullV, (op a.n b.n).2) else (numV (op a.n b.n).1, 0)

theorem fits_iff (n : Int) : fits n = true ↔ -9223372036854775808 ≤ n ∧ n ≤ 9223372036854775807 := by simp [fits]

/-- A product that wrapped doesn't give back its factor. -/
theorem mul_back (x y : Int) (hx1 : -9223372036854775808 ≤ x) (hx2 : x ≤ 9223372036854775807) (hy1 : -9223372036854775808 ≤ y) (hy2 : y ≤ 9223372036854775807) (hy : y ≠ 0)
    (hf : fits (x * y) = false) : (IntKind.i64.wrap (x * y)).tdiv y ≠ x := by
  intro h
  have hnf : ¬ (-9223372036854775808 ≤ x * y ∧ x * y ≤ 9223372036854775807) := by
    intro hh; rw [(fits_iff _).2 hh] at hf; cases hf
  have hdm := Int.tdiv_mul_add_tmod (IntKind.i64.wrap (x * y)) y
  rw [h] at hdm
  have hlt : ((IntKind.i64.wrap (x * y)).tmod y).natAbs < y.natAbs := by rw [Int.natAbs_tmod]; exact Nat.mod_lt _ (by omega)
  rw [IntKind.wrap_i64] at *
  generalize x * y = p at *
  omega

end Go.Proofs.Ytlcphgomhhejbaa

/- The walks of layer 2's small functions. -/
namespace Go.Proofs.Ytlcphgomhhejbaa
open Go.RowKit

theorem ret_b {a b : Bool} (h : a = b) : Ending.returned (.bool a) = .returned (.bool b) := by rw [h]

theorem Below.box (w : World) (o : Obj) : Below w.heap.size w (w.alloc o) := (Below.refl _ _).alloc (Nat.le_refl _) _

theorem kinds (k : Nat) : k = 0 ∨ k = 1 ∨ k = 2 ∨ k = 3 ∨ 3 < k := by omega

theorem right_big {k : Nat} (n : Int) (s : ByteArray) (hk : 3 < k) : Vl.right ⟨k, n, s⟩ = false := by
  unfold Vl.right
  rw [if_neg (by simp only; omega), if_neg (by simp only; omega), if_neg (by simp only; omega)]

end Go.Proofs.Ytlcphgomhhejbaa

/- '==' of two values of SQL. -/
namespace Go.Proofs.Ytlcphgomhhejbaa
open Go.RowKit

theorem isEmpty_size (s : ByteArray) : s.toList.isEmpty = decide (s.size = 0) := by
  have : s.toList = s.data.toList := ByteArray.toList_eq s
  rw [this]
  cases h : s.data.toList with
  | nil => simp [ByteArray.size, ← Array.length_toList, h]
  | cons x r => simp [ByteArray.size, ← Array.length_toList, h]
end Go.Proofs.Ytlcphgomhhejbaa

/- The walks of node.Right and what it calls. -/
namespace Go.Proofs.Ytlcphgomhhejbaa
open Go.RowKit

theorem noPage_any (p : Int) (w : World) : Calls Try.prog 37 #[.int .i64 p] w fun e w' => e = .returned (.bool (!okPage p)) ∧ w = w' := by
  by_cases h1 : p < 1
  · have HR : Hid ((!okPage p) = true) := by rw [show okPage p = false from decide_eq_false (by omega)]; rfl
    rw [HR.out]
    go_enter Try.func37, Try.ntmps37
    go_wp2
    go_ret
    exact ⟨rfl, rfl⟩
  · have q1 : decide (p < 1) = false := by simpa using h1
    by_cases h2 : 4096 ≤ p
    · have HR : Hid ((!okPage p) = true) := by rw [show okPage p = false from decide_eq_false (by omega)]; rfl
      rw [HR.out]
      go_enter Try.func37, Try.ntmps37
      go_wp2
      go_ret
      exact ⟨ret_b (by simp [h2]), rfl⟩
    · have HR : Hid ((!okPage p) = false) := by rw [show okPage p = true from decide_eq_true (by omega)]; rfl
      rw [HR.out]
      go_enter Try.func37, Try.ntmps37
      go_wp2
      go_ret
      exact ⟨ret_b (by simp [h2]), rfl⟩

theorem empty_list (s : ByteArray) (h : s.size = 0) : s.toList = [] := by rw [ByteArray.toList_eq, Array.size_eq_zero_iff.1 (show s.data.size = 0 from h)]
theorem empty_not (s : ByteArray) (h : ¬ s.size = 0) : ¬ s.toList = [] := fun h2 => h (by
  have := isEmpty_size s
  rw [h2] at this
  simpa using this.symm)

set_option maxHeartbeats 1000000 in
theorem isWrong_any (c : Cl) (w : World) (hd : c.data.size ≤ 140737488355328) : Calls Try.prog 35 #[.agg #[.int .i64 c.len, .string c.data, .int .i64 c.page]] w fun e w' => e = .returned (.bool (!c.ok)) ∧ Below w.heap.size w w' := by
  obtain ⟨n, s, p⟩ := c
  simp only at hd ⊢
  by_cases h1 : n < 0
  · have HR : Hid ((!Cl.ok ⟨n, s, p⟩) = true) := by rw [show Cl.ok ⟨n, s, p⟩ = false from decide_eq_false (by dsimp only; omega)]; rfl
    rw [HR.out]
    go_enter Try.func35, Try.ntmps35
    go_wp2
    go_ret
    exact ⟨rfl, Below.box _ _⟩
  · have q1 : decide (n < 0) = false := by simpa using h1
    by_cases h2 : 8192 < n
    · have HR : Hid ((!Cl.ok ⟨n, s, p⟩) = true) := by rw [show Cl.ok ⟨n, s, p⟩ = false from decide_eq_false (by dsimp only; omega)]; rfl
      rw [HR.out]
      go_enter Try.func35, Try.ntmps35
      go_wp2
      go_ret
      exact ⟨rfl, Below.box _ _⟩
    · have q2 : decide (8192 < n) = false := by simpa using h2
      by_cases h3 : n ≤ 120
      · have q3 : decide (n ≤ 120) = true := by simpa using h3
        by_cases h4 : (s.size : Int) = n
        · subst h4
          by_cases h5 : p = 0
          · subst h5
            have HR : Hid ((!Cl.ok ⟨s.size, s, 0⟩) = false) := by rw [show Cl.ok ⟨s.size, s, 0⟩ = true from decide_eq_true (by dsimp only; omega)]; rfl
            rw [HR.out]
            go_enter Try.func35, Try.ntmps35
            go_wp2
            go_ret
            exact ⟨by simp, Below.box _ _⟩
          · have HR : Hid ((!Cl.ok ⟨s.size, s, p⟩) = true) := by rw [show Cl.ok ⟨s.size, s, p⟩ = false from decide_eq_false (by dsimp only; omega)]; rfl
            have q5 : (p != 0) = true := by simpa using h5
            rw [HR.out]
            go_enter Try.func35, Try.ntmps35
            go_wp2
            go_ret
            exact ⟨by simp [h5], Below.box _ _⟩
        · have HR : Hid ((!Cl.ok ⟨n, s, p⟩) = true) := by rw [show Cl.ok ⟨n, s, p⟩ = false from decide_eq_false (by dsimp only; omega)]; rfl
          have q4 : ((s.size : Int) != n) = true := by simpa using h4
          rw [HR.out]
          go_enter Try.func35, Try.ntmps35
          go_wp2
          go_ret
          exact ⟨by simp, Below.box _ _⟩
      · have q3 : decide (n ≤ 120) = false := by simpa using h3
        have HP := Lib.hid (fun W => noPage_any p W)
        obtain ⟨r, hr⟩ : ∃ r, okPage p = r := ⟨_, rfl⟩
        rw [hr] at HP
        by_cases h4 : s.size = 0
        · have HR : Hid ((!Cl.ok ⟨n, s, p⟩) = !r) := by rw [← hr, show Cl.ok ⟨n, s, p⟩ = okPage p from decide_eq_decide.2 (by dsimp only; omega)]; rfl
          have q4 := empty_list s h4
          clear hr
          rw [HR.out]
          go_enter Try.func35, Try.ntmps35
          go_wp2_with fail
          refine (HP.out _).mono ?_
          rintro e w1 ⟨rfl, rfl⟩
          go_wp2
          go_ret
          exact ⟨by simp, Below.box _ _⟩
        · have HR : Hid ((!Cl.ok ⟨n, s, p⟩) = true) := by rw [show Cl.ok ⟨n, s, p⟩ = false from decide_eq_false (by dsimp only; omega)]; rfl
          have q4 := empty_not s h4
          have q5 : (!s.toList.isEmpty) = true := by simpa using q4
          rw [HR.out]
          clear hr HP
          go_enter Try.func35, Try.ntmps35
          go_wp2
          go_ret
          exact ⟨by simp [q4], Below.box _ _⟩
end Go.Proofs.Ytlcphgomhhejbaa
