/- Several texts of one proof, one behind the other. -/
import Derived.Test.YtialpfdhdcjpaaaSPk12
set_option linter.unusedSimpArgs false
set_option linter.unusedVariables false

/- The walk of the law CellTotal. -/
set_option linter.unusedSimpArgs false
set_option linter.unusedVariables false
set_option maxRecDepth 100000
namespace Go.Proofs.Ytialpfdhdcjpaaa
open Go.RowKit

end Go.Proofs.Ytialpfdhdcjpaaa

/- The walks of the reference's Order and Compare. -/
set_option linter.unusedSimpArgs false
set_option linter.unusedVariables false
set_option maxRecDepth 100000
namespace Go.Proofs.Ytialpfdhdcjpaaa
open Go.RowKit

end Go.Proofs.Ytialpfdhdcjpaaa

/- The walks of record.Order and the reference's Order of rows. -/
set_option linter.unusedSimpArgs false
set_option linter.unusedVariables false
set_option maxRecDepth 100000
namespace Go.Proofs.Ytialpfdhdcjpaaa
open Go.RowKit

/-- The order of two rows. -/
def lexO : List Vl → List Vl → Int
  | [], [] => 0
  | [], _ :: _ => -1
  | _ :: _, [] => 1
  | x :: l, y :: m => if orderV x y = 0 then lexO l m else orderV x y

theorem orderV_bd (x y : Vl) : -1 ≤ orderV x y ∧ orderV x y ≤ 1 := by
  unfold orderV cmpI cmpS
  repeat' split
  all_goals omega

theorem orderFn_any (x y : Vl) (w : World) : Calls Try.prog 62 #[.agg #[.int .u8 x.k, .int .i64 x.n, .string x.s], .agg #[.int .u8 y.k, .int .i64 y.n, .string y.s]] w (RetI w (orderV x y)) := by
  have HC := Lib.hid (fun W => Order_any x y W)
  obtain ⟨k1, n1, s1⟩ := x
  obtain ⟨k2, n2, s2⟩ := y
  obtain ⟨v, hv⟩ : ∃ v, orderV ⟨k1, n1, s1⟩ ⟨k2, n2, s2⟩ = v := ⟨_, rfl⟩
  rw [hv] at HC ⊢
  clear hv
  simp only at HC
  go_enter Try.func62, Try.ntmps62
  go_wp2_with fail
  refine (HC.out _).mono ?_
  rintro e w1 ⟨rfl, hb⟩
  obtain ⟨S3, S4, hz⟩ := slots2 _ _ _ _ _ _ _ _ _ hb
  have hw : Below w.heap.size w w1 := Below.trans (((Below.refl _ _).alloc (Nat.le_refl _) _).alloc (by simp) _) (Below.mono hb (by simp <;> omega))
  clear hb
  clear HC
  go_wp2
  go_ret
  exact ⟨rfl, hw⟩

theorem lexO_drop {l m : List Vl} {k : Nat} (hk : k < l.length) (hm : k < m.length) : lexO (l.drop k) (m.drop k) = if orderV l[k] m[k] = 0 then lexO (l.drop (k + 1)) (m.drop (k + 1)) else orderV l[k] m[k] := by
  rw [List.drop_eq_getElem_cons hk, List.drop_eq_getElem_cons hm, lexO]

set_option maxHeartbeats 2000000 in
theorem compareFunc_any (l m : List Vl) (a : Option Addr) (len cap : Nat) (a' : Option Addr) (len' cap' : Nat) (w : World) (hV : Vs w.heap.size w a l) (hlen : len = l.length) (hV' : Vs w.heap.size w a' m) (hlen' : len' = m.length)
    (hmax : len ≤ 140737488355328) (hmax' : len' ≤ 140737488355328) :
    Calls Try.prog 61 #[.slice a len cap, .slice a' len' cap', .func (.func 62) #[] #[]] w (RetI w (lexO l m)) := by
  have HV := Lib.hid hV
  have HV' := Lib.hid hV'
  have HL := Lib.hid hlen
  have HL' := Lib.hid hlen'
  clear hV hV' hlen hlen'
  go_enter Try.func61, Try.ntmps61
  go_wp2
  go_loopw [13] (fun i wr => ∃ k : Nat, k ≤ len ∧ k ≤ len' ∧ i = .int .i64 k ∧ Hid (lexO l m = lexO (l.drop k) (m.drop k)) ∧ Below w.heap.size w wr) (fun i _ => len - (intOf i).toNat)
  case atStart => exact ⟨0, by omega, by omega, rfl, by simp [Hid], Below.refl _ _⟩
  case round =>
    obtain ⟨k, hk, hk', rfl, HI, hb⟩ := hrel
    have hsz := hb.size
    by_cases hlt : k < len
    · have hkl : k < l.length := by have := HL.out; omega
      obtain ⟨b, o, rfl, hbN, hc⟩ := HV.out.at_ hkl
      obtain ⟨d0, d1, d2⟩ := hc.below hb hbN
      by_cases hlt' : k < len'
      · have hkm : k < m.length := by have := HL'.out; omega
        obtain ⟨b', o', rfl, hbN', hc'⟩ := HV'.out.at_ hkm
        obtain ⟨x, hx⟩ : ∃ x, x = l[k] := ⟨_, rfl⟩
        obtain ⟨y, hy⟩ : ∃ y, y = m[k] := ⟨_, rfl⟩
        have HD := Lib.hid (lexO_drop hkl hkm)
        rw [← hx] at d0 d1 d2 HD
        rw [← hy] at HD
        have HO := Lib.hid (fun W => orderFn_any x y W)
        have hbd := orderV_bd x y
        obtain ⟨v, hv⟩ : ∃ v, orderV x y = v := ⟨_, rfl⟩
        rw [hv] at HO HD hbd
        obtain ⟨e0, e1, e2⟩ := (hc'.below hb hbN').below (Below.box wr (.cells #[.int .u8 x.k, .int .i64 x.n, .string x.s] 52)) (by omega)
        rw [← hy] at e0 e1 e2
        clear hc hc' hx hy hv
        have hge : ¬ len' ≤ k := by omega
        go_wp2_with fail
        refine (HO.out _).mono ?_
        rintro e w1 ⟨rfl, hb1⟩
        have hb2 : Below w.heap.size w w1 := hb.trans ((((Below.refl _ _).alloc (Nat.le_refl _) _).alloc (by simp) _).trans (Below.mono hb1 (by simp; omega)) |>.mono hsz)
        clear HO hb1
        by_cases hv0 : v = 0
        · subst hv0
          have HE : Hid (lexO l m = lexO (l.drop (k + 1)) (m.drop (k + 1))) := by
            rw [HI.out, HD.out]; exact if_pos rfl
          go_wp2
          go_roundw
          case rel => exact ⟨k + 1, by omega, by omega, by go_num, HE, hb2⟩
          case measure => simp [intOf]; omega
        · have HE : Hid (lexO l m = v) := by
            rw [HI.out, HD.out]; exact if_neg hv0
          have q0 : (v != 0) = true := by simp [hv0]
          go_wp2
          go_ret
          exact ⟨by rw [HE.out]; rfl, hb2⟩
      · have HE : Hid (lexO l m = 1) := by
          rw [HI.out, List.drop_eq_getElem_cons hkl, List.drop_of_length_le (show m.length ≤ k by have := HL'.out; omega)]; rfl
        have hge : len' ≤ k := by omega
        obtain ⟨x, hx⟩ : ∃ x, x = l[k] := ⟨_, rfl⟩
        rw [← hx] at d0 d1 d2
        clear hc hx
        go_wp2
        go_ret
        exact ⟨by rw [HE.out]; rfl, hb.alloc (by omega) _⟩
    · have hkl : l.drop k = [] := List.drop_of_length_le (by have := HL.out; omega)
      by_cases hlt' : len < len'
      · have hkm : k < m.length := by have := HL'.out; omega
        have HE : Hid (lexO l m = -1) := by
          rw [HI.out, hkl, List.drop_eq_getElem_cons hkm]; rfl
        clear hkl
        go_wp2
        go_ret
        exact ⟨by rw [HE.out]; rfl, hb⟩
      · have HE : Hid (lexO l m = 0) := by
          rw [HI.out, hkl, List.drop_of_length_le (show m.length ≤ k by have := HL'.out; omega)]; rfl
        clear hkl
        go_wp2
        go_ret
        exact ⟨by rw [HE.out]; rfl, hb⟩

theorem ROrder_any (l m : List Vl) (a : Option Addr) (len cap : Nat) (a' : Option Addr) (len' cap' : Nat) (w : World) (hV : Vs w.heap.size w a l) (hlen : len = l.length) (hV' : Vs w.heap.size w a' m) (hlen' : len' = m.length)
    (hmax : len ≤ 140737488355328) (hmax' : len' ≤ 140737488355328) :
    Calls Try.prog 29 #[.slice a len cap, .slice a' len' cap'] w (RetI w (lexO l m)) := by
  have HC := Lib.hid (compareFunc_any l m a len cap a' len' cap' w hV hlen hV' hlen' hmax hmax')
  clear hV hV' hlen hlen'
  obtain ⟨r, hr⟩ : ∃ r, lexO l m = r := ⟨_, rfl⟩
  rw [hr] at HC ⊢
  clear hr
  go_enter Try.func29, Try.ntmps29
  go_wp2_with fail
  refine HC.out.mono ?_
  rintro e w1 ⟨rfl, hb⟩
  clear HC
  go_wp2
  go_ret
  exact ⟨rfl, hb⟩

end Go.Proofs.Ytialpfdhdcjpaaa

/- Plain mathematics of layer 4: keys stand as their tuples do; what lies behind all that begin with some bytes. -/
set_option linter.unusedSimpArgs false
set_option linter.unusedVariables false
set_option maxRecDepth 100000
namespace Go.Proofs.Ytialpfdhdcjpaaa
open Go.RowKit


theorem lt_cons {a b : Nat} {l m : List Nat} : (a :: l < b :: m) ↔ (a < b ∨ (a = b ∧ l < m)) := List.cons_lt_cons_iff

theorem app_lt : ∀ (p : List Nat) {l m : List Nat}, (p ++ l < p ++ m) ↔ l < m
  | [], l, m => by simp
  | c :: p, l, m => by
    rw [List.cons_append, List.cons_append, lt_cons, app_lt p]
    constructor
    · rintro (h | ⟨_, h⟩)
      · omega
      · exact h
    · exact fun h => .inr ⟨rfl, h⟩

theorem nil_lt {l : List Nat} (h : l ≠ []) : ([] : List Nat) < l := by
  cases l with
  | nil => exact absurd rfl h
  | cons c r => exact List.nil_lt_cons c r

/-- Two marked strings, with their ends. -/
theorem esc_lt (A B : List Nat) : ∀ (s t : List Nat), (escL s ++ (0 :: 1 :: A) < escL t ++ (0 :: 1 :: B)) ↔ (s < t ∨ (s = t ∧ A < B))
  | [], [] => by
    rw [show escL [] = [] from rfl, List.nil_append, List.nil_append, lt_cons, lt_cons]
    simp
  | [], d :: t => by
    have hl : ([] : List Nat) < d :: t := nil_lt (by simp)
    have : ([] : List Nat) ≠ d :: t := by simp
    simp only [hl, this, true_or, iff_true]
    by_cases hd : d = 0
    · subst hd
      rw [escL_cons0, show escL [] = [] from rfl, List.nil_append, List.cons_append, List.cons_append, lt_cons, lt_cons]
      omega
    · rw [escL_cons hd, show escL [] = [] from rfl, List.nil_append, List.cons_append, lt_cons]
      omega
  | c :: s, [] => by
    have hl : ¬ (c :: s < []) := List.not_lt_nil _
    have : c :: s ≠ [] := by simp
    simp only [hl, this, false_or, false_and, iff_false]
    by_cases hc : c = 0
    · subst hc
      rw [escL_cons0, show escL [] = [] from rfl, List.nil_append, List.cons_append, List.cons_append, lt_cons, lt_cons]
      omega
    · rw [escL_cons hc, show escL [] = [] from rfl, List.nil_append, List.cons_append, lt_cons]
      omega
  | c :: s, d :: t => by
    have ih := esc_lt A B s t
    rw [lt_cons]
    simp only [List.cons.injEq]
    by_cases hc : c = 0 <;> by_cases hd : d = 0
    · subst hc hd
      rw [escL_cons0, escL_cons0]
      simp only [List.cons_append, lt_cons, ih]
      simp
    · subst hc
      rw [escL_cons0, escL_cons hd]
      simp only [List.cons_append, lt_cons]
      constructor
      · rintro (h | ⟨h, _⟩)
        · exact .inl (.inl h)
        · omega
      · rintro ((h | ⟨h, _⟩) | ⟨⟨h, _⟩, _⟩)
        · exact .inl h
        · omega
        · omega
    · subst hd
      rw [escL_cons0, escL_cons hc]
      simp only [List.cons_append, lt_cons]
      constructor
      · rintro (h | ⟨h, _⟩) <;> omega
      · rintro ((h | ⟨h, _⟩) | ⟨⟨h, _⟩, _⟩) <;> omega
    · rw [escL_cons hc, escL_cons hd]
      simp only [List.cons_append, lt_cons, ih]
      constructor
      · rintro (h | ⟨h, h2 | ⟨h2, h3⟩⟩)
        · exact .inl (.inl h)
        · exact .inl (.inr ⟨h, h2⟩)
        · exact .inr ⟨⟨h, h2⟩, h3⟩
      · rintro ((h | ⟨h, h2⟩) | ⟨⟨h, h2⟩, h3⟩)
        · exact .inl h
        · exact .inr ⟨h, .inl h2⟩
        · exact .inr ⟨h, .inr ⟨h2, h3⟩⟩

theorem dig_step (q m n : Nat) (hq : 0 < q) (hm : m < 256 * q) (hn : n < 256 * q) (X Y : List Nat) (P : Prop) (h : (X < Y) ↔ (m % q < n % q ∨ (m % q = n % q ∧ P))) :
    ((m / q % 256) :: X < (n / q % 256) :: Y) ↔ (m < n ∨ (m = n ∧ P)) := by
  have h1 : m / q < 256 := by rw [Nat.div_lt_iff_lt_mul hq]; exact hm
  have h2 : n / q < 256 := by rw [Nat.div_lt_iff_lt_mul hq]; exact hn
  rw [Nat.mod_eq_of_lt h1, Nat.mod_eq_of_lt h2, lt_cons, h]
  have e1 := Nat.div_add_mod m q
  have e2 := Nat.div_add_mod n q
  have l1 := Nat.mod_lt m hq
  have l2 := Nat.mod_lt n hq
  rcases Nat.lt_trichotomy (m / q) (n / q) with hlt | heq | hgt
  · have hmn : m < n := Nat.lt_of_not_le fun hle => by have := Nat.div_le_div_right (c := q) hle; omega
    constructor
    · exact fun _ => .inl hmn
    · exact fun _ => .inl hlt
  · rw [heq] at e1
    generalize q * (n / q) = z at e1 e2
    constructor
    · rintro (h | ⟨_, h | ⟨h, hp⟩⟩)
      · omega
      · left; omega
      · right; exact ⟨by omega, hp⟩
    · rintro (h | ⟨h, hp⟩)
      · exact .inr ⟨heq, .inl (by omega)⟩
      · exact .inr ⟨heq, .inr ⟨by omega, hp⟩⟩
  · have hmn : n < m := Nat.lt_of_not_le fun hle => by have := Nat.div_le_div_right (c := q) hle; omega
    constructor
    · rintro (h | ⟨h, _⟩) <;> omega
    · rintro (h | ⟨h, _⟩) <;> omega

theorem whole8_chain (m : Nat) (A : List Nat) : whole8 m ++ A = (m / 72057594037927936 % 256) :: (m % 72057594037927936 / 281474976710656 % 256) :: (m % 72057594037927936 % 281474976710656 / 1099511627776 % 256) ::
    (m % 72057594037927936 % 281474976710656 % 1099511627776 / 4294967296 % 256) :: (m % 72057594037927936 % 281474976710656 % 1099511627776 % 4294967296 / 16777216 % 256) ::
    (m % 72057594037927936 % 281474976710656 % 1099511627776 % 4294967296 % 16777216 / 65536 % 256) :: (m % 72057594037927936 % 281474976710656 % 1099511627776 % 4294967296 % 16777216 % 65536 / 256 % 256) ::
    (m % 72057594037927936 % 281474976710656 % 1099511627776 % 4294967296 % 16777216 % 65536 % 256) :: A := by
  simp only [whole8, List.cons_append, List.nil_append, List.cons.injEq, and_true, true_and]
  omega

theorem whole8_lt_iff (m n : Nat) (hm : m < 18446744073709551616) (hn : n < 18446744073709551616) (A B : List Nat) : (whole8 m ++ A < whole8 n ++ B) ↔ (m < n ∨ (m = n ∧ A < B)) := by
  rw [whole8_chain, whole8_chain]
  refine dig_step 72057594037927936 m n (by omega) (by omega) (by omega) _ _ _ ?_
  have h1 : m % 72057594037927936 < 72057594037927936 := Nat.mod_lt _ (by omega)
  have h2 : n % 72057594037927936 < 72057594037927936 := Nat.mod_lt _ (by omega)
  generalize m % 72057594037927936 = m at *
  generalize n % 72057594037927936 = n at *
  refine dig_step 281474976710656 m n (by omega) (by omega) (by omega) _ _ _ ?_
  have h1 : m % 281474976710656 < 281474976710656 := Nat.mod_lt _ (by omega)
  have h2 : n % 281474976710656 < 281474976710656 := Nat.mod_lt _ (by omega)
  generalize m % 281474976710656 = m at *
  generalize n % 281474976710656 = n at *
  refine dig_step 1099511627776 m n (by omega) (by omega) (by omega) _ _ _ ?_
  have h1 : m % 1099511627776 < 1099511627776 := Nat.mod_lt _ (by omega)
  have h2 : n % 1099511627776 < 1099511627776 := Nat.mod_lt _ (by omega)
  generalize m % 1099511627776 = m at *
  generalize n % 1099511627776 = n at *
  refine dig_step 4294967296 m n (by omega) (by omega) (by omega) _ _ _ ?_
  have h1 : m % 4294967296 < 4294967296 := Nat.mod_lt _ (by omega)
  have h2 : n % 4294967296 < 4294967296 := Nat.mod_lt _ (by omega)
  generalize m % 4294967296 = m at *
  generalize n % 4294967296 = n at *
  refine dig_step 16777216 m n (by omega) (by omega) (by omega) _ _ _ ?_
  have h1 : m % 16777216 < 16777216 := Nat.mod_lt _ (by omega)
  have h2 : n % 16777216 < 16777216 := Nat.mod_lt _ (by omega)
  generalize m % 16777216 = m at *
  generalize n % 16777216 = n at *
  refine dig_step 65536 m n (by omega) (by omega) (by omega) _ _ _ ?_
  have h1 : m % 65536 < 65536 := Nat.mod_lt _ (by omega)
  have h2 : n % 65536 < 65536 := Nat.mod_lt _ (by omega)
  generalize m % 65536 = m at *
  generalize n % 65536 = n at *
  refine dig_step 256 m n (by omega) (by omega) (by omega) _ _ _ ?_
  exact lt_cons

theorem bytes_lt_iff (s t : ByteArray) : s.toList < t.toList ↔ bytesOf s < bytesOf t := by
  have e : ∀ (a b : List UInt8), a < b ↔ a.map UInt8.toNat < b.map UInt8.toNat := by
    intro a
    induction a with
    | nil =>
      intro b
      cases b with
      | nil => simp
      | cons y b => simp
    | cons x a ih =>
      intro b
      cases b with
      | nil => simp
      | cons y b =>
        rw [List.map_cons, List.map_cons, List.cons_lt_cons_iff, List.cons_lt_cons_iff, ih b, UInt8.lt_iff_toNat_lt]
        constructor
        · rintro (h | ⟨rfl, h⟩)
          · exact .inl h
          · exact .inr ⟨rfl, h⟩
        · rintro (h | ⟨h1, h⟩)
          · exact .inl h
          · exact .inr ⟨UInt8.toNat_inj.1 h1, h⟩
  unfold bytesOf
  rw [ByteArray.toList_eq s, ByteArray.toList_eq t]
  exact e _ _

theorem encK_lt_iff (x y : Vl) (A B : List Nat) (hx : x.right = true) (hy : y.right = true) (fx : x.fair) (fy : y.fair) : (encK x ++ A < encK y ++ B) ↔ (ltV x y ∨ (x = y ∧ A < B)) := by
  obtain ⟨k, n, s⟩ := x
  obtain ⟨k', n', s'⟩ := y
  have b1 := fx.2.1
  have b2 := fy.2.1
  simp only at b1 b2
  unfold ltV
  simp only [Vl.mk.injEq]
  have head : ∀ (z : Vl), z.right = true → ∃ r, encK z = (16 + z.k) :: r := by
    intro z hz
    rcases right_kind hz with h | h | ⟨hk, h⟩
    · rw [h]; exact ⟨[], rfl⟩
    · rw [h]; exact ⟨_, rfl⟩
    · unfold encK; rw [if_neg (by omega), if_neg (by omega)]; exact ⟨_, rfl⟩
  by_cases hk : k = k'
  · subst hk
    simp only [Nat.lt_irrefl, false_or, true_and]
    rcases right_kind hx with h | h | ⟨hkx, h⟩
    · simp only [Vl.mk.injEq] at h
      obtain ⟨rfl, rfl, rfl⟩ := h
      obtain ⟨rfl, rfl⟩ := right_null hy
      rw [app_lt]
      simp
    · simp only [Vl.mk.injEq] at h
      obtain ⟨rfl, -, rfl⟩ := h
      obtain rfl := right_num hy
      have e : ∀ m, encK ⟨1, m, ⟨#[]⟩⟩ = 17 :: whole8 (up64 m) := fun m => rfl
      rw [e, e, List.cons_append, List.cons_append, lt_cons, whole8_lt_iff _ _ (by unfold up64; omega) (by unfold up64; omega)]
      unfold up64
      by_cases hab : A < B
      · simp only [hab, and_true]
        have : ¬ ((⟨#[]⟩ : ByteArray).toList < (⟨#[]⟩ : ByteArray).toList) := List.lt_irrefl _
        simp only [this, and_false, or_false, and_true, eq_self, true_and]
        omega
      · simp only [hab, and_false, or_false]
        have : ¬ ((⟨#[]⟩ : ByteArray).toList < (⟨#[]⟩ : ByteArray).toList) := List.lt_irrefl _
        simp only [this, and_false, or_false, and_true, eq_self, true_and]
        omega
    · simp only [Vl.mk.injEq] at h
      obtain ⟨-, rfl, -⟩ := h
      simp only at hkx
      have hn' : n' = 0 := by
        rcases right_kind hy with h | h | ⟨_, h⟩
        · simp only [Vl.mk.injEq] at h; exact h.2.1
        · simp only [Vl.mk.injEq] at h; omega
        · simp only [Vl.mk.injEq] at h; exact h.2.1
      subst hn'
      have e : ∀ t, encK ⟨k, 0, t⟩ = (16 + k) :: (escL (bytesOf t) ++ [0, 1]) := fun t => by unfold encK; rw [if_neg (by simp only; omega), if_neg (by simp only; omega)]
      rw [e, e, List.cons_append, List.cons_append, lt_cons]
      have e2 : ∀ (t : ByteArray) (C : List Nat), escL (bytesOf t) ++ [0, 1] ++ C = escL (bytesOf t) ++ (0 :: 1 :: C) := fun t C => by simp
      rw [e2, e2, esc_lt, ← bytes_lt_iff]
      have e3 : bytesOf s = bytesOf s' ↔ s = s' := ⟨fun h => by rw [← strN_bytesOf s, h, strN_bytesOf], fun h => by rw [h]⟩
      rw [e3]
      simp
  · obtain ⟨r, hr⟩ := head ⟨k, n, s⟩ hx
    obtain ⟨r', hr'⟩ := head ⟨k', n', s'⟩ hy
    rw [hr, hr', List.cons_append, List.cons_append, lt_cons]
    simp only [hk, false_and, or_false]
    omega

open Classical in
theorem keyL_order : ∀ (a b : List Vl), (∀ x ∈ a, x.right = true) → (∀ x ∈ b, x.right = true) → (∀ x ∈ a, x.fair) → (∀ x ∈ b, x.fair) → (keyL a < keyL b ↔ lexO a b < 0)
  | [], [], _, _, _, _ => by simp [keyL, lexO]
  | [], y :: m, _, _, _, _ => by
    have hne : keyL (y :: m) ≠ [] := by
      rw [keyL_cons]; intro h
      have := congrArg List.length h
      have := encK_pos y
      rw [List.length_append] at *; simp only [List.length_nil] at *; omega
    have h1 : keyL [] < keyL (y :: m) := nil_lt hne
    simp [h1, lexO]
  | x :: l, [], _, _, _, _ => by
    have h1 : ¬ (keyL (x :: l) < keyL []) := List.not_lt_nil _
    simp [h1, lexO]
  | x :: l, y :: m, hx, hy, fx, fy => by
    have r1 := hx x (by simp)
    have r2 := hy y (by simp)
    have ih := keyL_order l m (fun z hz => hx z (by simp [hz])) (fun z hz => hy z (by simp [hz])) (fun z hz => fx z (by simp [hz])) (fun z hz => fy z (by simp [hz]))
    rw [keyL_cons, keyL_cons, encK_lt_iff x y _ _ r1 r2 (fx x (by simp)) (fy y (by simp)), lexO, orderV_lt x y r1 r2]
    by_cases hxy : x = y
    · subst hxy
      have := ltV_irrefl x
      simp only [this, if_pos, true_and, false_or]
      exact ih
    · by_cases hlt : ltV x y
      · simp only [hxy, if_false, hlt, if_true]
        simp
      · simp only [hxy, if_false, hlt]
        simp

theorem keyL_inj (a b : List Vl) (ha : ∀ x ∈ a, x.right = true) (hb : ∀ x ∈ b, x.right = true) (fa : ∀ x ∈ a, x.fair) (fb : ∀ x ∈ b, x.fair) (h16 : a.length ≤ 16) (h16' : b.length ≤ 16) (h : keyL a = keyL b) : a = b := by
  have h1 := tup_enc a [] (keyL a).length ha fa (by simpa using h16) (Nat.le_refl _)
  have h2 := tup_enc b [] (keyL a).length hb fb (by simpa using h16') (by rw [h]; exact Nat.le_refl _)
  rw [h] at h1 h2
  rw [h1] at h2
  simpa using h2

/-! What lies behind all that begin with some bytes. -/
def nextV : List Nat → List Nat × Bool
  | [] => ([], false)
  | c :: r => if (nextV r).2 = true then (c :: (nextV r).1, true) else if c = 255 then ([], false) else ([c + 1], true)

theorem nextV_none : ∀ {l : List Nat}, (∀ c ∈ l, c = 255) → nextV l = ([], false)
  | [], _ => rfl
  | c :: r, h => by
    rw [nextV, nextV_none (fun d hd => h d (by simp [hd])), if_neg (by simp), if_pos (h c (by simp))]

theorem nextV_some : ∀ {a b : List Nat} {c : Nat}, (∀ d ∈ b, d = 255) → c ≠ 255 → nextV (a ++ c :: b) = (a ++ [c + 1], true)
  | [], b, c, hb, hc => by
    rw [List.nil_append, nextV, nextV_none hb, if_neg (by simp), if_neg hc]; rfl
  | x :: a, b, c, hb, hc => by
    rw [List.cons_append, nextV, nextV_some (a := a) hb hc, if_pos rfl]; rfl

/-- Every list of bytes is of one of the two forms. -/
theorem next_forms (l : List Nat) : (∀ c ∈ l, c = 255) ∨ ∃ a c b, l = a ++ c :: b ∧ (∀ d ∈ b, d = 255) ∧ c ≠ 255 := by
  induction l with
  | nil => left; simp
  | cons x l ih =>
    rcases ih with h | ⟨a, c, b, h1, h2, h3⟩
    · by_cases hx : x = 255
      · left; intro c hc; rcases List.mem_cons.1 hc with rfl | hc
        · exact hx
        · exact h c hc
      · right; exact ⟨[], x, l, rfl, h, hx⟩
    · right; exact ⟨x :: a, c, b, by rw [h1]; rfl, h2, h3⟩

theorem prefix_iff : ∀ (y b : List Nat), (∀ c ∈ b, c < 256) → (∀ c ∈ y, c = 255) → (¬ b < y ↔ y <+: b)
  | [], b, _, _ => by simp
  | c :: y, [], _, _ => by
    have : ([] : List Nat) < c :: y := nil_lt (by simp)
    simp [this]
  | c :: y, d :: b, hb, hy => by
    have hc := hy c (by simp)
    have hd := hb d (by simp)
    have ih := prefix_iff y b (fun e he => hb e (by simp [he])) (fun e he => hy e (by simp [he]))
    rw [lt_cons, List.cons_prefix_cons]
    constructor
    · intro h
      have hdc : d = c := by
        by_cases hdc : d < c
        · exact absurd (.inl hdc) h
        · omega
      exact ⟨hdc.symm, ih.1 (fun hl => h (.inr ⟨hdc, hl⟩))⟩
    · rintro ⟨h1, h2⟩ (h3 | ⟨h3, h4⟩)
      · omega
      · exact (ih.2 h2) h4

theorem inside_iff : ∀ (a : List Nat) (c : Nat) (e : List Nat) (b : List Nat), (∀ d ∈ b, d < 256) → (∀ d ∈ e, d = 255) → ((¬ b < a ++ c :: e ∧ b < a ++ [c + 1]) ↔ a ++ c :: e <+: b)
  | [], c, e, [], _, _ => by
    have : ([] : List Nat) < c :: e := nil_lt (by simp)
    simp [this]
  | [], c, e, d :: b, hb, he => by
    have ih := prefix_iff e b (fun x hx => hb x (by simp [hx])) he
    rw [List.nil_append, List.nil_append, lt_cons, lt_cons, List.cons_prefix_cons]
    have hn : ¬ b < ([] : List Nat) := List.not_lt_nil _
    constructor
    · rintro ⟨h1, h2 | ⟨_, h2⟩⟩
      · have hdc : d = c := by
          by_cases hdc : d < c
          · exact absurd (.inl hdc) h1
          · omega
        exact ⟨hdc.symm, ih.1 (fun hl => h1 (.inr ⟨hdc, hl⟩))⟩
      · exact absurd h2 hn
    · rintro ⟨rfl, h2⟩
      refine ⟨?_, .inl (by omega)⟩
      rintro (h | ⟨_, h⟩)
      · omega
      · exact (ih.2 h2) h
  | x :: a, c, e, [], _, _ => by
    have : ([] : List Nat) < x :: (a ++ c :: e) := nil_lt (by simp)
    simp [this]
  | x :: a, c, e, d :: b, hb, he => by
    have ih := inside_iff a c e b (fun y hy => hb y (by simp [hy])) he
    rw [List.cons_append, List.cons_append, lt_cons, lt_cons, List.cons_prefix_cons, ← ih]
    constructor
    · rintro ⟨h1, h2 | ⟨h2, h3⟩⟩
      · exact absurd (.inl h2) h1
      · exact ⟨h2.symm, fun hl => h1 (.inr ⟨h2, hl⟩), h3⟩
    · rintro ⟨rfl, h1, h2⟩
      refine ⟨?_, .inr ⟨rfl, h2⟩⟩
      rintro (h | ⟨_, h⟩)
      · omega
      · exact h1 h
end Go.Proofs.Ytialpfdhdcjpaaa

/- The walks of bytes.Equal, bytes.HasPrefix and key.Begins. -/
set_option linter.unusedSimpArgs false
set_option linter.unusedVariables false
set_option maxRecDepth 100000
namespace Go.Proofs.Ytialpfdhdcjpaaa
open Go.RowKit

theorem strN_inj {l m : List Nat} (hl : ∀ c ∈ l, c < 256) (hm : ∀ c ∈ m, c < 256) : (strN l = strN m) ↔ l = m :=
  ⟨fun h => by rw [← bytesOf_strN l hl, h, bytesOf_strN m hm], fun h => by rw [h]⟩

/-- 'b[:m]'. -/
theorem Bs.upTo {P : Program} {N : Nat} {w : World} {a : Option Addr} {l : List Nat} (h : Bs N w a l) (t e : TypeId) (ht : P.underlying t = some (.slice e)) (hz : ∀ w, (Go.sizeOf e).run P w = .ok 1 w)
    (len cap m : Nat) (hlen : len = l.length) (hm : m ≤ len) (hcap : len ≤ cap) :
    ∃ a', Bs N w a' (l.take m) ∧ ∀ W, (Instr.slice t (.slice a len cap) none (some (.int .i64 (m : Int))) none).run P W = .ok (.slice a' m cap) W := by
  subst hlen
  have ht' : P.underlying t = some (.slice (P.elem t)) := by simp [Program.elem, ht]
  have hee : P.elem t = e := by simp [Program.elem, ht]
  refine ⟨if cap = 0 then a else a.map (·.add (0 * 1)), ?_, fun W => ?_⟩
  · obtain ⟨h1, h2⟩ := h
    refine ⟨fun c hc => h1 c (List.mem_of_mem_take hc), ?_⟩
    rcases h2 with h2 | ⟨b, o, ha, hN, hc⟩
    · exact .inl (by simp [h2])
    · right
      refine ⟨b, o, ?_, hN, fun i c hi => ?_⟩
      · rw [ha]; split <;> simp [Addr.add]
      · rw [List.getElem?_take] at hi
        split at hi
        · exact hc _ _ hi
        · simp at hi
  · have := run_slice_h (P := P) W t a l.length cap ht' .i64 (m : Int) (by omega) (by omega)
    rw [this, hee, hz W]
    simp [Result.andThen, sliced]

theorem Equal_any (l m : List Nat) (a b : Option Addr) (n1 c1 n2 c2 : Nat) (w : World) (hA : Bs w.heap.size w a l) (hB : Bs w.heap.size w b m) (h1 : n1 = l.length) (h2 : n2 = m.length) :
    Calls Try.prog 77 #[.slice a n1 c1, .slice b n2 c2] w fun e w' => e = .returned (.bool (decide (l = m))) ∧ Below w.heap.size w w' := by
  have s1 := hA.str n1 c1 h1
  have s2 := hB.str n2 c2 h2
  have q : ((strN l).toList == (strN m).toList) = decide (l = m) := by
    rw [Bool.eq_iff_iff, beq_iff_eq, decide_eq_true_iff]
    exact ⟨fun h => (strN_inj hA.1 hB.1).1 (toList_inj h), fun h => by rw [h]⟩
  clear h1 h2
  clear hA hB
  go_enter Try.func77, Try.ntmps77
  go_wp2
  go_ret
  exact ⟨rfl, Below.refl _ _⟩

end Go.Proofs.Ytialpfdhdcjpaaa

/- The walks of schema.encoded. -/
set_option linter.unusedSimpArgs false
set_option linter.unusedVariables false
set_option maxRecDepth 100000
namespace Go.Proofs.Ytialpfdhdcjpaaa
open Go.RowKit

/-- What encoded answers: the value if its bytes are these, else nothing. -/
def RetEd (w : World) (X : List Nat × Int) (l : List Nat) (v z : Value) (e : Ending) (w' : World) : Prop := ∃ r q, e = .returned (.tuple #[r, .int .i64 q]) ∧ ((X = (l, 0) ∧ r = v ∧ q = 0) ∨ (X ≠ (l, 0) ∧ r = z ∧ q = 52)) ∧ Below w.heap.size w w'

theorem infoZ_sEncodedX_any : (Try.prog.info? 55).map (·.size) = some 3 := by kernel_rfl
theorem storeZ_sEncodedX_any {w : World} {b : Nat} {old new : Array Value} {U : TypeId} (h : Blk w b U old) (ho : old.size = 3) (hn : new.size = 3) (h1 : new.all (·.oneCell') = true) : (storeVar 55 ⟨b, 0, none⟩ (.agg new)).run Try.prog w = .ok () (w.setRow b new) :=
  run_storeVar_row w b U 55 old new h (by rw [infoZ_sEncodedX_any, hn]) (by rw [ho, hn]) h1
theorem loadZ_sEncodedX_any {w : World} {b : Nat} {cs : Array Value} {U : TypeId} (h : Blk w b U cs) (hn : cs.size = 3) : (loadVar 55 ⟨b, 0, none⟩).run Try.prog w = .ok (.agg cs) w :=
  run_loadVar_row w b U 55 cs (0, 0) _ h Try.underlying55 rfl (by rw [infoZ_sEncodedX_any, hn])

set_option maxHeartbeats 4000000 in
theorem sEncodedX_any (nm tb : ByteArray) (col : Int) (l : List Nat) (a : Option Addr) (n c : Nat) (w : World) (h1 : nm.size ≤ 1000000) (h2 : tb.size ≤ 1000000) (h3 : -9223372036854775808 ≤ col) (h4 : col ≤ 9223372036854775807) (hB : Bs w.heap.size w a l) (hn : n = l.length) :
    Calls Try.prog 54 #[.agg #[.string nm, .string tb, .int .i64 col], .func (.func 24) #[] #[], .slice a n c] w (RetEd w (writeX nm tb col) l (.agg #[.string nm, .string tb, .int .i64 col]) (.agg #[.string ⟨#[]⟩, .string ⟨#[]⟩, .int .i64 0])) := by
  have HW := Lib.hid (fun W (hb : Below w.heap.size w W) => sWriteX_any nm tb col W h1 h2 h3 h4)
  generalize writeX nm tb col = X at *
  obtain ⟨M, q⟩ := X
  have HBel0 : Hid (Below w.heap.size w ((w.alloc (.cells #[.string nm, .string tb, .int .i64 col] 55)).alloc (.cells #[.string ⟨#[]⟩, .string ⟨#[]⟩, .int .i64 0] 55))) := ((Below.refl _ w).alloc (Nat.le_refl _) _).alloc (by simp) _
  have HK0 : Hid (Blk ((w.alloc (.cells #[.string nm, .string tb, .int .i64 col] 55)).alloc (.cells #[.string ⟨#[]⟩, .string ⟨#[]⟩, .int .i64 0] 55)) w.heap.size 55 #[.string nm, .string tb, .int .i64 col]) := (Blk.new w 55 #[.string nm, .string tb, .int .i64 col]).alloc _
  have HR0 : Hid (Blk ((w.alloc (.cells #[.string nm, .string tb, .int .i64 col] 55)).alloc (.cells #[.string ⟨#[]⟩, .string ⟨#[]⟩, .int .i64 0] 55)) (w.heap.size + 1) 55 #[.string ⟨#[]⟩, .string ⟨#[]⟩, .int .i64 0]) := by
    have := Blk.new (w.alloc (.cells #[.string nm, .string tb, .int .i64 col] 55)) 55 #[.string ⟨#[]⟩, .string ⟨#[]⟩, .int .i64 0]
    rw [show (w.alloc (.cells #[.string nm, .string tb, .int .i64 col] 55)).heap.size = w.heap.size + 1 by simp] at this
    exact this
  have hs0 : w.heap.size + 1 < ((w.alloc (.cells #[.string nm, .string tb, .int .i64 col] 55)).alloc (.cells #[.string ⟨#[]⟩, .string ⟨#[]⟩, .int .i64 0] 55)).heap.size := by simp
  have HE := Lib.hid (fun W (hb : Below w.heap.size w W) b n1 c1 (hb2 : Bs W.heap.size W b M) (h1 : n1 = M.length) => Equal_any M l b a n1 c1 n c W hb2 ((hB.below hb).mono hb.size) h1 hn)
  clear hB hn
  go_enter Try.func54, Try.ntmps54
  go_wp2_with fail
  refine (HW.out _ HBel0.out).mono ?_
  rintro e w1 ⟨a1, c1, rfl, hc1, hB1, hb1⟩
  dsimp only at hB1
  have hK1 := HK0.out.belS hb1 (by omega)
  have hR1 := HR0.out.belS hb1 hs0
  have hs1 := Nat.lt_of_lt_of_le hs0 hb1.size
  have HB1 := Lib.hid (HBel0.out.trans (hb1.mono (by omega)))
  have HK1 := Lib.hid hK1
  have HR1 := Lib.hid hR1
  have HBs := Lib.hid hB1
  have x0 := (hK1.cell 0).trans rfl
  have x1 := (hK1.cell 1).trans rfl
  have x2 := (hK1.cell 2).trans rfl
  clear hb1 hs0 HBel0 HK0 HR0 HW hc1 hB1 hK1 hR1
  by_cases hq : q = 0
  · subst hq
    go_wp2_with fail
    refine (HE.out _ HB1.out _ _ _ HBs.out rfl).mono ?_
    rintro e w2 ⟨rfl, hb2⟩
    have hK2 := HK1.out.belS hb2 (by omega)
    have hR2 := HR1.out.belS hb2 hs1
    have hs2 := Nat.lt_of_lt_of_le hs1 hb2.size
    have HB2 := Lib.hid (HB1.out.trans (hb2.mono (by omega)))
    have HR2 := Lib.hid hR2
    clear x0 x1 x2
    have x0 := (hK2.cell 0).trans rfl
    have x1 := (hK2.cell 1).trans rfl
    have x2 := (hK2.cell 2).trans rfl
    clear hb2 hK2 hR2 HK1 HR1 HB1 HBs
    by_cases hM : M = l
    · subst hM
      have q1 : decide (M = M) = true := by simp
      have HS : Hid ((storeVar 55 ⟨w.heap.size + 1, 0, none⟩ (.agg #[.string nm, .string tb, .int .i64 col])).run Try.prog w2 = .ok () (w2.setRow (w.heap.size + 1) #[.string nm, .string tb, .int .i64 col])) := storeZ_sEncodedX_any HR2.out rfl rfl (by simp [Value.oneCell'])
      have HL : Hid ((loadVar 55 ⟨w.heap.size + 1, 0, none⟩).run Try.prog (w2.setRow (w.heap.size + 1) #[.string nm, .string tb, .int .i64 col]) = .ok (.agg #[.string nm, .string tb, .int .i64 col]) (w2.setRow (w.heap.size + 1) #[.string nm, .string tb, .int .i64 col])) := loadZ_sEncodedX_any (Blk.setRow (new := #[.string nm, .string tb, .int .i64 col]) HR2.out) rfl
      have HF : Hid (Below w.heap.size w (w2.setRow (w.heap.size + 1) #[.string nm, .string tb, .int .i64 col])) := HB2.out.trans (Chg.below (S := [w.heap.size + 1]) ((Chg.refl _ _).setRow (.inl (by simp)) _) (by omega) (by simp))
      go_wp2_with (first | (guard_target =~ wpList _ _ _ (Oper.mk _ (Op.store 55 _ _) _ _ _ _ :: _) _ _; refine wpList_skp rfl (exec_store rfl rfl rfl HS.out) ?_))
      exact bodyPost_ret (v := .tuple #[.agg #[.string nm, .string tb, .int .i64 col], .int .i64 0]) (results_cell_tmp Try.results54 _ _ rfl rfl HL.out) rfl ⟨_, _, rfl, .inl ⟨rfl, rfl, rfl⟩, HF.out⟩
    · have q1 : decide (M = l) = false := decide_eq_false hM
      have HS : Hid ((storeVar 55 ⟨w.heap.size + 1, 0, none⟩ (.agg #[.string ⟨#[]⟩, .string ⟨#[]⟩, .int .i64 0])).run Try.prog (w2.alloc (.cells #[.string ⟨#[]⟩, .string ⟨#[]⟩, .int .i64 0] 55)) = .ok () ((w2.alloc (.cells #[.string ⟨#[]⟩, .string ⟨#[]⟩, .int .i64 0] 55)).setRow (w.heap.size + 1) #[.string ⟨#[]⟩, .string ⟨#[]⟩, .int .i64 0])) := storeZ_sEncodedX_any (HR2.out.alloc _) rfl rfl (by simp [Value.oneCell'])
      have HL : Hid ((loadVar 55 ⟨w.heap.size + 1, 0, none⟩).run Try.prog ((w2.alloc (.cells #[.string ⟨#[]⟩, .string ⟨#[]⟩, .int .i64 0] 55)).setRow (w.heap.size + 1) #[.string ⟨#[]⟩, .string ⟨#[]⟩, .int .i64 0]) = .ok (.agg #[.string ⟨#[]⟩, .string ⟨#[]⟩, .int .i64 0]) ((w2.alloc (.cells #[.string ⟨#[]⟩, .string ⟨#[]⟩, .int .i64 0] 55)).setRow (w.heap.size + 1) #[.string ⟨#[]⟩, .string ⟨#[]⟩, .int .i64 0])) := loadZ_sEncodedX_any (Blk.setRow (new := #[.string ⟨#[]⟩, .string ⟨#[]⟩, .int .i64 0]) (HR2.out.alloc (.cells #[.string ⟨#[]⟩, .string ⟨#[]⟩, .int .i64 0] 55))) rfl
      have HF : Hid (Below w.heap.size w ((w2.alloc (.cells #[.string ⟨#[]⟩, .string ⟨#[]⟩, .int .i64 0] 55)).setRow (w.heap.size + 1) #[.string ⟨#[]⟩, .string ⟨#[]⟩, .int .i64 0])) := (HB2.out.alloc (by omega) _).trans (Chg.below (S := [w.heap.size + 1]) ((Chg.refl _ _).setRow (.inl (by simp)) _) (by simp; omega) (by simp))
      clear x0 x1 x2
      go_wp2_with (first | (guard_target =~ wpList _ _ _ (Oper.mk _ (Op.store 55 _ _) _ _ _ _ :: _) _ _; refine wpList_skp rfl (exec_store rfl rfl rfl HS.out) ?_))
      exact bodyPost_ret (v := .tuple #[.agg #[.string ⟨#[]⟩, .string ⟨#[]⟩, .int .i64 0], .int .i64 52]) (results_cell_tmp Try.results54 _ _ rfl rfl HL.out) rfl ⟨_, _, rfl, .inr ⟨fun h => hM (congrArg Prod.fst h), rfl, rfl⟩, HF.out⟩
  · have q1 : (q != 0) = true := by simpa using hq
    have HS : Hid ((storeVar 55 ⟨w.heap.size + 1, 0, none⟩ (.agg #[.string ⟨#[]⟩, .string ⟨#[]⟩, .int .i64 0])).run Try.prog (w1.alloc (.cells #[.string ⟨#[]⟩, .string ⟨#[]⟩, .int .i64 0] 55)) = .ok () ((w1.alloc (.cells #[.string ⟨#[]⟩, .string ⟨#[]⟩, .int .i64 0] 55)).setRow (w.heap.size + 1) #[.string ⟨#[]⟩, .string ⟨#[]⟩, .int .i64 0])) := storeZ_sEncodedX_any (HR1.out.alloc _) rfl rfl (by simp [Value.oneCell'])
    have HL : Hid ((loadVar 55 ⟨w.heap.size + 1, 0, none⟩).run Try.prog ((w1.alloc (.cells #[.string ⟨#[]⟩, .string ⟨#[]⟩, .int .i64 0] 55)).setRow (w.heap.size + 1) #[.string ⟨#[]⟩, .string ⟨#[]⟩, .int .i64 0]) = .ok (.agg #[.string ⟨#[]⟩, .string ⟨#[]⟩, .int .i64 0]) ((w1.alloc (.cells #[.string ⟨#[]⟩, .string ⟨#[]⟩, .int .i64 0] 55)).setRow (w.heap.size + 1) #[.string ⟨#[]⟩, .string ⟨#[]⟩, .int .i64 0])) := loadZ_sEncodedX_any (Blk.setRow (new := #[.string ⟨#[]⟩, .string ⟨#[]⟩, .int .i64 0]) (HR1.out.alloc (.cells #[.string ⟨#[]⟩, .string ⟨#[]⟩, .int .i64 0] 55))) rfl
    have HF : Hid (Below w.heap.size w ((w1.alloc (.cells #[.string ⟨#[]⟩, .string ⟨#[]⟩, .int .i64 0] 55)).setRow (w.heap.size + 1) #[.string ⟨#[]⟩, .string ⟨#[]⟩, .int .i64 0])) := (HB1.out.alloc (by omega) _).trans (Chg.below (S := [w.heap.size + 1]) ((Chg.refl _ _).setRow (.inl (by simp)) _) (by simp; omega) (by simp))
    clear x0 x1 x2
    go_wp2_with (first | (guard_target =~ wpList _ _ _ (Oper.mk _ (Op.store 55 _ _) _ _ _ _ :: _) _ _; refine wpList_skp rfl (exec_store rfl rfl rfl HS.out) ?_))
    exact bodyPost_ret (v := .tuple #[.agg #[.string ⟨#[]⟩, .string ⟨#[]⟩, .int .i64 0], .int .i64 52]) (results_cell_tmp Try.results54 _ _ rfl rfl HL.out) rfl ⟨_, _, rfl, .inr ⟨fun h => hq (congrArg Prod.snd h), rfl, rfl⟩, HF.out⟩
end Go.Proofs.Ytialpfdhdcjpaaa
