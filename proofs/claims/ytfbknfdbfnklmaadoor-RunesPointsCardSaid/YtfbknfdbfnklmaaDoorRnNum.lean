/- The walks of runes.isDigits and Number. -/
import Derived.Test.YtfbknfdbfnklmaaDoorRnLit
namespace Go.Proofs.YtfbknfdbfnklmaaDoor
set_option linter.unusedSimpArgs false
open Go.RowKit

def digitsB (s : ByteArray) : Bool := decide (0 < s.size) && (List.range s.size).all fun i => decide (48 ≤ byteN s i ∧ byteN s i ≤ 57)

theorem digitsB_true {s : ByteArray} : digitsB s = true ↔ 0 < s.size ∧ ∀ i, i < s.size → 48 ≤ byteN s i ∧ byteN s i ≤ 57 := by
  unfold digitsB
  rw [Bool.and_eq_true, decide_eq_true_iff, List.all_eq_true]
  simp

theorem digitsB_false {s : ByteArray} {i : Nat} (h : i < s.size) (hb : ¬ (48 ≤ byteN s i ∧ byteN s i ≤ 57)) : digitsB s = false := by
  rw [Bool.eq_false_iff]
  intro hn
  exact hb ((digitsB_true.1 hn).2 i h)

theorem class3 (c : Nat) : classZ (c : Int) = 3 ↔ 48 ≤ c ∧ c ≤ 57 := by
  unfold classZ
  repeat' split
  all_goals omega

set_option maxHeartbeats 2000000 in
theorem isDigits_any (s : ByteArray) (w : World) (hs : s.size ≤ 1000000000) :
    Calls Tryd.prog 41 #[.string s] w fun e w' => e = .returned (.bool (digitsB s)) ∧ Below w.heap.size w w' := by
  go_enter Tryd.func41, Tryd.ntmps41
  go_wp2
  go_loopw [] (fun wr => ∃ pos : Nat, wr = w.iter s pos ∧ pos ≤ s.size ∧ Hid (∀ i, i < pos → 48 ≤ byteN s i ∧ byteN s i ≤ 57)) (fun wr => s.size - wr.iterPos w.heap.size)
  case atStart => exact ⟨0, rfl, by omega, by simp [Hid]⟩
  case round =>
    obtain ⟨pos, rfl, hpos, HI⟩ := hrel
    have HBE : Hid (∀ q, Below w.heap.size w (w.iter s q)) := fun q => (Below.refl _ w).alloc (Nat.le_refl _) _
    by_cases hp : pos < s.size
    · have hnx : ∀ ty, (Instr.next (.pointer (some ⟨w.heap.size, 0, none⟩)) true ty).run Tryd.prog (w.iter s pos) = _ := fun ty => run_next_any w s pos ty hp
      have hB := byteN_at s pos hp
      by_cases hd : 48 ≤ (s[pos]'hp).toNat ∧ (s[pos]'hp).toNat ≤ 57
      · have hdec := decode_ascii s pos hp (by omega)
        simp only [hdec] at hnx
        obtain ⟨c, hc⟩ : ∃ c, (s[pos]'hp).toNat = c := ⟨_, rfl⟩
        rw [hc] at hnx hB hd
        have HCl := Lib.hid (fun W => Class_any (c : Int) W)
        rw [(class3 c).2 hd] at HCl
        have HI2 : Hid (∀ i, i < pos + 1 → 48 ≤ byteN s i ∧ byteN s i ≤ 57) := by
          intro i hi
          by_cases h : i = pos
          · subst h; rw [hB]; exact hd
          · exact HI.out i (by omega)
        clear hdec hB hc hd HI
        go_wp2_with fail
        refine (HCl.out _).mono ?_
        rintro e w1 ⟨rfl, rfl⟩
        clear HCl
        go_wp2
        go_roundw
        case rel => exact ⟨pos + 1, rfl, by omega, HI2⟩
        case measure => simp; omega
      · have HN : Hid (digitsB s = false) := digitsB_false hp (by rw [hB]; exact hd)
        have hr3 : classZ (((Utf8.decode s pos).1 : Nat) : Int) ≠ 3 := by
          intro h
          rw [class3] at h
          by_cases hasc : (s[pos]'hp).toNat < 128
          · rw [decode_ascii s pos hp hasc] at h; exact hd h
          · have := (decode_high s pos hp (by omega)).1; omega
        obtain ⟨r, hr⟩ : ∃ r, (Utf8.decode s pos).1 = r := ⟨_, rfl⟩
        obtain ⟨z, hz⟩ : ∃ z, (Utf8.decode s pos).2 = z := ⟨_, rfl⟩
        rw [hr, hz] at hnx
        rw [hr] at hr3
        have HCl := Lib.hid (fun W => Class_any (r : Int) W)
        obtain ⟨k, hk⟩ : ∃ k, classZ (r : Int) = k := ⟨_, rfl⟩
        rw [hk] at HCl hr3
        have q3 : (k != 3) = true := by simp [hr3]
        clear hB hr hz HI hd hk hr3
        go_wp2_with fail
        refine (HCl.out _).mono ?_
        rintro e w1 ⟨rfl, rfl⟩
        clear HCl
        go_wp2
        go_ret
        exact ⟨by rw [HN.out]; rfl, HBE.out _⟩
    · have hnx : ∀ ty, (Instr.next (.pointer (some ⟨w.heap.size, 0, none⟩)) true ty).run Tryd.prog (w.iter s pos) = _ := fun ty => run_next_end w s pos ty hp
      by_cases h0 : s.size = 0
      · have HN : Hid (digitsB s = false) := by unfold digitsB; simp [h0, Hid]
        have he : s.toList = [] := by rw [ByteArray.toList_eq, Array.size_eq_zero_iff.1 (show s.data.size = 0 from h0)]
        clear HI h0
        go_wp2
        go_ret
        exact ⟨by rw [HN.out]; rfl, HBE.out _⟩
      · have HN : Hid (digitsB s = true) := digitsB_true.2 ⟨by omega, fun i hi => HI.out i (by omega)⟩
        have he : (s.toList == []) = false := by
          rw [ByteArray.toList_eq]
          rw [Bool.eq_false_iff]
          intro h
          rw [beq_iff_eq] at h
          apply h0
          have := congrArg List.length h
          simpa using this
        have he2 : ¬ s.toList = [] := by simpa using he
        have he3 : (!s.toList.isEmpty) = true := by simpa using he2
        clear HI h0
        go_wp2
        go_ret
        exact ⟨by rw [HN.out]; rfl, HBE.out _⟩

/-! The number of some digits. -/
def valL (l : List Nat) : Nat := l.foldl (fun n c => n * 10 + (c - 48)) 0
def valF (a : Nat) (l : List Nat) : Nat := l.foldl (fun n c => n * 10 + (c - 48)) a

theorem valF_mono : ∀ (l : List Nat) (a : Nat), a ≤ valF a l
  | [], a => Nat.le_refl _
  | c :: l, a => by
    have := valF_mono l (a * 10 + (c - 48))
    show a ≤ valF (a * 10 + (c - 48)) l
    omega

theorem parseM_val : ∀ (l : List UInt8) (acc : Nat), (∀ c ∈ l, 48 ≤ c.toNat ∧ c.toNat ≤ 57) → acc < 18446744073709551616 →
    (Lib.parseUintM 18446744073709551615 acc l = .ok (valF acc (l.map UInt8.toNat)) ∧ valF acc (l.map UInt8.toNat) < 18446744073709551616) ∨ (Lib.parseUintM 18446744073709551615 acc l = .range ∧ 18446744073709551616 ≤ valF acc (l.map UInt8.toNat))
  | [], acc, _, h => .inl ⟨rfl, h⟩
  | c :: l, acc, hd, h => by
    have hc := hd c (by simp)
    have e : valF acc ((c :: l).map UInt8.toNat) = valF (acc * 10 + (c.toNat - 48)) (l.map UInt8.toNat) := rfl
    have hm := valF_mono (l.map UInt8.toNat) (acc * 10 + (c.toNat - 48))
    rw [e, Lib.parseUintM, if_pos hc]
    by_cases h1 : 1844674407370955162 ≤ acc
    · rw [if_pos h1]; right; exact ⟨rfl, by omega⟩
    · rw [if_neg h1]
      by_cases h2 : 18446744073709551615 < acc * 10 + (c.toNat - 48)
      · rw [if_pos h2]; right; exact ⟨rfl, by omega⟩
      · rw [if_neg h2]
        exact parseM_val l _ (fun x hx => hd x (by simp [hx])) (by omega)

theorem parse_val (l : List UInt8) (hne : l ≠ []) (hd : ∀ c ∈ l, 48 ≤ c.toNat ∧ c.toNat ≤ 57) :
    (Lib.parseIntB 64 l = .ok ((valL (l.map UInt8.toNat) : Nat) : Int) ∧ valL (l.map UInt8.toNat) < 9223372036854775808) ∨ (Lib.parseIntB 64 l = .range ∧ 9223372036854775808 ≤ valL (l.map UInt8.toNat)) := by
  cases l with
  | nil => exact absurd rfl hne
  | cons c l =>
    have hc := hd c (by simp)
    have e : valL ((c :: l).map UInt8.toNat) = valF 0 ((c :: l).map UInt8.toNat) := rfl
    have hb : (2 : Nat) ^ 64 - 1 = 18446744073709551615 := by decide
    have hb2 : (2 : Nat) ^ (64 - 1) = 9223372036854775808 := by decide
    rw [e]
    unfold Lib.parseIntB
    simp only []
    rw [if_neg (by omega)]
    unfold Lib.parseUintB
    rw [if_neg (by simp), hb]
    rcases parseM_val (c :: l) 0 hd (by omega) with ⟨h1, h2⟩ | ⟨h1, h2⟩
    · rw [h1]
      simp only [hb2]
      by_cases h3 : 9223372036854775808 ≤ valF 0 ((c :: l).map UInt8.toNat)
      · rw [if_pos ⟨by omega, h3⟩]; right; exact ⟨rfl, h3⟩
      · rw [if_neg (by omega), if_neg (by omega), if_neg (by omega)]; left; exact ⟨rfl, by omega⟩
    · rw [h1]; right; exact ⟨rfl, by omega⟩

def numV (s : ByteArray) : Int × Int := if digitsB s = false then (0, 3) else if 9223372036854775808 ≤ valL (bytesU s) then (0, 21) else (((valL (bytesU s) : Nat) : Int), 0)

set_option maxHeartbeats 1000000 in
theorem Number_any (s : ByteArray) (w : World) (hT : Pre5 w) (hs : s.size ≤ 1000000) :
    Calls Tryd.prog 23 #[.string s] w fun e w' => e = .returned (.tuple #[.int .i64 (numV s).1, .int .i64 (numV s).2]) ∧ Below w.heap.size w w' := by
  have HI := Lib.hid (fun W => isDigits_any s W (by omega))
  cases hd : digitsB s with
  | false =>
    have HN : Hid (numV s = (0, 3)) := by unfold numV; rw [if_pos hd]; rfl
    rw [hd] at HI
    clear hd hT
    go_enter Tryd.func23, Tryd.ntmps23
    go_wp2_with fail
    refine (HI.out _).mono ?_
    rintro e w1 ⟨rfl, b1⟩
    go_wp2
    go_ret2
    exact ⟨by rw [HN.out]; rfl, b1⟩
  | true =>
    have hN : numV s = if 9223372036854775808 ≤ valL (bytesU s) then (0, 21) else (((valL (bytesU s) : Nat) : Int), 0) := by unfold numV; rw [if_neg (by rw [hd]; simp)]
    obtain ⟨h0, hall⟩ := digitsB_true.1 hd
    have hbytes : ∀ c ∈ s.data.toList, 48 ≤ c.toNat ∧ c.toNat ≤ 57 := by
      intro c hc
      obtain ⟨i, hi, rfl⟩ := List.getElem_of_mem hc
      have hi2 : i < s.size := by simpa using hi
      have := hall i hi2
      rw [byteN_at s i hi2] at this
      exact this
    have hpv := parse_val s.data.toList (by
      intro h
      have := congrArg List.length h
      have e : s.data.toList.length = s.size := by simp
      rw [e, List.length_nil] at this; omega) hbytes
    have e : s.data.toList.map UInt8.toNat = bytesU s := rfl
    rw [e] at hpv
    rw [hd] at HI
    rcases hpv with ⟨h1, h2⟩ | ⟨h1, h2⟩
    · have HN : Hid (numV s = (((valL (bytesU s) : Nat) : Int), 0)) := by rw [hN, if_neg (by omega)]; rfl
      have HP := Lib.hid (fun W => Any.strconv_ParseInt_10_at64_ok Tryd.laysParse s (by omega) _ h1 W)
      have HC : Hid (∀ W, Calls Tryd.prog 42 #[.string s, .int .i64 10, .int .i64 64] W fun e w' => e = .returned (.tuple #[.int .i64 ((valL (bytesU s) : Nat) : Int), .nilIface]) ∧ Below W.heap.size W w') := fun W => (HP.out W).mono fun e w' ⟨he, hw⟩ => ⟨he, by
        rcases hw with rfl | ⟨t, rfl⟩
        · exact Below.refl _ _
        · exact ⟨rfl, rfl, rfl, by rw [Lib.bytesWorld_size]; omega, fun k hk => Lib.bytesWorld_at_old W _ t k hk⟩⟩
      obtain ⟨v, hv⟩ : ∃ v, valL (bytesU s) = v := ⟨_, rfl⟩
      rw [hv] at HN HC
      clear hN h1 h2 HP hall hbytes hd hv hT e
      go_enter Tryd.func23, Tryd.ntmps23
      go_wp2_with fail
      refine (HI.out _).mono ?_
      rintro e w1 ⟨rfl, b1⟩
      go_wp2_with fail
      refine (HC.out _).mono ?_
      rintro e w2 ⟨rfl, b2⟩
      go_wp2
      go_ret2
      exact ⟨by rw [HN.out]; rfl, b1.trans (b2.mono b1.size)⟩
    · have HN : Hid (numV s = (0, 21)) := by rw [hN, if_pos h2]; rfl
      have HP : Hid (∀ W, Below w.heap.size w W → ∃ te v, Calls Tryd.prog 42 #[.string s, .int .i64 10, .int .i64 64] W fun e w' => (∃ N, e = .returned (.tuple #[.int .i64 v, .iface te (.pointer (some ⟨N, 0, none⟩))])) ∧ Below W.heap.size W w') := fun W hb => by
        obtain ⟨ev, hv, hev⟩ := (hT.below hb).rng
        exact ⟨_, _, (Any.strconv_ParseInt_10_at64_range Tryd.laysParse s (by omega) h1 ev W hv hev).mono fun e w' ⟨N, he, _, _, hw⟩ => ⟨⟨N, he⟩, hw⟩⟩
      clear hN h1 h2 hall hbytes hd hT e
      go_enter Tryd.func23, Tryd.ntmps23
      go_wp2_with fail
      refine (HI.out _).mono ?_
      rintro e w1 ⟨rfl, b1⟩
      obtain ⟨te, v, hc⟩ := HP.out w1 b1
      go_wp2_with fail
      refine hc.mono ?_
      rintro e w2 ⟨⟨N, rfl⟩, b2⟩
      clear hc
      go_wp2
      go_ret2
      exact ⟨by rw [HN.out]; rfl, b1.trans (b2.mono b1.size)⟩
end Go.Proofs.YtfbknfdbfnklmaaDoor
