/- Several texts of one proof, one behind the other. -/
import Derived.Test.YtbglchoamihdlaaKPk7

/- The walk of the reference's Write of rows. -/
namespace Go.Proofs.Ytbglchoamihdlaa
open Go.RowKit

theorem encL_take_le (l : List Vl) (k : Nat) : (encL (l.take k)).length ≤ (encL l).length := by
  conv => rhs; rw [← List.take_append_drop k l]
  unfold encL
  rw [List.flatMap_append, List.length_append]; omega

/-- A length of at most five bytes' bytes. -/
theorem encV_len2 (x : Vl) (hs : x.s.size ≤ 1000000) (hf : x.fair) : (encV x).length ≤ 1000020 := by
  have h1 := putL_len10 (zigN_lt x.n hf.2.1.1 hf.2.1.2)
  have h2 := putL_len10 (show x.s.size < 18446744073709551616 by omega)
  unfold encV
  split
  · simp
  · split
    · simp only [List.length_cons]; omega
    · simp only [List.length_cons, textL, List.length_append, bytesOf_len]; omega

end Go.Proofs.Ytbglchoamihdlaa

/- The walks of record.decode and the reference's one. -/
namespace Go.Proofs.Ytbglchoamihdlaa
open Go.RowKit

theorem slots2_here (w : World) (T : TypeId) (a0 a1 a2 b0 b1 b2 : Value) : Slot ((w.alloc (.cells #[a0, a1, a2] T)).alloc (.cells #[b0, b1, b2] T)) w.heap.size a0 a1 a2 ∧ Slot ((w.alloc (.cells #[a0, a1, a2] T)).alloc (.cells #[b0, b1, b2] T)) (w.heap.size + 1) b0 b1 b2 := by
  obtain ⟨h1, h2, _⟩ := slots2 w T a0 a1 a2 b0 b1 b2 ((w.alloc (.cells #[a0, a1, a2] T)).alloc (.cells #[b0, b1, b2] T)) (Later.refl _)
  exact ⟨h1, h2⟩

/-- What a value that begins at an index is answered as. -/
def RetD (w : World) (o : Option (Vl × Nat)) (e : Ending) (w' : World) : Prop :=
  Below w.heap.size w w' ∧ ((o = none ∧ ∃ (k n : Int) (s : ByteArray) (m : Int), e = .returned (.tuple #[.agg #[.int .u8 k, .int .i64 n, .string s], .int .i64 m, .bool false])) ∨
    ∃ (x : Vl) (n : Nat), o = some (x, n) ∧ e = .returned (.tuple #[.agg #[.int .u8 x.k, .int .i64 x.n, .string x.s], .int .i64 (n : Int), .bool true]))

theorem RetD.no {w w' : World} {o : Option (Vl × Nat)} (h : o = none) (hb : Below w.heap.size w w') (k n : Int) (s : ByteArray) (m : Int) : RetD w o (.returned (.tuple #[.agg #[.int .u8 k, .int .i64 n, .string s], .int .i64 m, .bool false])) w' :=
  ⟨hb, .inl ⟨h, k, n, s, m, rfl⟩⟩
theorem RetD.yes {w w' : World} {o : Option (Vl × Nat)} {k : Nat} {n : Int} {s : ByteArray} {m : Nat} (h : o = some (⟨k, n, s⟩, m)) (hb : Below w.heap.size w w') : RetD w o (.returned (.tuple #[.agg #[.int .u8 (k : Int), .int .i64 n, .string s], .int .i64 (m : Int), .bool true])) w' :=
  ⟨hb, .inr ⟨_, _, h, rfl⟩⟩

theorem decV_at {l : List Nat} {p k : Nat} (h : l[p]? = some k) : decV l p =
    if k = 0 then some (⟨0, 0, ⟨#[]⟩⟩, p + 1)
    else if k = 1 then (if (getR l ((p + 1 : Nat) : Int)).2.2 = 0 then some (⟨1, zagZ (getR l ((p + 1 : Nat) : Int)).1, ⟨#[]⟩⟩, (getR l ((p + 1 : Nat) : Int)).2.1.toNat) else none)
    else if k = 2 ∨ k = 3 then (if (textR l ((p + 1 : Nat) : Int)).2.2 = 0 then some (⟨k, 0, (textR l ((p + 1 : Nat) : Int)).1⟩, (textR l ((p + 1 : Nat) : Int)).2.1.toNat) else none)
    else none := by
  unfold decV; rw [h]

theorem textR_nat (l : List Nat) (h256 : ∀ c ∈ l, c < 256) (p : Nat) (s : ByteArray) (n : Int) (q : Nat) (h : textR l (p : Nat) = (s, n, q)) : ∃ m : Nat, n = m ∧ m ≤ l.length := by
  by_cases hq : q = 0
  · subst hq
    obtain ⟨m, h1, h2, h3, _⟩ := textR_only l h256 p s n h
    exact ⟨m, h1, h3⟩
  · unfold textR at h
    simp only [] at h
    split at h
    · simp only [Prod.mk.injEq] at h; exact ⟨0, by omega, by omega⟩
    · split at h
      · simp only [Prod.mk.injEq] at h; exact ⟨0, by omega, by omega⟩
      · simp only [Prod.mk.injEq] at h; omega

end Go.Proofs.Ytbglchoamihdlaa

/- The walk of key.decode. -/
namespace Go.Proofs.Ytbglchoamihdlaa
open Go.RowKit

set_option maxHeartbeats 1000000 in
theorem kdecode_one (k b o : Nat) (w : World) (hN : b < w.heap.size) (c0 : w.cell? ⟨b, o, none⟩ = some (.int .u8 (k : Int))) (hk256 : k < 256) :
    Calls Try.prog 32 #[.slice (some ⟨b, o, none⟩) 1 1] w (RetD w (decK [k])) := by
  have hBn : ∀ W : World, Bs W.heap.size W (some ⟨b, o, none⟩) [] := fun W => ⟨by simp, .inl rfl⟩
  have hkc : k = 16 ∨ k = 17 ∨ k = 18 ∨ k = 19 ∨ (k ≠ 16 ∧ k ≠ 17 ∧ k ≠ 18 ∧ k ≠ 19) := by omega
  rcases hkc with rfl | rfl | rfl | rfl | ⟨h16, h17, h18, h19⟩
  · have HD2 : Hid (decK [16] = some (⟨0, 0, ⟨#[]⟩⟩, 1)) := rfl
    clear hBn
    go_enter Try.func32, Try.ntmps32
    go_wp2
    refine bodyPost_ret (v := .tuple #[.agg #[.int .u8 ((0 : Nat) : Int), .int .i64 0, .string ⟨#[]⟩], .int .i64 ((1 : Nat) : Int), .bool true]) (by simp [results, Try.results32, go_sem]) rfl (RetD.yes HD2.out ?_)
    repeat (refine Below.setCell ?_ (by first | exact Nat.le_refl _ | (simp; done) | (simp; omega)) _)
    first | exact ((Below.refl _ _).alloc (Nat.le_refl _) _).alloc (by simp) _ | exact (Below.refl _ _).alloc (Nat.le_refl _) _ | exact (((Below.refl _ _).alloc (Nat.le_refl _) _).alloc (by simp) _).alloc (by simp; omega) _
  · have HD2 : Hid (decK [17] = none) := rfl
    have HG := Lib.hid (fun W => readWhole_any _ [] (some ⟨b, o, none⟩) 0 0 W (hBn W) (Nat.le_refl _) rfl (by intro h; cases h) (by omega) (by omega))
    clear hBn
    go_enter Try.func32, Try.ntmps32
    go_wp2_with fail
    refine (HG.out _).mono ?_
    rw [if_neg (show ¬ 8 ≤ 0 by omega), decide_eq_false (show ¬ 8 ≤ 0 by omega)]
    rintro e w1 ⟨rfl, hb⟩
    obtain ⟨S2, _⟩ := slots1 _ _ _ _ _ _ hb
    have hw : Below w.heap.size w w1 := (Below.box _ _).trans (hb.mono (by simp))
    obtain ⟨p0, p1, p2, p3, p4, p5⟩ := S2
    clear HG hb
    go_wp2
    refine bodyPost_ret (v := .tuple #[.agg #[.int .u8 1, .int .i64 0, .string ⟨#[]⟩], .int .i64 9, .bool false]) (by simp [results, Try.results32, go_sem, *]) rfl (RetD.no HD2.out ?_ _ _ _ _)
    repeat (refine Below.setCell ?_ (by first | exact Nat.le_refl _ | (simp; done) | (simp; omega)) _)
    exact hw
  · have HD2 : Hid (decK [18] = none) := rfl
    have HG := Lib.hid (fun W => unescape_any _ [] (some ⟨b, o, none⟩) 0 0 W (hBn W) (Nat.le_refl _) rfl (by omega) (by omega))
    clear hBn
    go_enter Try.func32, Try.ntmps32
    go_wp2_with fail
    refine (HG.out _).mono ?_
    rintro e w1 ⟨hb, ⟨_, s, rfl⟩ | ⟨s, m, hsome, rfl⟩⟩
    · obtain ⟨S2, _⟩ := slots1 _ _ _ _ _ _ hb
      have hw : Below w.heap.size w w1 := (Below.box _ _).trans (hb.mono (by simp))
      obtain ⟨p0, p1, p2, p3, p4, p5⟩ := S2
      clear HG hb
      go_wp2
      refine bodyPost_ret (v := .tuple #[.agg #[.int .u8 2, .int .i64 0, .string s], .int .i64 1, .bool false]) (by simp [results, Try.results32, go_sem, *]) rfl (RetD.no HD2.out ?_ _ _ _ _)
      repeat (refine Below.setCell ?_ (by first | exact Nat.le_refl _ | (simp; done) | (simp; omega)) _)
      exact hw
    · exact absurd hsome (by simp [unesc])
  · have HD2 : Hid (decK [19] = none) := rfl
    have HG := Lib.hid (fun W => unescape_any _ [] (some ⟨b, o, none⟩) 0 0 W (hBn W) (Nat.le_refl _) rfl (by omega) (by omega))
    clear hBn
    go_enter Try.func32, Try.ntmps32
    go_wp2_with fail
    refine (HG.out _).mono ?_
    rintro e w1 ⟨hb, ⟨_, s, rfl⟩ | ⟨s, m, hsome, rfl⟩⟩
    · obtain ⟨S2, _⟩ := slots1 _ _ _ _ _ _ hb
      have hw : Below w.heap.size w w1 := (Below.box _ _).trans (hb.mono (by simp))
      obtain ⟨p0, p1, p2, p3, p4, p5⟩ := S2
      clear HG hb
      go_wp2
      refine bodyPost_ret (v := .tuple #[.agg #[.int .u8 3, .int .i64 0, .string s], .int .i64 1, .bool false]) (by simp [results, Try.results32, go_sem, *]) rfl (RetD.no HD2.out ?_ _ _ _ _)
      repeat (refine Below.setCell ?_ (by first | exact Nat.le_refl _ | (simp; done) | (simp; omega)) _)
      exact hw
    · exact absurd hsome (by simp [unesc])
  · have HD2 : Hid (decK [k] = none) := by rw [decK, if_neg h16, if_neg h17, if_neg (by omega)]; rfl
    have e0 : (((k : Int) - 16) % 256 == 0) = false := by simp; omega
    have e1 : (((k : Int) - 16) % 256 == 1) = false := by simp; omega
    have e2 : (((k : Int) - 16) % 256 == 2) = false := by simp; omega
    have e3 : (((k : Int) - 16) % 256 == 3) = false := by simp; omega
    clear hBn
    go_enter Try.func32, Try.ntmps32
    go_wp2
    refine bodyPost_ret (v := .tuple #[.agg #[.int .u8 0, .int .i64 0, .string ⟨#[]⟩], .int .i64 0, .bool false]) (by simp [results, Try.results32, go_sem]) rfl (RetD.no HD2.out ?_ _ _ _ _)
    repeat (refine Below.setCell ?_ (by first | exact Nat.le_refl _ | (simp; done) | (simp; omega)) _)
    first | exact ((Below.refl _ _).alloc (Nat.le_refl _) _).alloc (by simp) _ | exact (Below.refl _ _).alloc (Nat.le_refl _) _ | exact (((Below.refl _ _).alloc (Nat.le_refl _) _).alloc (by simp) _).alloc (by simp; omega) _

set_option maxHeartbeats 1000000 in
theorem kdecode_any (l : List Nat) (a : Option Addr) (len cap : Nat) (w : World) (hB : Bs w.heap.size w a l) (hlen : len = l.length) (hcap : len ≤ cap) (hmax : len ≤ 1000000) (hpos : 0 < len) :
    Calls Try.prog 32 #[.slice a len cap] w (RetD w (decK l)) := by
  have HB := Lib.hid hB
  have HL := Lib.hid hlen
  obtain ⟨h256, hcell⟩ := hB
  rcases hcell with hnil | ⟨b, o, rfl, hN, hcell⟩
  · rw [hnil] at hlen; simp at hlen; omega
  · obtain ⟨k, r, hkr⟩ : ∃ k r, l = k :: r := by
      cases l with
      | nil => simp at hlen; omega
      | cons k r => exact ⟨k, r, rfl⟩
    have c0 := hcell 0 k (by rw [hkr]; rfl)
    simp only [Nat.add_zero] at c0
    have hk256 := h256 k (by rw [hkr]; simp)
    by_cases hc1 : cap = 1
    · have hl1 : len = 1 := by omega
      subst hc1 hl1
      have hr : r = [] := by rw [hkr] at hlen; simpa using hlen
      rw [hkr, hr]
      exact kdecode_one k b o w hN c0 hk256
    have hc2 : 1 < cap := by omega
    clear hc1
    have hB1 : Bs w.heap.size w (some ⟨b, o + 1, none⟩) r := by
      refine ⟨fun c hc => h256 c (by rw [hkr]; simp [hc]), .inr ⟨b, o + 1, rfl, hN, fun i c hi => ?_⟩⟩
      have := hcell (i + 1) c (by rw [hkr]; simpa using hi)
      rw [show o + 1 + i = o + (i + 1) by omega]; exact this
    have HB1 := Lib.hid hB1
    have HR : Hid (len - 1 = r.length) := by rw [hlen, hkr]; simp [Hid]
    have HD : Hid (decK l = decK (k :: r)) := by rw [hkr]; rfl
    clear hcell h256 hlen hkr hB1 HB HL
    have HRW := Lib.hid (fun W (hW : Below w.heap.size w W) => readWhole_any w.heap.size r (some ⟨b, o + 1, none⟩) (len - 1) (cap - 1) W (HB1.out.below hW) hW.size HR.out (by intro h; cases h) (by omega) (by omega))
    have HUN := Lib.hid (fun W (hW : Below w.heap.size w W) => unescape_any w.heap.size r (some ⟨b, o + 1, none⟩) (len - 1) (cap - 1) W (HB1.out.below hW) hW.size HR.out (by omega) (by omega))
    clear HB1
    have hkc : k = 16 ∨ k = 17 ∨ k = 18 ∨ k = 19 ∨ (k ≠ 16 ∧ k ≠ 17 ∧ k ≠ 18 ∧ k ≠ 19) := by omega
    rcases hkc with rfl | rfl | rfl | rfl | ⟨h16, h17, h18, h19⟩
    · have HD2 : Hid (decK l = some (⟨0, 0, ⟨#[]⟩⟩, 1)) := HD.out
      clear HD HRW HUN
      go_enter Try.func32, Try.ntmps32
      go_wp2
      refine bodyPost_ret (v := .tuple #[.agg #[.int .u8 ((0 : Nat) : Int), .int .i64 0, .string ⟨#[]⟩], .int .i64 ((1 : Nat) : Int), .bool true]) (by simp [results, Try.results32, go_sem]) rfl (RetD.yes HD2.out ?_)
      repeat (refine Below.setCell ?_ (by first | exact Nat.le_refl _ | (simp; done) | (simp; omega)) _)
      first | exact ((Below.refl _ _).alloc (Nat.le_refl _) _).alloc (by simp) _ | exact (Below.refl _ _).alloc (Nat.le_refl _) _ | exact (((Below.refl _ _).alloc (Nat.le_refl _) _).alloc (by simp) _).alloc (by simp; omega) _
    · have HG := HRW
      by_cases h8 : 8 ≤ len - 1
      · have HD2 : Hid (decK l = some (⟨1, (unB (r.take 8) : Int) - 9223372036854775808, ⟨#[]⟩⟩, 9)) := by
          rw [HD.out, decK, if_neg (by omega), if_pos rfl, if_pos (by rw [← HR.out]; exact h8)]; rfl
        rw [if_pos h8, decide_eq_true h8] at HG
        clear HD HRW HUN
        go_enter Try.func32, Try.ntmps32
        go_wp2_with fail
        refine (HG.out _ (Below.box _ _)).mono ?_
        rintro e w1 ⟨rfl, hb⟩
        obtain ⟨S2, _⟩ := slots1 _ _ _ _ _ _ hb
        have hw : Below w.heap.size w w1 := (Below.box _ _).trans (hb.mono (by simp))
        obtain ⟨p0, p1, p2, p3, p4, p5⟩ := S2
        clear HG hb
        generalize unB (r.take 8) = V at *
        go_wp2
        refine bodyPost_ret (v := .tuple #[.agg #[.int .u8 ((1 : Nat) : Int), .int .i64 ((V : Int) - 9223372036854775808), .string ⟨#[]⟩], .int .i64 ((9 : Nat) : Int), .bool true]) (by simp [results, Try.results32, go_sem, *]) rfl (RetD.yes HD2.out ?_)
        repeat (refine Below.setCell ?_ (by first | exact Nat.le_refl _ | (simp; done) | (simp; omega)) _)
        exact hw
      · have HD2 : Hid (decK l = none) := by
          rw [HD.out, decK, if_neg (by omega), if_pos rfl, if_neg (by rw [← HR.out]; exact h8)]; rfl
        rw [if_neg h8, decide_eq_false h8] at HG
        clear HD HRW HUN
        go_enter Try.func32, Try.ntmps32
        go_wp2_with fail
        refine (HG.out _ (Below.box _ _)).mono ?_
        rintro e w1 ⟨rfl, hb⟩
        obtain ⟨S2, _⟩ := slots1 _ _ _ _ _ _ hb
        have hw : Below w.heap.size w w1 := (Below.box _ _).trans (hb.mono (by simp))
        obtain ⟨p0, p1, p2, p3, p4, p5⟩ := S2
        clear HG hb
        go_wp2
        refine bodyPost_ret (v := .tuple #[.agg #[.int .u8 1, .int .i64 0, .string ⟨#[]⟩], .int .i64 9, .bool false]) (by simp [results, Try.results32, go_sem, *]) rfl (RetD.no HD2.out ?_ _ _ _ _)
        repeat (refine Below.setCell ?_ (by first | exact Nat.le_refl _ | (simp; done) | (simp; omega)) _)
        exact hw
    · have HG := HUN
      clear HRW HUN
      go_enter Try.func32, Try.ntmps32
      go_wp2_with fail
      refine (HG.out _ (Below.box _ _)).mono ?_
      rintro e w1 ⟨hb, ⟨hnone, s, rfl⟩ | ⟨s, m, hsome, rfl⟩⟩
      · have HD2 : Hid (decK l = none) := by rw [HD.out, decK, if_neg (by omega), if_neg (by omega), if_pos (by omega), hnone]; rfl
        obtain ⟨S2, _⟩ := slots1 _ _ _ _ _ _ hb
        have hw : Below w.heap.size w w1 := (Below.box _ _).trans (hb.mono (by simp))
        obtain ⟨p0, p1, p2, p3, p4, p5⟩ := S2
        clear HG hb HD hnone
        go_wp2
        refine bodyPost_ret (v := .tuple #[.agg #[.int .u8 2, .int .i64 0, .string s], .int .i64 1, .bool false]) (by simp [results, Try.results32, go_sem, *]) rfl (RetD.no HD2.out ?_ _ _ _ _)
        repeat (refine Below.setCell ?_ (by first | exact Nat.le_refl _ | (simp; done) | (simp; omega)) _)
        exact hw
      · have HD2 : Hid (decK l = some (⟨2, 0, strN s⟩, 1 + m)) := by rw [HD.out, decK, if_neg (by omega), if_neg (by omega), if_pos (by omega), hsome]; rfl
        obtain ⟨hm1, _⟩ := esc_unesc r.length r (Nat.le_refl _) s m hsome
        have hm : m ≤ 1000000 := by have := HR.out; omega
        obtain ⟨S2, _⟩ := slots1 _ _ _ _ _ _ hb
        have hw : Below w.heap.size w w1 := (Below.box _ _).trans (hb.mono (by simp))
        obtain ⟨p0, p1, p2, p3, p4, p5⟩ := S2
        clear HG hb HD hsome hm1
        go_wp2
        refine bodyPost_ret (v := .tuple #[.agg #[.int .u8 ((2 : Nat) : Int), .int .i64 0, .string (strN s)], .int .i64 ((1 + m : Nat) : Int), .bool true]) (by simp [results, Try.results32, go_sem, *]) rfl (RetD.yes HD2.out ?_)
        repeat (refine Below.setCell ?_ (by first | exact Nat.le_refl _ | (simp; done) | (simp; omega)) _)
        exact hw
    · have HG := HUN
      clear HRW HUN
      go_enter Try.func32, Try.ntmps32
      go_wp2_with fail
      refine (HG.out _ (Below.box _ _)).mono ?_
      rintro e w1 ⟨hb, ⟨hnone, s, rfl⟩ | ⟨s, m, hsome, rfl⟩⟩
      · have HD2 : Hid (decK l = none) := by rw [HD.out, decK, if_neg (by omega), if_neg (by omega), if_pos (by omega), hnone]; rfl
        obtain ⟨S2, _⟩ := slots1 _ _ _ _ _ _ hb
        have hw : Below w.heap.size w w1 := (Below.box _ _).trans (hb.mono (by simp))
        obtain ⟨p0, p1, p2, p3, p4, p5⟩ := S2
        clear HG hb HD hnone
        go_wp2
        refine bodyPost_ret (v := .tuple #[.agg #[.int .u8 3, .int .i64 0, .string s], .int .i64 1, .bool false]) (by simp [results, Try.results32, go_sem, *]) rfl (RetD.no HD2.out ?_ _ _ _ _)
        repeat (refine Below.setCell ?_ (by first | exact Nat.le_refl _ | (simp; done) | (simp; omega)) _)
        exact hw
      · have HD2 : Hid (decK l = some (⟨3, 0, strN s⟩, 1 + m)) := by rw [HD.out, decK, if_neg (by omega), if_neg (by omega), if_pos (by omega), hsome]; rfl
        obtain ⟨hm1, _⟩ := esc_unesc r.length r (Nat.le_refl _) s m hsome
        have hm : m ≤ 1000000 := by have := HR.out; omega
        obtain ⟨S2, _⟩ := slots1 _ _ _ _ _ _ hb
        have hw : Below w.heap.size w w1 := (Below.box _ _).trans (hb.mono (by simp))
        obtain ⟨p0, p1, p2, p3, p4, p5⟩ := S2
        clear HG hb HD hsome hm1
        go_wp2
        refine bodyPost_ret (v := .tuple #[.agg #[.int .u8 ((3 : Nat) : Int), .int .i64 0, .string (strN s)], .int .i64 ((1 + m : Nat) : Int), .bool true]) (by simp [results, Try.results32, go_sem, *]) rfl (RetD.yes HD2.out ?_)
        repeat (refine Below.setCell ?_ (by first | exact Nat.le_refl _ | (simp; done) | (simp; omega)) _)
        exact hw
    · have HD2 : Hid (decK l = none) := by rw [HD.out, decK, if_neg h16, if_neg h17, if_neg (by omega)]; rfl
      have e0 : (((k : Int) - 16) % 256 == 0) = false := by simp; omega
      have e1 : (((k : Int) - 16) % 256 == 1) = false := by simp; omega
      have e2 : (((k : Int) - 16) % 256 == 2) = false := by simp; omega
      have e3 : (((k : Int) - 16) % 256 == 3) = false := by simp; omega
      clear HD HRW HUN
      go_enter Try.func32, Try.ntmps32
      go_wp2
      refine bodyPost_ret (v := .tuple #[.agg #[.int .u8 0, .int .i64 0, .string ⟨#[]⟩], .int .i64 0, .bool false]) (by simp [results, Try.results32, go_sem]) rfl (RetD.no HD2.out ?_ _ _ _ _)
      repeat (refine Below.setCell ?_ (by first | exact Nat.le_refl _ | (simp; done) | (simp; omega)) _)
      first | exact ((Below.refl _ _).alloc (Nat.le_refl _) _).alloc (by simp) _ | exact (Below.refl _ _).alloc (Nat.le_refl _) _ | exact (((Below.refl _ _).alloc (Nat.le_refl _) _).alloc (by simp) _).alloc (by simp; omega) _
end Go.Proofs.Ytbglchoamihdlaa

/- The walk of record.Read. -/
namespace Go.Proofs.Ytbglchoamihdlaa
open Go.RowKit

theorem Try.info39 : (Try.prog.info? 39).map (fun i => (i.zero, i.size, i.bytes)) = some (some (.agg #[.int .u8 0, .int .i64 0, .string ⟨#[]⟩]), 3, 32) := by kernel_rfl

theorem readN_step {l : List Nat} {p i : Nat} {acc : List Vl} {q : Nat} (h : readN l p i = some (acc, q)) {x : Vl} {n : Nat} (hd : decV l q = some (x, n)) : readN l p (i + 1) = some (acc ++ [x], n) := by
  rw [readN, h]; simp only []; rw [hd]
theorem readN_fail {l : List Nat} {p i : Nat} {acc : List Vl} {q : Nat} (h : readN l p i = some (acc, q)) (hd : decV l q = none) : readN l p (i + 1) = none := by
  rw [readN, h]; simp only []; rw [hd]

theorem readV_long {l : List Nat} (h : 8192 < l.length) : readV l = ([], 2) := by unfold readV; rw [if_pos h]
theorem readV_head {l : List Nat} (h : ¬ 8192 < l.length) (h2 : (getR l 0).2.2 ≠ 0 ∨ 16 < (getR l 0).1) : readV l = ([], 3) := by unfold readV; rw [if_neg h, if_pos h2]
theorem readV_go {l : List Nat} (h : ¬ 8192 < l.length) {c : Nat} {p : Nat} (hg : getR l 0 = (c, (p : Int), 0)) (hc : ¬ 16 < c) : readV l = match readN l p c with
    | none => ([], 3)
    | some (acc, q) => if q ≠ l.length then ([], 3) else (acc, 0) := by
  unfold readV; rw [if_neg h, hg]
  simp only [ne_eq, not_true_eq_false, false_or, if_neg hc, Int.toNat_natCast]
  rfl

theorem OwnV.fresh {w : World} {base : Nat} {T : TypeId} {a : Option Addr} {n cap : Nat} {l : List Vl} (h : OwnV w base T (.slice a n cap) l) : l ≠ [] → ∃ g, a = some ⟨g, 0, none⟩ ∧ base ≤ g := by
  intro hne
  obtain ⟨h1, h2⟩ := h
  rcases h2 with ⟨_, hn⟩ | ⟨g, cap', cur, hv, hg, _⟩
  · exact absurd (List.length_eq_zero_iff.1 hn) hne
  · injection hv with e1 e2 e3
    exact ⟨g, e1, hg⟩

/-- A call hands back values, in memory of its own, and an error. -/
def RetVF (w : World) (r : List Vl × Int) (e : Ending) (w' : World) : Prop :=
  ∃ a cap, e = .returned (.tuple #[.slice a r.1.length cap, .int .i64 r.2]) ∧ r.1.length ≤ cap ∧ Vs w'.heap.size w' a r.1 ∧ Below w.heap.size w w' ∧ (r.1 ≠ [] → ∃ g, a = some ⟨g, 0, none⟩ ∧ w.heap.size ≤ g)

end Go.Proofs.Ytbglchoamihdlaa

/- The walks of key.tuple and key.Read. -/
namespace Go.Proofs.Ytbglchoamihdlaa
open Go.RowKit

theorem LaterB.belowK {B N : Nat} {w w' : World} (h : LaterB B w w') (hB : N ≤ B) (hN : N ≤ w.heap.size) : Below N w w' :=
  ⟨h.os, h.tape, h.output, h.size, fun k hk => h.block k (by omega) (by omega)⟩

/-- The block of a row of the call's own: another one than V, and the only one that an append to the row may write. -/
theorem OwnV.blk {w : World} {base : Nat} {T : TypeId} {v : Value} {l : List Vl} (h : OwnV w base T v l) (V : Nat) (hV : w.heap.size ≤ V) (hb : base ≤ w.heap.size) :
    ∃ B, V ≠ B ∧ base ≤ B ∧ ∀ w1 w2 : World, w1.grownBy w2 v.ownBlock → LaterB B w1 w2 := by
  obtain ⟨h1, h2⟩ := h
  rcases h2 with ⟨rfl, hn⟩ | ⟨g, cap, cur, rfl, hg, hh, _⟩
  · refine ⟨V + 1, by omega, by omega, fun w1 w2 hgr => ⟨hgr.os, hgr.tape, hgr.output, hgr.size, fun k hk _ => hgr.block k hk (by simp [Value.ownBlock])⟩⟩
  · have hlt : g < w.heap.size := by
      by_cases hlt : g < w.heap.size
      · exact hlt
      · rw [Array.getElem?_eq_none (by omega)] at hh; simp at hh
    refine ⟨g, by omega, hg, fun w1 w2 hgr => ⟨hgr.os, hgr.tape, hgr.output, hgr.size, fun k hk hne => hgr.block k hk (by simp [Value.ownBlock, hne])⟩⟩

/-- 'append(l, x)' as one operation of a region. -/
theorem wp_appV1 {P : Program} {o : Oper} {a : Act} {K : Act → World → Prop} {Q : Exit → Act → World → Prop} (s x : Operand) (t : TypeId)
    (ho : o.op = .call { callee := .builtin .append, args := #[s, x], argTypes := #[t, t] })
    (base : Nat) (e : TypeId) (i : TypeInfo) (z : Value) (bytes : Nat) (ht : P.underlying t = some (.slice e)) (hi : P.info? e = some i) (hz : i.zero = some z) (hzs : z.cells.size = 3)
    (hsize : i.size = 3) (hby : i.bytes = bytes) (hb100 : bytes ≤ 100)
    (v : Value) (l : List Vl) (w : World) (hown : OwnV w base e v l) (hs : a.eval s = v) (y : Vl)
    (hx : a.eval x = .slice (some ⟨w.heap.size, 0, none⟩) 1 1) (hlen : l.length < 1000000000000) (hbase : base ≤ w.heap.size)
    (h : ∀ v' w', OwnV w' base e v' (l ++ [y]) → (w.alloc (.cells #[.int .u8 y.k, .int .i64 y.n, .string y.s] e)).grownBy w' v.ownBlock → K (a.put o.dst v') w') :
    o.wp P a (w.alloc (.cells #[.int .u8 y.k, .int .i64 y.n, .string y.s] e)) K Q := by
  refine wp_append_own (w.alloc (.cells #[.int .u8 (y.k : Int), .int .i64 y.n, .string y.s] e)) s x t ho base e i z 3 bytes ht hi hz hsize hby hzs (by omega) v l.length _ hs (World.ownsRow.alloc hown _) ⟨w.heap.size, 0, none⟩ 1 1 [.int .u8 (y.k : Int), .int .i64 y.n, .string y.s] hx rfl ?_ ?_ ?_ ?_ ?_ ?_
  · intro j u hj
    match j, hj with
    | 0, hj => simp at hj; subst hj; simp [Addr.add]
    | 1, hj => simp at hj; subst hj; simp [Addr.add]
    | 2, hj => simp at hj; subst hj; simp [Addr.add]
  · intro u hu; simp at hu; rcases hu with rfl | rfl | rfl <;> rfl
  · unfold maxLen; omega
  · have : (l.length + 1) * bytes ≤ 1000000000000 * 100 := Nat.mul_le_mul (by omega) hb100
    omega
  · simp; omega
  · intro v' w' hown' hgrow _
    refine h v' w' ?_ hgrow
    unfold OwnV
    have e2 : cellsV (l ++ [y]) = cellsV l ++ [.int .u8 (y.k : Int), .int .i64 y.n, .string y.s] := by simp [cellsV]
    rw [e2]
    simpa using hown'

def lenV : Value → Nat
  | .slice _ n _ => n
  | _ => 0

theorem tupF_nil (f : Nat) (acc : List Vl) : tupF f acc [] = some acc := by cases f <;> simp [tupF]
theorem tupF_none {f : Nat} {acc : List Vl} {r : List Nat} (hr : 0 < r.length) (hf : r.length ≤ f) (hd : decK r = none) : tupF f acc r = none := by
  cases f with
  | zero => omega
  | succ f => rw [tupF, if_neg (by intro h; rw [h] at hr; simp at hr), hd]
theorem tupF_some {f : Nat} {acc : List Vl} {r : List Nat} {x : Vl} {n : Nat} (hr : 0 < r.length) (hf : r.length ≤ f + 1) (hd : decK r = some (x, n)) : tupF (f + 1) acc r = if acc.length = 16 then none else tupF f (acc ++ [x]) (r.drop n) := by
  rw [tupF, if_neg (by intro h; rw [h] at hr; simp at hr), hd]

/-- A tuple, and whether there is one. -/
def RetTu (w : World) (o : Option (List Vl)) (e : Ending) (w' : World) : Prop :=
  Below w.heap.size w w' ∧ ((o = none ∧ e = .returned (.tuple #[.slice none 0 0, .bool false])) ∨
    ∃ l a cap, o = some l ∧ e = .returned (.tuple #[.slice a l.length cap, .bool true]) ∧ l.length ≤ cap ∧ Vs w'.heap.size w' a l)

set_option maxHeartbeats 2000000 in
theorem tuple_any (l : List Nat) (a : Option Addr) (len cap : Nat) (w : World) (hB : Bs w.heap.size w a l) (hlen : len = l.length) (hcap : len ≤ cap) (hmax : len ≤ 1000000) :
    Calls Try.prog 20 #[.slice a len cap] w (RetTu w (tupK l)) := by
  obtain ⟨i0, hi, hz0, hz1, hz2⟩ := info_parts Try.info39
  have HB := Lib.hid hB
  have HL := Lib.hid hlen
  clear hB hlen
  go_enter Try.func20, Try.ntmps20
  go_wp2
  go_loopw [0, 4] (fun b v wr => ∃ (ar : Option Addr) (n c : Nat) (r : List Nat) (f : Nat) (acc : List Vl), b = .slice ar n c ∧ n ≤ c ∧ n ≤ 1000000 ∧ acc.length ≤ 16 ∧ OwnV wr w.heap.size 39 v acc ∧
    Hid (n = r.length ∧ r.length ≤ f ∧ Bs w.heap.size w ar r ∧ tupK l = tupF f acc r) ∧ Below w.heap.size w wr) (fun b _ _ => lenV b)
  case atStart => exact ⟨a, len, cap, l, l.length, [], rfl, hcap, hmax, by simp, OwnV.nil _ _ _, ⟨HL.out, Nat.le_refl _, HB.out, rfl⟩, Below.refl _ _⟩
  case round =>
    obtain ⟨ar, n, c, r, f, acc, rfl, hnc, hnm, hacc, hown, HI, hb⟩ := hrel
    have hsz := hb.size
    by_cases hpos : 0 < n
    · have hD := kdecode_any r ar n c wr ((HI.out.2.2.1.below hb).mono hsz) HI.out.1 hnc hnm hpos
      have HD := Lib.hid hD
      obtain ⟨a5, c5, rfl, hcap5, _⟩ := hown.slice
      obtain ⟨nA, hnA⟩ : ∃ nA, nA = acc.length := ⟨_, rfl⟩
      rw [← hnA] at hown hcap5 hacc ⊢
      have HNA := Lib.hid hnA
      clear hD hnA
      go_wp2_with fail
      refine HD.out.mono ?_
      rintro e w1 ⟨hb1, ⟨hnone, k, z, s, m, rfl⟩ | ⟨x, m, hsome, rfl⟩⟩
      · have HT : Hid (tupK l = none) := by rw [HI.out.2.2.2, tupF_none (by have := HI.out.1; omega) HI.out.2.1 hnone]; rfl
        have hw1 := hb.trans (hb1.mono hsz)
        clear HD hnone hb1 hown
        go_wp2
        go_ret2
        exact ⟨hw1.alloc hw1.size _, .inl ⟨HT.out, rfl⟩⟩
      · obtain ⟨f', rfl⟩ : ∃ f', f = f' + 1 := ⟨f - 1, by have := HI.out.1; have := HI.out.2.1; omega⟩
        have HT := Lib.hid (HI.out.2.2.2.trans (tupF_some (by have := HI.out.1; omega) HI.out.2.1 hsome))
        have hmd := enc_decK r HI.out.2.2.1.1 (by have := HI.out.1; omega) x m hsome
        have hmn : m ≤ n := by have := HI.out.1; omega
        have hm0 : 0 < m := hmd.2.2.1
        have hw1 := hb.trans (hb1.mono hsz)
        have hsz1 := hw1.size
        clear hmd hsome HD
        by_cases h16 : nA = 16
        · have q16 : ((nA : Int) == 16) = true := by simp [h16]
          have HT2 : Hid (tupK l = none) := by rw [HT.out, if_pos (by have := HNA.out; omega)]; rfl
          clear HT h16 hown
          go_wp2
          go_ret2
          exact ⟨hw1.alloc hsz1 _, .inl ⟨HT2.out, rfl⟩⟩
        · have q16 : ((nA : Int) == 16) = false := by simp; omega
          have HT2 : Hid (tupK l = tupF f' (acc ++ [x]) (r.drop m)) := by rw [HT.out, if_neg (by have := HNA.out; omega)]; rfl
          obtain ⟨ar', hBr, hsl⟩ := HI.out.2.2.1.from 22 5 Try.underlying22 Try.sizeOf5 n c m HI.out.1 hmn hnc
          have hszw1 : wr.heap.size ≤ w1.heap.size := hb1.size
          obtain ⟨B, hVB, hBb, hgr⟩ := hown.blk w1.heap.size hszw1 hsz
          have HGr := Lib.hid hgr
          have hownA := (hown.below (Nat.le_refl _) hb1).below (Nat.le_refl _) (Below.box w1 (.cells #[.int .u8 x.k, .int .i64 x.n, .string x.s] 39))
          have hwA := hw1.alloc hsz1 (.cells #[.int .u8 x.k, .int .i64 x.n, .string x.s] 39)
          have HI2 : Hid (n - m = (r.drop m).length ∧ (r.drop m).length ≤ f' ∧ Bs w.heap.size w ar' (r.drop m) ∧ tupK l = tupF f' (acc ++ [x]) (r.drop m)) :=
            ⟨by rw [List.length_drop, HI.out.1], by rw [List.length_drop]; have := HI.out.2.1; omega, hBr, HT2.out⟩
          have hV := Slot.new w1 39 (.int .u8 x.k) (.int .i64 x.n) (.string x.s)
          have hsA : w1.heap.size < (w1.alloc (.cells #[.int .u8 x.k, .int .i64 x.n, .string x.s] 39)).heap.size := by simp
          have a0 := fun W (h : LaterB B (w1.alloc (.cells #[.int .u8 x.k, .int .i64 x.n, .string x.s] 39)).drew W) => (h.undrew.cell (o := 0) hsA hVB).trans hV.1
          have a1 := fun W (h : LaterB B (w1.alloc (.cells #[.int .u8 x.k, .int .i64 x.n, .string x.s] 39)).drew W) => (h.undrew.cell (o := 1) hsA hVB).trans hV.2.1
          have a2 := fun W (h : LaterB B (w1.alloc (.cells #[.int .u8 x.k, .int .i64 x.n, .string x.s] 39)).drew W) => (h.undrew.cell (o := 2) hsA hVB).trans hV.2.2.1
          have hacc2 : (acc ++ [x]).length ≤ 16 := by rw [List.length_append]; have := HNA.out; have := h16; simp only [List.length_cons, List.length_nil]; omega
          clear HT h16 hBr hgr hV hown
          go_wp2_with fail
          generalize (w1.alloc (.cells #[.int .u8 x.k, .int .i64 x.n, .string x.s] 39)) = W0 at *
          refine wp_region_ordB B [(0, true), (1, true), (4, true), (5, true), (6, true), (2, false), (3, false), (7, true), (8, true)] (by kernel_rfl) (by kernel_rfl) (by kernel_rfl) (by kernel_rfl) ?_
          repeat (first | (refine wpO_F (v := ?_) rfl (by rfl) (fun w' hL => ?_) ?_; rotate_left; (solve | (go_simp; with_reducible rfl) | go_simp); try simp only [Act.put, List.setIfInBounds_toArray, List.set_cons_zero, List.set_cons_succ]) | (refine wpO_G rfl (by rfl) ?_; try simp only [Act.put, List.setIfInBounds_toArray, List.set_cons_zero, List.set_cons_succ]))
          refine wpO_C rfl (by rfl) ?_
          go_simp
          refine ⟨Later.toB (Below.box _ _) _, ?_⟩
          try simp only [Act.put, List.setIfInBounds_toArray, List.set_cons_zero, List.set_cons_succ]
          refine wpO_C rfl (by rfl) ?_
          refine wp_appV1 _ _ 27 rfl w.heap.size 39 i0 _ 32 Try.underlying27 hi hz0 rfl hz1 hz2 (by omega) _ acc W0.drew (World.ownsRow.drew hownA) rfl x rfl (by have := HNA.out; omega) (by exact hwA.size) ?_
          intro v3 w3 hown3 hgrow3
          refine ⟨HGr.out _ _ hgrow3, ?_⟩
          try simp only [Act.put, List.setIfInBounds_toArray, List.set_cons_zero, List.set_cons_succ]
          repeat (first | (refine wpO_F (v := ?_) rfl (by rfl) (fun w' hL => ?_) ?_; rotate_left; (solve | (go_simp; with_reducible rfl) | go_simp); try simp only [Act.put, List.setIfInBounds_toArray, List.set_cons_zero, List.set_cons_succ]) | (refine wpO_G rfl (by rfl) ?_; try simp only [Act.put, List.setIfInBounds_toArray, List.set_cons_zero, List.set_cons_succ]))
          refine wpO_nil ?_
          clear a0 a1 a2
          have hb3 : Below w.heap.size w w3 := ((hwA.drew).alloc hwA.size _).trans ((HGr.out _ _ hgrow3).belowK hBb (by simp; exact Nat.le_succ_of_le hwA.size))
          go_wp2
          go_roundw
          case rel => exact ⟨ar', n - m, c - m, r.drop m, f', acc ++ [x], rfl, by omega, by omega, hacc2, hown3, HI2, hb3⟩
          case measure => simp [lenV]; omega
    · have HT : Hid (tupK l = some acc) := by
        rw [HI.out.2.2.2, show r = [] from List.length_eq_zero_iff.1 (by have := HI.out.1; omega), tupF_nil]; rfl
      obtain ⟨a5, c5, rfl, hcap5, hV5⟩ := hown.slice
      have HV5 := Lib.hid hV5
      clear hown hV5
      go_wp2
      go_ret2
      exact ⟨hb, .inr ⟨acc, a5, c5, HT.out, rfl, hcap5, HV5.out⟩⟩

theorem KRead_any (l : List Nat) (a : Option Addr) (len cap : Nat) (w : World) (hB : Bs w.heap.size w a l) (hlen : len = l.length) (hcap : len ≤ cap) (hmax : len ≤ 1000000) :
    Calls Try.prog 13 #[.slice a len cap] w (RetVE w (readK l)) := by
  by_cases hlong : 100 < len
  · have HR : Hid (readK l = ([], 2)) := by unfold readK; rw [if_pos (by omega)]; rfl
    clear hB hlen
    go_enter Try.func13, Try.ntmps13
    go_wp2
    go_ret2
    rw [HR.out]
    exact ⟨none, 0, rfl, by simp, .inl rfl, Below.refl _ _⟩
  · have ql : decide ((100 : Int) < (len : Int)) = false := by simp; omega
    have HT := Lib.hid (tuple_any l a len cap w hB hlen hcap hmax)
    have HR : Hid (readK l = match tupK l with | none => ([], 3) | some l => (l, 0)) := by unfold readK; rw [if_neg (by omega)]; rfl
    clear hB hlen
    go_enter Try.func13, Try.ntmps13
    go_wp2_with fail
    refine HT.out.mono ?_
    rintro e w1 ⟨hb, ⟨hnone, rfl⟩ | ⟨L, a5, c5, hsome, rfl, hc, hV⟩⟩
    · have HR2 : Hid (readK l = ([], 3)) := by rw [HR.out, hnone]; rfl
      clear HT hnone
      go_wp2
      go_ret2
      rw [HR2.out]
      exact ⟨none, 0, rfl, by simp, .inl rfl, hb⟩
    · have HR2 : Hid (readK l = (L, 0)) := by rw [HR.out, hsome]; rfl
      have HV := Lib.hid hV
      clear HT hsome hV
      go_wp2
      go_ret2
      rw [HR2.out]
      exact ⟨a5, c5, rfl, hc, HV.out, hb⟩
end Go.Proofs.Ytbglchoamihdlaa
