/- Several texts of one proof, one behind the other. -/
import Derived.Test.YtialpfdhdcjpaaaSPk22
import Derived.Deep.Cut
set_option linter.unusedSimpArgs false
set_option linter.unusedVariables false

/- The walk of the reference's eight bytes of an integer (layer 4). -/
set_option linter.unusedSimpArgs false
set_option linter.unusedVariables false
set_option maxRecDepth 100000
namespace Go.Proofs.Ytialpfdhdcjpaaa
open Go.RowKit

theorem whole8_be (m : Nat) : whole8 m = beL 8 m := by
  simp [whole8, beL_cons, beL, Nat.div_div_eq_div_mul]

set_option maxRecDepth 100000 in
set_option maxHeartbeats 2000000 in
theorem rnum4_any (n : Int) (w : World) (h1 : -9223372036854775808 ≤ n) (h2 : n ≤ 9223372036854775807) :
    Calls Try.prog 74 #[.int .i64 n] w (RetOwn w (whole8 (up64 n))) := by
  obtain ⟨i0, hi0, hz0, hz1, hz2⟩ := info_parts Try.info5
  rw [whole8_be]
  have hm : up64 n < 18446744073709551616 := by unfold up64; omega
  have e0 : IntKind.u64.wrap (IntKind.u64.wrap n + 9223372036854775808) = ((up64 n : Nat) : Int) := by
    unfold up64
    simp only [IntKind.wrap, IntKind.bits, IntKind.signed]
    go_num
  generalize up64 n = m at *
  clear h1 h2
  go_enter Try.func74, Try.ntmps74
  go_wp2
  go_loopw [3, 4, 5] (fun x v i wr => ∃ (k : Nat) (a : Option Addr) (cap : Nat), k ≤ 8 ∧ i = .int .i64 k ∧ x = .int .u64 ((m / 256 ^ k : Nat) : Int) ∧ v = .slice a k cap ∧ wr.ownsRow w.heap.size 5 1 (.slice a k cap) k (cellsU (beL k m)) ∧ Below w.heap.size w wr) (fun _ _ i _ => 8 - (intOf i).toNat)
  case atStart => exact ⟨0, none, 0, by omega, rfl, by simp [e0], rfl, World.ownsRow_nil _ _ _ _, Below.refl _ _⟩
  case round =>
    obtain ⟨k, a, cap, hk, rfl, rfl, rfl, hown, hb⟩ := hrel
    have hN : m / 256 ^ k ≤ m := Nat.div_le_self _ _
    clear e0
    by_cases hlt : k < 8
    · have HC : Hid (cellsU (beL (k + 1) m) = [.int .u8 (((m / 256 ^ k : Nat) : Int) % 256)] ++ cellsU (beL k m)) := by rw [beL_cons]; rfl
      have HD : Hid (m / 256 ^ (k + 1) = m / 256 ^ k / 256) := by rw [Nat.pow_succ, Nat.div_div_eq_div_mul]; rfl
      obtain ⟨_, _, e1, g1, g2, harr⟩ := own_slice hown
      simp only [Value.slice.injEq, true_and] at e1
      obtain ⟨rfl, rfl⟩ := e1
      generalize m / 256 ^ k = N at *
      have hbs := hb.size
      have hone : (wr.alloc (.cells #[.int .u8 ((N : Int) % 256)] 5)).ownsRow w.heap.size 5 1 (.slice (some ⟨wr.heap.size, 0, none⟩) 1 1) 1 [.int .u8 ((N : Int) % 256)] := World.ownsRow_lit wr #[.int .u8 ((N : Int) % 256)] 1 hbs (by unfold maxLen; omega) rfl
      have HOne := Lib.hid hone
      have HArr : Hid (Arr (wr.alloc (.cells #[.int .u8 ((N : Int) % 256)] 5)).heap.size (wr.alloc (.cells #[.int .u8 ((N : Int) % 256)] 5)) a (cellsU (beL k m))) := harr.later (N := 0) ((Below.refl _ _).alloc (Nat.le_refl _) _)
      have HB := Lib.hid hb
      have hbs2 : w.heap.size ≤ (wr.alloc (.cells #[.int .u8 ((N : Int) % 256)] 5)).heap.size := by simp; omega
      have HLB : Hid ((cellsU (beL k m)).length = k * 1) := by show _ = _; rw [cellsU_len, beL_len]
      clear hone harr hown hb
      go_wp2_with (at_builtin; refine wpList_appS rfl (.tmp 16) (.tmp 17) 32 rfl w.heap.size 5 i0 (.int .u8 0) 1 1 Try.underlying32 hi0 hz0 rfl hz1 (by omega) hz2 (by omega) (.slice (some ⟨wr.heap.size, 0, none⟩) 1 1) 1 _ _ HOne.out rfl _ a k cap (cellsU (beL k m)) HArr.out HLB.out (one_B _) rfl (by omega) hbs2 ?_; intro v' w' hown' _ hb'; obtain ⟨a', c', rfl, _, _, _⟩ := own_slice hown'; have HOwn' := Lib.hid hown'; have HB' := Lib.hid hb'; clear hown' hb')
      go_roundw
      case rel => exact ⟨k + 1, a', c', by omega, by go_num, by rw [HD.out]; rfl, by rw [Nat.add_comm], by rw [HC.out, Nat.add_comm k 1]; exact HOwn'.out, HB.out.trans ((Below.refl _ _).alloc hbs _ |>.trans HB'.out)⟩
      case measure => simp [intOf]; omega
    · have hkk : k = 8 := by omega
      subst hkk
      have HE : Hid (RetOwn w (beL 8 m) (.returned (.slice a 8 cap)) wr) := ⟨_, rfl, beL_lt _ _, by rw [beL_len]; exact hown, hb⟩
      clear hown hb hN
      go_wp2
      go_ret
      exact HE.out
end Go.Proofs.Ytialpfdhdcjpaaa

/- The walk of the reference's Write (layer 4). (Made by wip/gen/genrkw.py.) -/
set_option linter.unusedSimpArgs false
set_option linter.unusedVariables false
set_option maxRecDepth 100000
namespace Go.Proofs.Ytialpfdhdcjpaaa
open Go.RowKit

theorem escL_split (l : List Nat) (j : Nat) : escL l = escL (l.take j) ++ escL (l.drop j) := by
  conv => lhs; rw [← List.take_append_drop j l]
  unfold escL; rw [List.flatMap_append]
theorem escL_take_le (l : List Nat) (j : Nat) : (escL (l.take j)).length ≤ (escL l).length := by
  rw [escL_split l j, List.length_append]; omega
theorem keyL_take_le (l : List Vl) (k : Nat) : (keyL (l.take k)).length ≤ (keyL l).length := by
  have : keyL l = keyL (l.take k) ++ keyL (l.drop k) := by
    conv => lhs; rw [← List.take_append_drop k l]
    unfold keyL; rw [List.flatMap_append]
  rw [this, List.length_append]; omega
theorem byte_at (s : ByteArray) (j : Nat) (h : j < s.size) (h2 : j < (bytesOf s).length) : (bytesOf s)[j] = (s[j]'h).toNat := by
  simp [bytesOf]; rfl
theorem OwnB.ofU {w : World} {base : Nat} {T : TypeId} {v : Value} {l : List Nat} (hl : ∀ c ∈ l, c < 256) (h : w.ownsRow base T 1 v l.length (cellsU l)) : ∃ a c, v = .slice a l.length c ∧ Bs w.heap.size w a l := by
  obtain ⟨a, c, hv, _, _, hA⟩ := own_slice h
  exact ⟨a, c, hv, hA.bs hl⟩
/-- A call hands back bytes in a block that it made, and an error. -/
def RetBF (w : World) (r : List Nat × Int) (e : Ending) (w' : World) : Prop :=
  ∃ a cap, e = .returned (.tuple #[.slice a r.1.length cap, .int .i64 r.2]) ∧ r.1.length ≤ cap ∧ Bs w'.heap.size w' a r.1 ∧ (∀ g, a = some g → r.1 ≠ [] → w.heap.size ≤ g.block) ∧ Below w.heap.size w w'
theorem Bs.chg {N : Nat} {w w' : World} {a : Option Addr} {l : List Nat} {S : List Nat} (h : Bs N w a l) (hN : N ≤ w.heap.size) (hc : Chg S w w') (hn : ∀ g, a = some g → l ≠ [] → g.block ∉ S) : Bs N w' a l := by
  refine ⟨h.1, ?_⟩
  rcases h.2 with h2 | ⟨b, o, ha, hb, hcell⟩
  · exact .inl h2
  · by_cases hl : l = []
    · exact .inl hl
    · exact .inr ⟨b, o, ha, hb, fun i c hi => (hc.cell (b := b) (by omega) (hn _ ha hl)).trans (hcell i c hi)⟩
/-- How far the outer loop is. -/
def KwAt (l : List Vl) (k : Nat) (O : List Nat) : Prop := O = keyL (l.take k) ∨ (100 < O.length ∧ 100 < (keyL l).length)
theorem KwAt.long {l : List Vl} {k : Nat} {O : List Nat} (h : KwAt l k O) (h2 : 100 < O.length) : 100 < (keyL l).length := by
  rcases h with rfl | h
  · exact Nat.lt_of_lt_of_le h2 (keyL_take_le l k)
  · exact h.2
theorem KwAt.short {l : List Vl} {k : Nat} {O : List Nat} (h : KwAt l k O) (h2 : ¬ 100 < O.length) : O = keyL (l.take k) := by
  rcases h with h | h
  · exact h
  · exact absurd h.1 h2

set_option maxHeartbeats 16000000 in
theorem rKWrite_any (l : List Vl) (a : Option Addr) (len cap : Nat) (w : World) (hV : Vs w.heap.size w a l) (hlen : len = l.length) (hmax : len ≤ 1000000) (hf : ∀ x ∈ l, x.fair) :
    Calls Try.prog 52 #[.slice a len cap] w (RetBF w (writeK l)) := by
  obtain ⟨i0, hi, hz0, hz1, hz2⟩ := info_parts Try.info5
  have HV := Lib.hid hV
  have HL := Lib.hid hlen
  have HF := Lib.hid hf
  clear hV hf
  by_cases h16 : 16 < len
  · have hro : rowOk l = false := by
      rw [Bool.eq_false_iff]; intro h; have := ((rowOk_iff l).1 h).1; omega
    rw [writeK_bad hro]
    have q16 : decide ((16 : Int) < (len : Int)) = true := by simp; omega
    clear hlen h16
    go_enter Try.func52, Try.ntmps52
    go_wp2
    go_ret2
    exact ⟨none, 0, rfl, Nat.le_refl _, ⟨by simp, .inl rfl⟩, (by intro g hg; cases hg), Below.refl _ _⟩
  · have q16 : decide ((16 : Int) < (len : Int)) = false := by simp; omega
    have h17 : len ≤ 16 := by omega
    clear hlen h16 hmax
    go_enter Try.func52, Try.ntmps52
    go_wp2
    clear q16
    go_loopw [4] (fun i wr => ∃ k : Nat, k ≤ len ∧ i = .int .i64 k ∧ Hid (∀ x ∈ l.take k, x.right = true) ∧ Below w.heap.size w wr) (fun i _ => len - (intOf i).toNat)
    case atStart => exact ⟨0, by omega, rfl, by simp [Hid], Below.refl _ _⟩
    case round =>
      obtain ⟨k, hk, rfl, HR, hb⟩ := hrel
      by_cases hlt : k < len
      · have hkl : k < l.length := by have := HL.out; omega
        obtain ⟨b, o, rfl, hbN, c0, c1, c2⟩ := HV.out.at_ hkl
        replace c0 := (hb.cell (p := ⟨b, o + k * 3, none⟩) hbN).trans c0
        replace c1 := (hb.cell (p := ⟨b, o + k * 3 + 1, none⟩) hbN).trans c1
        replace c2 := (hb.cell (p := ⟨b, o + k * 3 + 2, none⟩) hbN).trans c2
        have HNx : Hid (l[k].right = true → ∀ x ∈ l.take (k + 1), x.right = true) := by
          intro h x hx
          rw [List.take_succ_eq_append_getElem hkl] at hx
          rcases List.mem_append.1 hx with hx | hx
          · exact HR.out x hx
          · rw [List.mem_singleton.1 hx]; exact h
        have HBad : Hid (l[k].right = false → rowOk l = false) := by
          intro h
          rw [Bool.eq_false_iff]; intro h2
          have := ((rowOk_iff l).1 h2).2 _ (List.getElem_mem hkl)
          rw [h] at this; cases this
        obtain ⟨y, hy⟩ : ∃ y, y = l[k] := ⟨_, rfl⟩
        rw [← hy] at c0 c1 c2 HNx HBad
        have HC := Lib.hid (fun W => rright_any y.k y.n y.s W)
        have HB := Lib.hid hb
        obtain ⟨g, hg⟩ : ∃ g, Vl.right y = g := ⟨_, rfl⟩
        rw [show Vl.right ⟨y.k, y.n, y.s⟩ = g from hg] at HC
        rw [hg] at HNx HBad
        clear hy HR hbN hkl hg hb
        go_wp2_with fail
        refine (HC.out _).mono ?_
        rintro e w2 ⟨rfl, hb2⟩
        have HB2 := Lib.hid (HB.out.trans (hb2.mono HB.out.size))
        clear hb2 HB HC
        cases g with
        | true =>
          have HA := Lib.hid (HNx.out rfl)
          clear HNx HBad
          go_wp2
          go_roundw
          case rel => exact ⟨k + 1, by omega, by go_num, HA, HB2.out⟩
          case measure => simp [intOf]; omega
        | false =>
          have HA := Lib.hid (writeK_bad (HBad.out rfl))
          clear HNx HBad
          go_wp2
          (try rw [Exit.noGoto_ret])
          go_ret2
          rw [HA.out]
          exact ⟨none, 0, rfl, Nat.le_refl _, ⟨by simp, .inl rfl⟩, (by intro g hg; cases hg), HB2.out⟩
      · have hke : k = len := by omega
        subst hke
        have hall : ∀ x ∈ l, x.right = true := by have := HR.out; rwa [List.take_of_length_le (by have := HL.out; omega)] at this
        have HRt := Lib.hid hall
        have HRo : Hid (rowOk l = true) := (rowOk_iff l).2 ⟨by have := HL.out; omega, hall⟩
        have HB := Lib.hid hb
        clear HR hall hb hk hlt
        go_wp2
        go_loopw [5, 6] (fun v i wr => ∃ (j : Nat) (O : List Nat) (ao : Option Addr) (no co : Nat), j ≤ k ∧ i = .int .i64 j ∧ v = .slice ao no co ∧ Hid (OwnB wr w.heap.size 5 (.slice ao no co) O) ∧ no ≤ 1000 ∧ Hid (no = O.length) ∧ Hid (KwAt l j O) ∧ Hid (Below w.heap.size w wr)) (fun _ i _ => k - (intOf i).toNat)
        case atStart => exact ⟨0, [], none, 0, 0, by omega, rfl, rfl, OwnB.nil _ _ _, by simp, rfl, .inl rfl, HB⟩
        case round =>
          clear HB
          obtain ⟨j, O, ao, no, co, hj, rfl, rfl, HOwn, hOl, HNO, HK, HB⟩ := hrel
          have HEnd : Hid (100 < no → writeK l = ([], 2)) := fun h => writeK_long HRo.out (HK.out.long (by have := HNO.out; omega))
          by_cases hjk : j < k
          · by_cases hO : 100 < no
            · have HA := Lib.hid (HEnd.out hO)
              have q1 : decide ((no : Int) ≤ 100) = false := by simp; omega
              have q2 : decide ((100 : Int) < (no : Int)) = true := by simp; omega
              have q1n : decide (no ≤ 100) = false := by simp; omega
              have q2n : decide (100 < no) = true := by simp; omega
              clear HEnd
              go_wp2
              (try rw [Exit.noGoto_ret])
              go_ret2
              rw [HA.out]
              exact ⟨none, 0, rfl, Nat.le_refl _, ⟨by simp, .inl rfl⟩, (by intro g hg; cases hg), HB.out⟩
            · have hjl : j < l.length := by have := HL.out; omega
              obtain ⟨b, o, rfl, hbN, c0, c1, c2⟩ := HV.out.at_ hjl
              have hOe := HK.out.short (by have := HNO.out; omega)
              have HT : Hid (keyL (l.take (j + 1)) = O ++ encK l[j]) := by show _ = _; rw [keyL_take l j hjl, hOe]
              have hry := HRt.out _ (List.getElem_mem hjl)
              have hfy := HF.out _ (List.getElem_mem hjl)
              have HTL : Hid ((keyL (l.take (j + 1))).length ≤ (keyL l).length) := keyL_take_le l (j + 1)
              rw [HT.out] at HTL
              obtain ⟨y, hy⟩ : ∃ y, y = l[j] := ⟨_, rfl⟩
              rw [← hy] at c0 c1 c2 HT HTL hry hfy
              have HC := Lib.hid (fun W (hb : Below w.heap.size w W) => (show W.cell? ⟨b, o + j * 3, none⟩ = some (.int .u8 (y.k : Int)) ∧ W.cell? ⟨b, o + j * 3 + 1, none⟩ = some (.int .i64 y.n) ∧ W.cell? ⟨b, o + j * 3 + 2, none⟩ = some (.string y.s) from ⟨(hb.cell (p := ⟨b, o + j * 3, none⟩) hbN).trans c0, (hb.cell (p := ⟨b, o + j * 3 + 1, none⟩) hbN).trans c1, (hb.cell (p := ⟨b, o + j * 3 + 2, none⟩) hbN).trans c2⟩))
              have HSm := Lib.hid hfy.2.2
              have HNb := Lib.hid hfy.2.1
              have q1 : decide ((no : Int) ≤ 100) = true := by simp; omega
              have q1n : decide (no ≤ 100) = true := by simp; omega
              have hsz := HB.out.size
              clear hy hbN c0 c1 c2 hOe hjl HEnd HK hfy
              rcases right_kind hry with h | h | ⟨hkd, h⟩
              · subst h
                have HOw := HOwn
                obtain ⟨c0, c1, c2⟩ := HC.out _ HB.out
                go_wp2_with (first | (at_builtin; refine wpList_app1 rfl _ _ 32 rfl w.heap.size 5 i0 Try.underlying32 hi hz0 hz1 hz2 _ O wr HOwn.out rfl 16 (by omega) _ rfl rfl (by have := HNO.out; omega) hsz ?_; intro v1 w1 hown1 hb1 hsz1; have HB1 := Lib.hid (HB.out.trans hb1); obtain ⟨d0, d1, d2⟩ := HC.out _ HB1.out; have HO1 := Lib.hid hown1; have hs1 := HB1.out.size; clear hown1 hb1 hsz1))
                clear c0 c1 c2
                have hP : (O ++ [16]).length ≤ 200 := by have := HNO.out; simp; omega
                obtain ⟨P, hPe⟩ : ∃ P, P = O ++ [16] := ⟨_, rfl⟩
                rw [← hPe] at HO1 hP
                have HPe := Lib.hid hPe
                clear hPe
                obtain ⟨a1, c1, hv1, _, hB1, _⟩ := HO1.out.slice
                obtain ⟨n1, hn1⟩ : ∃ n, n = P.length := ⟨_, rfl⟩
                rw [← hn1] at hv1 hP
                have HN1 := Lib.hid hn1
                subst hv1
                clear hB1 hn1
                go_loopw [5, 7] (fun v i wr => ∃ (q : Nat) (D : List Nat) (ad : Option Addr) (nd cd : Nat), q ≤ 0 ∧ i = .int .i64 q ∧ v = .slice ad nd cd ∧ Hid (OwnB wr w.heap.size 5 (.slice ad nd cd) D) ∧ nd ≤ 400 ∧ Hid (nd = D.length) ∧ Hid (D = P ++ escL ((bytesOf (⟨#[]⟩ : ByteArray)).take q)) ∧ Hid (Below w.heap.size w wr)) (fun _ i _ => 0 - (intOf i).toNat)
                case atStart => exact ⟨0, P, a1, n1, c1, by omega, rfl, rfl, HO1, by omega, HN1, by simp [Hid, escL], HB1⟩
                case round =>
                  clear d0 d1 d2 HO1 HB1 hs1
                  obtain ⟨q, D, ad, nd, cd, hq, rfl, rfl, HD, hDl, HND, HDe, HBq⟩ := hrel
                  obtain ⟨c0, c1, c2⟩ := HC.out _ HBq.out
                  have hsq := HBq.out.size
                  have hq0 : q = 0 := by simpa using hq
                  have qq : decide ((q : Int) < 0) = false := by simp
                  have HQ := Lib.hid hq
                  have HN : Hid (keyL (l.take (j + 1)) = D) := by
                    show _ = _
                    rw [HT.out, HDe.out, HPe.out]
                    have : q = 0 := by simpa using hq
                    subst this
                    simp [encK, escL]
                  clear HT HTL HDe
                  go_wp2
                  go_roundw
                  case rel => exact ⟨j + 1, D, ad, nd, cd, by omega, by go_num, rfl, HD, by omega, HND, .inl HN.out.symm, HBq⟩
                  case measure => simp [intOf]; omega
              · obtain ⟨yk, n, ys⟩ := y
                simp only [Vl.mk.injEq] at h
                obtain ⟨rfl, -, rfl⟩ := h
                dsimp only at HC HNb
                have HOw := HOwn
                obtain ⟨c0, c1, c2⟩ := HC.out _ HB.out
                go_wp2_with (first | (at_builtin; refine wpList_app1 rfl _ _ 32 rfl w.heap.size 5 i0 Try.underlying32 hi hz0 hz1 hz2 _ O wr HOwn.out rfl 17 (by omega) _ rfl rfl (by have := HNO.out; omega) hsz ?_; intro v1 w1 hown1 hb1 hsz1; have HB1 := Lib.hid (HB.out.trans hb1); obtain ⟨d0, d1, d2⟩ := HC.out _ HB1.out; have HO1 := Lib.hid hown1; have hs1 := HB1.out.size; clear hown1 hb1 hsz1))
                refine (rnum4_any n w1 HNb.out.1 HNb.out.2).mono ?_
                rintro e w2 ⟨v2, rfl, hl2, hown2, hb2⟩
                obtain ⟨a2, c2', hv2, hB2⟩ := OwnB.ofU hl2 hown2
                subst hv2
                have HB2 := Lib.hid (HB1.out.trans (hb2.mono HB1.out.size))
                have HO2 := Lib.hid (HO1.out.below (Nat.le_refl _) hb2)
                obtain ⟨e0, e1, e2⟩ := HC.out _ HB2.out
                have hs2 := HB2.out.size
                have hw8 : (whole8 (up64 n)).length = 8 := rfl
                have hw8n : whole8 (up64 n) ≠ [] := by intro h; rw [h] at hw8; cases hw8
                have HW8 := Lib.hid hw8
                have HB2' := Lib.hid hB2
                clear hown2 hb2 hl2 HO1 HB1 hs1 hB2 hw8 d0 d1 d2
                go_wp2_with (first | (at_builtin; refine wpList_appB rfl _ _ 32 rfl w.heap.size 5 i0 Try.underlying32 hi hz0 hz1 hz2 _ (O ++ [17]) w2 HO2.out rfl w2.heap.size a2 (whole8 (up64 n)) (whole8 (up64 n)).length c2' HB2'.out hw8n rfl rfl (by rw [HW8.out, List.length_append]; have := HNO.out; simp; omega) hs2 ?_; intro v1 w1x hown1 hb1 hsz1; have HB1 := Lib.hid (HB2.out.trans hb1); obtain ⟨d0, d1, d2⟩ := HC.out _ HB1.out; have HO1 := Lib.hid hown1; have hs1 := HB1.out.size; clear hown1 hb1 hsz1 e0 e1 e2))
                clear c0 c1 c2
                have hP : ((O ++ [17]) ++ whole8 (up64 n)).length ≤ 200 := by rw [List.length_append, HW8.out]; have := HNO.out; simp; omega
                obtain ⟨P, hPe⟩ : ∃ P, P = (O ++ [17]) ++ whole8 (up64 n) := ⟨_, rfl⟩
                rw [← hPe] at HO1 hP
                have HPe := Lib.hid hPe
                clear hPe
                obtain ⟨a1, c1, hv1, _, hB1, _⟩ := HO1.out.slice
                obtain ⟨n1, hn1⟩ : ∃ n, n = P.length := ⟨_, rfl⟩
                rw [← hn1] at hv1 hP
                have HN1 := Lib.hid hn1
                subst hv1
                clear hB1 hn1
                go_loopw [5, 7] (fun v i wr => ∃ (q : Nat) (D : List Nat) (ad : Option Addr) (nd cd : Nat), q ≤ 0 ∧ i = .int .i64 q ∧ v = .slice ad nd cd ∧ Hid (OwnB wr w.heap.size 5 (.slice ad nd cd) D) ∧ nd ≤ 400 ∧ Hid (nd = D.length) ∧ Hid (D = P ++ escL ((bytesOf (⟨#[]⟩ : ByteArray)).take q)) ∧ Hid (Below w.heap.size w wr)) (fun _ i _ => 0 - (intOf i).toNat)
                case atStart => exact ⟨0, P, a1, n1, c1, by omega, rfl, rfl, HO1, by omega, HN1, by simp [Hid, escL], HB1⟩
                case round =>
                  clear d0 d1 d2 HO1 HB1 hs1
                  obtain ⟨q, D, ad, nd, cd, hq, rfl, rfl, HD, hDl, HND, HDe, HBq⟩ := hrel
                  obtain ⟨c0, c1, c2⟩ := HC.out _ HBq.out
                  have hsq := HBq.out.size
                  have hq0 : q = 0 := by simpa using hq
                  have qq : decide ((q : Int) < 0) = false := by simp
                  have HQ := Lib.hid hq
                  have HN : Hid (keyL (l.take (j + 1)) = D) := by
                    show _ = _
                    rw [HT.out, HDe.out, HPe.out]
                    have : q = 0 := by simpa using hq
                    subst this
                    simp [encK, escL]
                  clear HT HTL HDe
                  go_wp2
                  go_roundw
                  case rel => exact ⟨j + 1, D, ad, nd, cd, by omega, by go_num, rfl, HD, by omega, HND, .inl HN.out.symm, HBq⟩
                  case measure => simp [intOf]; omega
              · obtain ⟨yk, yn, s⟩ := y
                simp only [Vl.mk.injEq] at h
                obtain ⟨-, rfl, -⟩ := h
                dsimp only at HC HSm hkd
                rcases hkd with rfl | rfl
                · skip
                  have HOw := HOwn
                  obtain ⟨c0, c1, c2⟩ := HC.out _ HB.out
                  go_wp2_with (first | (at_builtin; refine wpList_app1 rfl _ _ 32 rfl w.heap.size 5 i0 Try.underlying32 hi hz0 hz1 hz2 _ O wr HOwn.out rfl 18 (by omega) _ rfl rfl (by have := HNO.out; omega) hsz ?_; intro v1 w1 hown1 hb1 hsz1; have HB1 := Lib.hid (HB.out.trans hb1); obtain ⟨d0, d1, d2⟩ := HC.out _ HB1.out; have HO1 := Lib.hid hown1; have hs1 := HB1.out.size; clear hown1 hb1 hsz1))
                  clear c0 c1 c2
                  have hP : (O ++ [18]).length ≤ 200 := by have := HNO.out; simp; omega
                  obtain ⟨P, hPe⟩ : ∃ P, P = O ++ [18] := ⟨_, rfl⟩
                  rw [← hPe] at HO1 hP
                  have HPe := Lib.hid hPe
                  clear hPe
                  obtain ⟨a1, c1, hv1, _, hB1, _⟩ := HO1.out.slice
                  obtain ⟨n1, hn1⟩ : ∃ n, n = P.length := ⟨_, rfl⟩
                  rw [← hn1] at hv1 hP
                  have HN1 := Lib.hid hn1
                  subst hv1
                  clear hB1 hn1
                  go_loopw [5, 7] (fun v i wr => ∃ (q : Nat) (D : List Nat) (ad : Option Addr) (nd cd : Nat), q ≤ s.size ∧ i = .int .i64 q ∧ v = .slice ad nd cd ∧ Hid (OwnB wr w.heap.size 5 (.slice ad nd cd) D) ∧ nd ≤ 400 ∧ Hid (nd = D.length) ∧ Hid (D = P ++ escL ((bytesOf s).take q)) ∧ Hid (Below w.heap.size w wr)) (fun _ i _ => s.size - (intOf i).toNat)
                  case atStart => exact ⟨0, P, a1, n1, c1, by omega, rfl, rfl, HO1, by omega, HN1, by simp [Hid, escL], HB1⟩
                  case round =>
                    clear d0 d1 d2 HO1 HB1 hs1
                    obtain ⟨q, D, ad, nd, cd, hq, rfl, rfl, HD, hDl, HND, HDe, HBq⟩ := hrel
                    obtain ⟨c0, c1, c2⟩ := HC.out _ HBq.out
                    have hsq := HBq.out.size
                    by_cases hqs : q < s.size
                    · by_cases hD : 100 < nd
                      · have q3 : decide ((nd : Int) ≤ 100) = false := by simp; omega
                        have q3n : decide (nd ≤ 100) = false := by simp; omega
                        have HN : Hid (KwAt l (j + 1) (D ++ [0, 1])) := by
                          show KwAt _ _ _
                          by_cases hqs : q = s.size
                          · left
                            rw [HT.out, HDe.out, HPe.out]
                            have : (bytesOf s).take q = bytesOf s := List.take_of_length_le (by rw [bytesOf_len]; omega)
                            rw [this]
                            simp [encK]
                          · right
                            have hD : 100 < D.length := by have := HND.out; omega
                            refine ⟨by simp; omega, ?_⟩
                            refine Nat.lt_of_lt_of_le ?_ HTL.out
                            have h1 := escL_take_le (bytesOf s) q
                            have h2 : D.length = (O ++ [18]).length + (escL ((bytesOf s).take q)).length := by rw [HDe.out, HPe.out, List.length_append]
                            have h3 : (O ++ encK ⟨2, 0, s⟩).length = O.length + (1 + ((escL (bytesOf s)).length + 2)) := by simp [encK]; omega
                            rw [h3]
                            simp at h2
                            omega
                        have hB01 := Bs.new wr [0, 1] (by simp) #[.int .u8 0, .int .u8 1] 5 (by intro i c hi; match i, hi with | 0, hi => simp at hi; subst hi; rfl | 1, hi => simp at hi; subst hi; rfl)
                        have hown9 := HD.out.below (Nat.le_refl _) (Below.box wr (.cells #[.int .u8 0, .int .u8 1] 5))
                        have hb9 : Below w.heap.size w (wr.alloc (.cells #[.int .u8 0, .int .u8 1] 5)) := HBq.out.alloc hsq _
                        have HO9 := Lib.hid hown9
                        have HB9 := Lib.hid hb9
                        have HB01 := Lib.hid hB01
                        have hs9 := hb9.size
                        clear hown9 hb9 hB01 HT HTL HDe
                        go_wp2_with (first | (at_builtin; refine wpList_appB rfl _ _ 32 rfl w.heap.size 5 i0 Try.underlying32 hi hz0 hz1 hz2 _ D _ HO9.out rfl (wr.heap.size + 1) (some ⟨wr.heap.size, 0, none⟩) [0, 1] 2 2 HB01.out (by simp) rfl rfl (by have := HND.out; simp; omega) hs9 ?_; intro v6 w6 hown6 hb6 hsz6; obtain ⟨a6, c6, hv6, _, _, _⟩ := hown6.slice; obtain ⟨n6, hn6⟩ : ∃ n, n = (D ++ [0, 1]).length := ⟨_, rfl⟩; rw [← hn6] at hv6; have hl6 : n6 ≤ 1000 := (by have := HND.out; rw [hn6]; simp; omega); have HN6 := Lib.hid hn6; clear hn6; subst hv6; have HO6 := Lib.hid hown6; have HB6 := Lib.hid (HB9.out.trans hb6); clear hown6 hb6 hsz6))
                        go_roundw
                        case rel => exact ⟨j + 1, D ++ [0, 1], a6, n6, c6, by omega, by go_num, rfl, HO6, hl6, HN6, HN, HB6⟩
                        case measure => simp [intOf]; omega
                      · have q3 : decide ((nd : Int) ≤ 100) = true := by simp; omega
                        have q3n : decide (nd ≤ 100) = true := by simp; omega
                        have hqb : q < (bytesOf s).length := by rw [bytesOf_len]; exact hqs
                        have HE := Lib.hid (escL_take (bytesOf s) q hqb)
                        rw [byte_at s q hqs hqb] at HE
                        have hc256 := (s[q]'hqs).toNat_lt
                        have hq100 : q ≤ 100 := by
                          have h1 := escL_ge ((bytesOf s).take q)
                          have h2 := HND.out
                          rw [HDe.out, List.length_append] at h2
                          rw [List.length_take] at h1
                          omega
                        by_cases h0 : (s[q]'hqs).toNat = 0
                        · have HE2 : Hid (P ++ escL ((bytesOf s).take (q + 1)) = (D ++ [(s[q]'hqs).toNat]) ++ [255]) := by show _ = _; rw [HE.out, if_pos h0, HDe.out, h0]; simp
                          have qz : (((s[q]'hqs).toNat : Int) == 0) = true := by simp; omega
                          clear HE HDe HT HTL h0
                          go_wp2_with (first
                            | (at_builtin; refine wpList_app1 rfl _ _ 32 rfl w.heap.size 5 i0 Try.underlying32 hi hz0 hz1 hz2 _ D wr HD.out rfl (s[q]'hqs).toNat hc256 _ rfl rfl (by have := HND.out; omega) hsq ?_; intro v3 w3 hown3 hb3 hsz3; have HB3 := Lib.hid (HBq.out.trans hb3); obtain ⟨d0, d1, d2⟩ := HC.out _ HB3.out; have HO3 := Lib.hid hown3; have hs3 := HB3.out.size; clear hown3 hb3 hsz3)
                            | (at_builtin; refine wpList_app1 rfl _ _ 32 rfl w.heap.size 5 i0 Try.underlying32 hi hz0 hz1 hz2 _ (D ++ [(s[q]'hqs).toNat]) w3 HO3.out rfl 255 (by omega) _ rfl rfl (by have := HND.out; simp; omega) hs3 ?_; intro v4 w4 hown4 hb4 hsz4; obtain ⟨a4, c4, hv4, _, _, _⟩ := hown4.slice; obtain ⟨n4, hn4⟩ : ∃ n, n = ((D ++ [(s[q]'hqs).toNat]) ++ [255]).length := ⟨_, rfl⟩; rw [← hn4] at hv4; have hl4 : n4 ≤ 400 := (by have := HND.out; rw [hn4]; simp; omega); have HN4 := Lib.hid hn4; clear hn4; subst hv4; have HB4 := Lib.hid (HB3.out.trans hb4); have HO4 := Lib.hid hown4; clear hown4 hb4 hsz4))
                          go_roundw
                          case rel => exact ⟨q + 1, (D ++ [(s[q]'hqs).toNat]) ++ [255], a4, n4, c4, by omega, by go_num, rfl, HO4, hl4, HN4, HE2.out.symm, HB4⟩
                          case measure => simp [intOf]; omega
                        · have HE2 : Hid (P ++ escL ((bytesOf s).take (q + 1)) = D ++ [(s[q]'hqs).toNat]) := by show _ = _; rw [HE.out, if_neg h0, HDe.out]; simp
                          have qz : (((s[q]'hqs).toNat : Int) == 0) = false := by simp; omega
                          clear HE HDe HT HTL h0
                          go_wp2_with (first
                            | (at_builtin; refine wpList_app1 rfl _ _ 32 rfl w.heap.size 5 i0 Try.underlying32 hi hz0 hz1 hz2 _ D wr HD.out rfl (s[q]'hqs).toNat hc256 _ rfl rfl (by have := HND.out; omega) hsq ?_; intro v3 w3 hown3 hb3 hsz3; have HB3 := Lib.hid (HBq.out.trans hb3); obtain ⟨d0, d1, d2⟩ := HC.out _ HB3.out; obtain ⟨a4, c4, hv4, _, _, _⟩ := hown3.slice; obtain ⟨n4, hn4⟩ : ∃ n, n = (D ++ [(s[q]'hqs).toNat]).length := ⟨_, rfl⟩; rw [← hn4] at hv4; have hl4 : n4 ≤ 400 := (by have := HND.out; rw [hn4]; simp; omega); have HN4 := Lib.hid hn4; clear hn4; subst hv4; have HO3 := Lib.hid hown3; clear hown3 hb3 hsz3))
                          go_roundw
                          case rel => exact ⟨q + 1, D ++ [(s[q]'hqs).toNat], a4, n4, c4, by omega, by go_num, rfl, HO3, hl4, HN4, HE2.out.symm, HB3⟩
                          case measure => simp [intOf]; omega
                    · have qq : decide ((q : Int) < (s.size : Int)) = false := by simp; omega
                      have qqn : decide (q < s.size) = false := by simp; omega
                      have HN : Hid (KwAt l (j + 1) (D ++ [0, 1])) := by
                        show KwAt _ _ _
                        by_cases hqs : q = s.size
                        · left
                          rw [HT.out, HDe.out, HPe.out]
                          have : (bytesOf s).take q = bytesOf s := List.take_of_length_le (by rw [bytesOf_len]; omega)
                          rw [this]
                          simp [encK]
                        · right
                          have hD : 100 < D.length := by have := HND.out; omega
                          refine ⟨by simp; omega, ?_⟩
                          refine Nat.lt_of_lt_of_le ?_ HTL.out
                          have h1 := escL_take_le (bytesOf s) q
                          have h2 : D.length = (O ++ [18]).length + (escL ((bytesOf s).take q)).length := by rw [HDe.out, HPe.out, List.length_append]
                          have h3 : (O ++ encK ⟨2, 0, s⟩).length = O.length + (1 + ((escL (bytesOf s)).length + 2)) := by simp [encK]; omega
                          rw [h3]
                          simp at h2
                          omega
                      have hB01 := Bs.new wr [0, 1] (by simp) #[.int .u8 0, .int .u8 1] 5 (by intro i c hi; match i, hi with | 0, hi => simp at hi; subst hi; rfl | 1, hi => simp at hi; subst hi; rfl)
                      have hown9 := HD.out.below (Nat.le_refl _) (Below.box wr (.cells #[.int .u8 0, .int .u8 1] 5))
                      have hb9 : Below w.heap.size w (wr.alloc (.cells #[.int .u8 0, .int .u8 1] 5)) := HBq.out.alloc hsq _
                      have HO9 := Lib.hid hown9
                      have HB9 := Lib.hid hb9
                      have HB01 := Lib.hid hB01
                      have hs9 := hb9.size
                      clear hown9 hb9 hB01 HT HTL HDe
                      go_wp2_with (first | (at_builtin; refine wpList_appB rfl _ _ 32 rfl w.heap.size 5 i0 Try.underlying32 hi hz0 hz1 hz2 _ D _ HO9.out rfl (wr.heap.size + 1) (some ⟨wr.heap.size, 0, none⟩) [0, 1] 2 2 HB01.out (by simp) rfl rfl (by have := HND.out; simp; omega) hs9 ?_; intro v6 w6 hown6 hb6 hsz6; obtain ⟨a6, c6, hv6, _, _, _⟩ := hown6.slice; obtain ⟨n6, hn6⟩ : ∃ n, n = (D ++ [0, 1]).length := ⟨_, rfl⟩; rw [← hn6] at hv6; have hl6 : n6 ≤ 1000 := (by have := HND.out; rw [hn6]; simp; omega); have HN6 := Lib.hid hn6; clear hn6; subst hv6; have HO6 := Lib.hid hown6; have HB6 := Lib.hid (HB9.out.trans hb6); clear hown6 hb6 hsz6))
                      go_roundw
                      case rel => exact ⟨j + 1, D ++ [0, 1], a6, n6, c6, by omega, by go_num, rfl, HO6, hl6, HN6, HN, HB6⟩
                      case measure => simp [intOf]; omega
                · skip
                  have HOw := HOwn
                  obtain ⟨c0, c1, c2⟩ := HC.out _ HB.out
                  go_wp2_with (first | (at_builtin; refine wpList_app1 rfl _ _ 32 rfl w.heap.size 5 i0 Try.underlying32 hi hz0 hz1 hz2 _ O wr HOwn.out rfl 19 (by omega) _ rfl rfl (by have := HNO.out; omega) hsz ?_; intro v1 w1 hown1 hb1 hsz1; have HB1 := Lib.hid (HB.out.trans hb1); obtain ⟨d0, d1, d2⟩ := HC.out _ HB1.out; have HO1 := Lib.hid hown1; have hs1 := HB1.out.size; clear hown1 hb1 hsz1))
                  clear c0 c1 c2
                  have hP : (O ++ [19]).length ≤ 200 := by have := HNO.out; simp; omega
                  obtain ⟨P, hPe⟩ : ∃ P, P = O ++ [19] := ⟨_, rfl⟩
                  rw [← hPe] at HO1 hP
                  have HPe := Lib.hid hPe
                  clear hPe
                  obtain ⟨a1, c1, hv1, _, hB1, _⟩ := HO1.out.slice
                  obtain ⟨n1, hn1⟩ : ∃ n, n = P.length := ⟨_, rfl⟩
                  rw [← hn1] at hv1 hP
                  have HN1 := Lib.hid hn1
                  subst hv1
                  clear hB1 hn1
                  go_loopw [5, 7] (fun v i wr => ∃ (q : Nat) (D : List Nat) (ad : Option Addr) (nd cd : Nat), q ≤ s.size ∧ i = .int .i64 q ∧ v = .slice ad nd cd ∧ Hid (OwnB wr w.heap.size 5 (.slice ad nd cd) D) ∧ nd ≤ 400 ∧ Hid (nd = D.length) ∧ Hid (D = P ++ escL ((bytesOf s).take q)) ∧ Hid (Below w.heap.size w wr)) (fun _ i _ => s.size - (intOf i).toNat)
                  case atStart => exact ⟨0, P, a1, n1, c1, by omega, rfl, rfl, HO1, by omega, HN1, by simp [Hid, escL], HB1⟩
                  case round =>
                    clear d0 d1 d2 HO1 HB1 hs1
                    obtain ⟨q, D, ad, nd, cd, hq, rfl, rfl, HD, hDl, HND, HDe, HBq⟩ := hrel
                    obtain ⟨c0, c1, c2⟩ := HC.out _ HBq.out
                    have hsq := HBq.out.size
                    by_cases hqs : q < s.size
                    · by_cases hD : 100 < nd
                      · have q3 : decide ((nd : Int) ≤ 100) = false := by simp; omega
                        have q3n : decide (nd ≤ 100) = false := by simp; omega
                        have HN : Hid (KwAt l (j + 1) (D ++ [0, 1])) := by
                          show KwAt _ _ _
                          by_cases hqs : q = s.size
                          · left
                            rw [HT.out, HDe.out, HPe.out]
                            have : (bytesOf s).take q = bytesOf s := List.take_of_length_le (by rw [bytesOf_len]; omega)
                            rw [this]
                            simp [encK]
                          · right
                            have hD : 100 < D.length := by have := HND.out; omega
                            refine ⟨by simp; omega, ?_⟩
                            refine Nat.lt_of_lt_of_le ?_ HTL.out
                            have h1 := escL_take_le (bytesOf s) q
                            have h2 : D.length = (O ++ [19]).length + (escL ((bytesOf s).take q)).length := by rw [HDe.out, HPe.out, List.length_append]
                            have h3 : (O ++ encK ⟨3, 0, s⟩).length = O.length + (1 + ((escL (bytesOf s)).length + 2)) := by simp [encK]; omega
                            rw [h3]
                            simp at h2
                            omega
                        have hB01 := Bs.new wr [0, 1] (by simp) #[.int .u8 0, .int .u8 1] 5 (by intro i c hi; match i, hi with | 0, hi => simp at hi; subst hi; rfl | 1, hi => simp at hi; subst hi; rfl)
                        have hown9 := HD.out.below (Nat.le_refl _) (Below.box wr (.cells #[.int .u8 0, .int .u8 1] 5))
                        have hb9 : Below w.heap.size w (wr.alloc (.cells #[.int .u8 0, .int .u8 1] 5)) := HBq.out.alloc hsq _
                        have HO9 := Lib.hid hown9
                        have HB9 := Lib.hid hb9
                        have HB01 := Lib.hid hB01
                        have hs9 := hb9.size
                        clear hown9 hb9 hB01 HT HTL HDe
                        go_wp2_with (first | (at_builtin; refine wpList_appB rfl _ _ 32 rfl w.heap.size 5 i0 Try.underlying32 hi hz0 hz1 hz2 _ D _ HO9.out rfl (wr.heap.size + 1) (some ⟨wr.heap.size, 0, none⟩) [0, 1] 2 2 HB01.out (by simp) rfl rfl (by have := HND.out; simp; omega) hs9 ?_; intro v6 w6 hown6 hb6 hsz6; obtain ⟨a6, c6, hv6, _, _, _⟩ := hown6.slice; obtain ⟨n6, hn6⟩ : ∃ n, n = (D ++ [0, 1]).length := ⟨_, rfl⟩; rw [← hn6] at hv6; have hl6 : n6 ≤ 1000 := (by have := HND.out; rw [hn6]; simp; omega); have HN6 := Lib.hid hn6; clear hn6; subst hv6; have HO6 := Lib.hid hown6; have HB6 := Lib.hid (HB9.out.trans hb6); clear hown6 hb6 hsz6))
                        go_roundw
                        case rel => exact ⟨j + 1, D ++ [0, 1], a6, n6, c6, by omega, by go_num, rfl, HO6, hl6, HN6, HN, HB6⟩
                        case measure => simp [intOf]; omega
                      · have q3 : decide ((nd : Int) ≤ 100) = true := by simp; omega
                        have q3n : decide (nd ≤ 100) = true := by simp; omega
                        have hqb : q < (bytesOf s).length := by rw [bytesOf_len]; exact hqs
                        have HE := Lib.hid (escL_take (bytesOf s) q hqb)
                        rw [byte_at s q hqs hqb] at HE
                        have hc256 := (s[q]'hqs).toNat_lt
                        have hq100 : q ≤ 100 := by
                          have h1 := escL_ge ((bytesOf s).take q)
                          have h2 := HND.out
                          rw [HDe.out, List.length_append] at h2
                          rw [List.length_take] at h1
                          omega
                        by_cases h0 : (s[q]'hqs).toNat = 0
                        · have HE2 : Hid (P ++ escL ((bytesOf s).take (q + 1)) = (D ++ [(s[q]'hqs).toNat]) ++ [255]) := by show _ = _; rw [HE.out, if_pos h0, HDe.out, h0]; simp
                          have qz : (((s[q]'hqs).toNat : Int) == 0) = true := by simp; omega
                          clear HE HDe HT HTL h0
                          go_wp2_with (first
                            | (at_builtin; refine wpList_app1 rfl _ _ 32 rfl w.heap.size 5 i0 Try.underlying32 hi hz0 hz1 hz2 _ D wr HD.out rfl (s[q]'hqs).toNat hc256 _ rfl rfl (by have := HND.out; omega) hsq ?_; intro v3 w3 hown3 hb3 hsz3; have HB3 := Lib.hid (HBq.out.trans hb3); obtain ⟨d0, d1, d2⟩ := HC.out _ HB3.out; have HO3 := Lib.hid hown3; have hs3 := HB3.out.size; clear hown3 hb3 hsz3)
                            | (at_builtin; refine wpList_app1 rfl _ _ 32 rfl w.heap.size 5 i0 Try.underlying32 hi hz0 hz1 hz2 _ (D ++ [(s[q]'hqs).toNat]) w3 HO3.out rfl 255 (by omega) _ rfl rfl (by have := HND.out; simp; omega) hs3 ?_; intro v4 w4 hown4 hb4 hsz4; obtain ⟨a4, c4, hv4, _, _, _⟩ := hown4.slice; obtain ⟨n4, hn4⟩ : ∃ n, n = ((D ++ [(s[q]'hqs).toNat]) ++ [255]).length := ⟨_, rfl⟩; rw [← hn4] at hv4; have hl4 : n4 ≤ 400 := (by have := HND.out; rw [hn4]; simp; omega); have HN4 := Lib.hid hn4; clear hn4; subst hv4; have HB4 := Lib.hid (HB3.out.trans hb4); have HO4 := Lib.hid hown4; clear hown4 hb4 hsz4))
                          go_roundw
                          case rel => exact ⟨q + 1, (D ++ [(s[q]'hqs).toNat]) ++ [255], a4, n4, c4, by omega, by go_num, rfl, HO4, hl4, HN4, HE2.out.symm, HB4⟩
                          case measure => simp [intOf]; omega
                        · have HE2 : Hid (P ++ escL ((bytesOf s).take (q + 1)) = D ++ [(s[q]'hqs).toNat]) := by show _ = _; rw [HE.out, if_neg h0, HDe.out]; simp
                          have qz : (((s[q]'hqs).toNat : Int) == 0) = false := by simp; omega
                          clear HE HDe HT HTL h0
                          go_wp2_with (first
                            | (at_builtin; refine wpList_app1 rfl _ _ 32 rfl w.heap.size 5 i0 Try.underlying32 hi hz0 hz1 hz2 _ D wr HD.out rfl (s[q]'hqs).toNat hc256 _ rfl rfl (by have := HND.out; omega) hsq ?_; intro v3 w3 hown3 hb3 hsz3; have HB3 := Lib.hid (HBq.out.trans hb3); obtain ⟨d0, d1, d2⟩ := HC.out _ HB3.out; obtain ⟨a4, c4, hv4, _, _, _⟩ := hown3.slice; obtain ⟨n4, hn4⟩ : ∃ n, n = (D ++ [(s[q]'hqs).toNat]).length := ⟨_, rfl⟩; rw [← hn4] at hv4; have hl4 : n4 ≤ 400 := (by have := HND.out; rw [hn4]; simp; omega); have HN4 := Lib.hid hn4; clear hn4; subst hv4; have HO3 := Lib.hid hown3; clear hown3 hb3 hsz3))
                          go_roundw
                          case rel => exact ⟨q + 1, D ++ [(s[q]'hqs).toNat], a4, n4, c4, by omega, by go_num, rfl, HO3, hl4, HN4, HE2.out.symm, HB3⟩
                          case measure => simp [intOf]; omega
                    · have qq : decide ((q : Int) < (s.size : Int)) = false := by simp; omega
                      have qqn : decide (q < s.size) = false := by simp; omega
                      have HN : Hid (KwAt l (j + 1) (D ++ [0, 1])) := by
                        show KwAt _ _ _
                        by_cases hqs : q = s.size
                        · left
                          rw [HT.out, HDe.out, HPe.out]
                          have : (bytesOf s).take q = bytesOf s := List.take_of_length_le (by rw [bytesOf_len]; omega)
                          rw [this]
                          simp [encK]
                        · right
                          have hD : 100 < D.length := by have := HND.out; omega
                          refine ⟨by simp; omega, ?_⟩
                          refine Nat.lt_of_lt_of_le ?_ HTL.out
                          have h1 := escL_take_le (bytesOf s) q
                          have h2 : D.length = (O ++ [19]).length + (escL ((bytesOf s).take q)).length := by rw [HDe.out, HPe.out, List.length_append]
                          have h3 : (O ++ encK ⟨3, 0, s⟩).length = O.length + (1 + ((escL (bytesOf s)).length + 2)) := by simp [encK]; omega
                          rw [h3]
                          simp at h2
                          omega
                      have hB01 := Bs.new wr [0, 1] (by simp) #[.int .u8 0, .int .u8 1] 5 (by intro i c hi; match i, hi with | 0, hi => simp at hi; subst hi; rfl | 1, hi => simp at hi; subst hi; rfl)
                      have hown9 := HD.out.below (Nat.le_refl _) (Below.box wr (.cells #[.int .u8 0, .int .u8 1] 5))
                      have hb9 : Below w.heap.size w (wr.alloc (.cells #[.int .u8 0, .int .u8 1] 5)) := HBq.out.alloc hsq _
                      have HO9 := Lib.hid hown9
                      have HB9 := Lib.hid hb9
                      have HB01 := Lib.hid hB01
                      have hs9 := hb9.size
                      clear hown9 hb9 hB01 HT HTL HDe
                      go_wp2_with (first | (at_builtin; refine wpList_appB rfl _ _ 32 rfl w.heap.size 5 i0 Try.underlying32 hi hz0 hz1 hz2 _ D _ HO9.out rfl (wr.heap.size + 1) (some ⟨wr.heap.size, 0, none⟩) [0, 1] 2 2 HB01.out (by simp) rfl rfl (by have := HND.out; simp; omega) hs9 ?_; intro v6 w6 hown6 hb6 hsz6; obtain ⟨a6, c6, hv6, _, _, _⟩ := hown6.slice; obtain ⟨n6, hn6⟩ : ∃ n, n = (D ++ [0, 1]).length := ⟨_, rfl⟩; rw [← hn6] at hv6; have hl6 : n6 ≤ 1000 := (by have := HND.out; rw [hn6]; simp; omega); have HN6 := Lib.hid hn6; clear hn6; subst hv6; have HO6 := Lib.hid hown6; have HB6 := Lib.hid (HB9.out.trans hb6); clear hown6 hb6 hsz6))
                      go_roundw
                      case rel => exact ⟨j + 1, D ++ [0, 1], a6, n6, c6, by omega, by go_num, rfl, HO6, hl6, HN6, HN, HB6⟩
                      case measure => simp [intOf]; omega
          · have hje : j = k := by omega
            subst hje
            have q5 : decide ((j : Int) < (j : Int)) = false := by simp
            by_cases hO : 100 < no
            · have HA := Lib.hid (HEnd.out hO)
              have q2 : decide ((100 : Int) < (no : Int)) = true := by simp; omega
              have q2n : decide (100 < no) = true := by simp; omega
              clear HEnd
              go_wp2
              (try rw [Exit.noGoto_ret])
              go_ret2
              rw [HA.out]
              exact ⟨none, 0, rfl, Nat.le_refl _, ⟨by simp, .inl rfl⟩, (by intro g hg; cases hg), HB.out⟩
            · have hOe := HK.out.short (by have := HNO.out; omega)
              rw [List.take_of_length_le (by have := HL.out; omega)] at hOe
              have HA : Hid (writeK l = (O, 0)) := by show _ = _; rw [writeK_good HRo.out (by rw [← hOe]; have := HNO.out; omega), hOe]
              have q2 : decide ((100 : Int) < (no : Int)) = false := by simp; omega
              have q2n : decide (100 < no) = false := by simp; omega
              obtain ⟨a8, c8, hv8, hc8, hB8, hg8⟩ := HOwn.out.slice
              have HG8 := Lib.hid hg8
              clear hg8
              injection hv8 with e1 e2 e3
              subst e1 e3
              have HB8 := Lib.hid hB8
              have HC8 := Lib.hid hc8
              clear HEnd hOe hB8 hc8 e2
              go_wp2
              (try rw [Exit.noGoto_ret])
              go_ret2
              rw [HA.out]
              exact ⟨_, _, by rw [HNO.out]; rfl, HC8.out, HB8.out, (fun g hg hl => by
                obtain ⟨g', h1, h2⟩ := HG8.out hl
                rw [h1] at hg; injection hg with hg; subst hg; exact h2), HB.out⟩
end Go.Proofs.Ytialpfdhdcjpaaa

/- The walk of the reference's KeyOf (layer 15). (Made by wip/gen/genrf615.py.) -/
set_option linter.unusedSimpArgs false
set_option linter.unusedVariables false
set_option maxRecDepth 100000
namespace Go.Proofs.Ytialpfdhdcjpaaa
open Go.RowKit

theorem Vs.here {N : Nat} {w : World} {b o : Nat} {l : List Vl} (h : Vs N w (some ⟨b, o, none⟩) l) {k : Nat} (hk : k < l.length) : CellV w b (o + k * 3) l[k] := by
  obtain ⟨b', o', he, _, hc⟩ := h.at_ hk
  injection he with he; injection he with e1 e2; subst e1 e2
  exact hc
/-- The key, or its front. -/
noncomputable def keyR (t : Tb) (l : List Vl) (fr : Bool) : List Nat × Int := if fr then frontOf t l else keyOf t l
theorem keyR_bad {t : Tb} {l : List Vl} {fr : Bool} {q : Int} (h : rowE t l = q) (hq : q ≠ 0) : keyR t l fr = ([], q) := by
  unfold keyR
  cases fr
  · exact keyOf_bad h hq
  · show frontOf t l = _
    unfold frontOf; rw [h, if_neg hq]
theorem front_bad {t : Tb} {l : List Vl} (h : (writeK (frontV t.key l)).2 ≠ 0) : (writeK (partsV t l)).2 ≠ 0 := by
  intro h3
  have hw : writeK (partsV t l) = ((writeK (partsV t l)).1, 0) := by rw [← h3]
  obtain ⟨e, h16, hr⟩ := writeK_ok hw
  rw [e] at hw
  have hsp : keyL (partsV t l) = keyL (frontV t.key l) ++ keyL (if t.apart then [l.getD t.fr.toNat zeroVl] else []) := by
    unfold partsV keyL; rw [List.flatMap_append]
  have hlen : (keyL (partsV t l)).length ≤ 100 := by have := writeK_len (partsV t l); rw [hw] at this; exact this
  have hf : writeK (frontV t.key l) = (keyL (frontV t.key l), 0) := by
    refine writeK_good ((rowOk_iff _).2 ⟨?_, fun x hx => hr x ?_⟩) ?_
    · have : (partsV t l).length = (frontV t.key l).length + (if t.apart then [l.getD t.fr.toNat zeroVl] else []).length := by unfold partsV; rw [List.length_append]
      omega
    · unfold partsV; exact List.mem_append_left _ hx
    · rw [hsp, List.length_append] at hlen; omega
  rw [hf] at h
  exact h rfl

set_option maxHeartbeats 16000000 in
theorem rKeyOf_any (t : Tb) (m : TM) (l : List Vl) (a : Option Addr) (len cap : Nat) (fr : Bool) (w : World) (h : TAt w t m) (hr : RowAt w l a len cap) :
    Calls Try.prog 20 #[m.v t, .slice a len cap, .bool fr] w (RetBE w (keyR t l fr)) := by
  obtain ⟨i0, hi, hz0, hz1, hz2⟩ := info_parts info_valS
  have HR := Lib.hid (fun W (hb : Below w.heap.size w W) => rRight_any t m W (h.later hb))
  have hs0 : w.heap.size < (w.alloc (.cells (m.cs t) 30)).heap.size := by simp
  have HX0 : Hid (TBox (w.alloc (.cells (m.cs t) 30)) w.heap.size m t) := TBox.new w m t _
  have HB0 : Hid (Below w.heap.size w (w.alloc (.cells (m.cs t) 30))) := (Below.refl _ w).alloc (Nat.le_refl _) _
  by_cases ht : t.ok = true
  · rw [ht] at HR
    have hOk := Tb.ok_iff.1 ht
    have hcl := h.hc
    have hcm := h.cmax
    have hrl := hr.len_
    have hrm := hr.max
    by_cases hlen : len = m.cl
    · have hll : l.length = t.cols.length := by omega
      have hql : ((len : Int) != (m.cl : Int)) = false := by simp; omega
      have HCol := Lib.hid h.carr
      have HRow := Lib.hid hr
      have HTA := Lib.hid h
      have HOk := Lib.hid hOk
      have HT := Lib.hid ht
      have HLL := Lib.hid hll
      have HCL := Lib.hid hcl
      have HRL := Lib.hid hrl
      obtain ⟨ca, cl, cc, ka, kl, kc⟩ := m
      dsimp only at hlen HCol hql hcm HCL
      subst hlen
      clear h hr ht hOk hcl hrl hll
      go_enter Try.func20, Try.ntmps20
      go_wp2_with fail
      refine (HR.out _ HB0.out).mono ?_
      rintro e w1 ⟨rfl, hb1⟩
      have hlt1 : w.heap.size < w1.heap.size := Nat.lt_of_lt_of_le hs0 hb1.size
      have HBw : Hid (Below w.heap.size w w1) := HB0.out.trans (hb1.mono (Nat.le_of_lt hs0))
      have HX1 := Lib.hid (HX0.out.later hs0 hb1)
      clear hb1 HX0 HB0 hs0 HR
      obtain ⟨x0, x1, x2, x3, x4, x5, x6, x7⟩ := HX1.out
      dsimp only at x0 x1 x2 x3 x4 x5 x6 x7
      go_wp2_with fail
      go_loopw [8] (fun i wr => ∃ k : Nat, k ≤ len ∧ i = .int .i64 k ∧ Hid (∀ (i : Nat) c x, i < k → t.cols[i]? = some c → l[i]? = some x → chkV c x = 0) ∧ Hid (Below w.heap.size w wr) ∧ Hid (TBox wr w.heap.size ⟨ca, len, cc, ka, kl, kc⟩ t) ∧ w.heap.size < wr.heap.size) (fun i _ => len - (intOf i).toNat)
      case atStart => exact ⟨0, by omega, rfl, (by intro i c x hi; omega), HBw, HX1, hlt1⟩
      case round =>
        clear x0 x1 x2 x3 x4 x5 x6 x7
        obtain ⟨k, hk, rfl, HI, HB, HX, hsz⟩ := hrel
        by_cases hlt : k < len
        · have hkc : k < t.cols.length := by have := HCL.out; omega
          have hkx : k < l.length := by have := HRL.out; omega
          obtain ⟨b, o, rfl, hbN, c0, c1, c2⟩ := colAt HCol.out hkc
          obtain ⟨b2, o2, rfl, hbN2, v0, v1, v2⟩ := HRow.out.vs.at_ hkx
          have HFst : Hid (chkV t.cols[k] l[k] ≠ 0 → keyR t l fr = ([], chkV t.cols[k] l[k])) := fun hne => by
            have e := rowErr_first t.cols l k hkc hkx (fun i c x hi h1 h2 => HI.out i c x hi h1 h2) hne
            exact keyR_bad (by rw [rowE3 HT.out HLL.out (by rw [e]; exact hne), e]) hne
          have HNx : Hid (chkV t.cols[k] l[k] = 0 → ∀ (i : Nat) c x, i < k + 1 → t.cols[i]? = some c → l[i]? = some x → chkV c x = 0) := fun h0 i c x hi h1 h2 => by
            by_cases hik : i = k
            · subst hik
              rw [List.getElem?_eq_getElem hkc] at h1
              rw [List.getElem?_eq_getElem hkx] at h2
              injection h1 with h1; injection h2 with h2
              rw [← h1, ← h2]; exact h0
            · exact HI.out i c x (by omega) h1 h2
          have HC := Lib.hid (fun W => rValue_any t.cols[k] l[k] W)
          obtain ⟨cx, hcx⟩ : ∃ x, x = t.cols[k] := ⟨_, rfl⟩
          obtain ⟨vx, hvx⟩ : ∃ x, x = l[k] := ⟨_, rfl⟩
          rw [← hcx] at c0 c1 c2 HC HFst HNx
          rw [← hvx] at v0 v1 v2 HC HFst HNx
          clear hcx hvx HI hkc hkx
          generalize chkV cx vx = q at *
          obtain ⟨nm, kd, nn⟩ := cx
          obtain ⟨vk, vn, vs⟩ := vx
          dsimp only at c0 c1 c2 v0 v1 v2 HC
          have x1 := HX.out.c1
          dsimp only at x1
          have HF : Hid (∀ W, Later wr.drew W → Below w.heap.size w W) := fun W hW => HB.out.trans ((Later.undrew hW).mono HB.out.size)
          have f0 : ∀ W, Later wr.drew W → W.cell? ⟨w.heap.size, 1, none⟩ = some (.slice (some ⟨b, o, none⟩) len cc) := fun W hW => ((Later.undrew hW).cell (p := ⟨w.heap.size, 1, none⟩) hsz).trans x1
          have e0 : ∀ W, Later wr.drew W → W.cell? ⟨b, o + k * 3, none⟩ = some (.string nm) := fun W hW => ((HF.out W hW).cell (p := ⟨b, o + k * 3, none⟩) hbN).trans c0
          have e1 : ∀ W, Later wr.drew W → W.cell? ⟨b, o + k * 3 + 1, none⟩ = some (.int .u8 (kd : Int)) := fun W hW => ((HF.out W hW).cell (p := ⟨b, o + k * 3 + 1, none⟩) hbN).trans c1
          have e2 : ∀ W, Later wr.drew W → W.cell? ⟨b, o + k * 3 + 2, none⟩ = some (.bool nn) := fun W hW => ((HF.out W hW).cell (p := ⟨b, o + k * 3 + 2, none⟩) hbN).trans c2
          have e3 : ∀ W, Later wr.drew W → W.cell? ⟨b2, o2 + k * 3, none⟩ = some (.int .u8 (vk : Int)) := fun W hW => ((HF.out W hW).cell (p := ⟨b2, o2 + k * 3, none⟩) hbN2).trans v0
          have e4 : ∀ W, Later wr.drew W → W.cell? ⟨b2, o2 + k * 3 + 1, none⟩ = some (.int .i64 vn) := fun W hW => ((HF.out W hW).cell (p := ⟨b2, o2 + k * 3 + 1, none⟩) hbN2).trans v1
          have e5 : ∀ W, Later wr.drew W → W.cell? ⟨b2, o2 + k * 3 + 2, none⟩ = some (.string vs) := fun W hW => ((HF.out W hW).cell (p := ⟨b2, o2 + k * 3 + 2, none⟩) hbN2).trans v2
          clear c0 c1 c2 v0 v1 v2 hbN hbN2
          go_wp2_with fail
          clear x1
          refine wp_region_ord [(0, true), (1, true), (2, true), (3, true), (4, true), (5, true), (6, true), (7, true), (8, true), (9, false), (10, true)] (by kernel_rfl) (by kernel_rfl) (by kernel_rfl) (by kernel_rfl) ?_
          repeat (first | (refine wpO_F (v := ?_) rfl (by rfl) (fun w' hL => ?_) ?_; rotate_left; (solve | (go_simp; with_reducible rfl) | go_simp); try simp only [Act.put, List.setIfInBounds_toArray, List.set_cons_zero, List.set_cons_succ]) | (refine wpO_G rfl (by rfl) ?_; try simp only [Act.put, List.setIfInBounds_toArray, List.set_cons_zero, List.set_cons_succ]))
          refine wpO_C rfl (by rfl) ?_
          go_simp
          refine (HC.out _).mono ?_
          rintro e w2 ⟨rfl, hb2⟩
          refine ⟨hb2, ?_⟩
          try simp only [Act.put, List.setIfInBounds_toArray, List.set_cons_zero, List.set_cons_succ]
          repeat (first | (refine wpO_F (v := ?_) rfl (by rfl) (fun w' hL => ?_) ?_; rotate_left; (solve | (go_simp; with_reducible rfl) | go_simp); try simp only [Act.put, List.setIfInBounds_toArray, List.set_cons_zero, List.set_cons_succ]) | (refine wpO_G rfl (by rfl) ?_; try simp only [Act.put, List.setIfInBounds_toArray, List.set_cons_zero, List.set_cons_succ]))
          refine wpO_nil ?_
          have HB2 := Lib.hid (HF.out w2 hb2)
          have HX2 := Lib.hid (HX.out.later hsz (Later.undrew hb2))
          have hsz2 : w.heap.size < w2.heap.size := Nat.lt_of_lt_of_le hsz (Below.size (Later.undrew hb2))
          clear f0 e0 e1 e2 e3 e4 e5 hb2 HX HF
          by_cases hq : q = 0
          · subst hq
            have HA := Lib.hid (HNx.out rfl)
            clear HFst HNx
            go_wp2
            go_roundw
            case rel => exact ⟨k + 1, by omega, by go_num, HA.out, HB2, HX2, hsz2⟩
            case measure => simp [intOf]; omega
          · have q1 : (q != 0) = true := by simpa using hq
            have HA := Lib.hid (HFst.out hq)
            clear HFst HNx
            go_wp2
            (try rw [Exit.noGoto_ret])
            go_ret2
            rw [HA.out]
            exact ⟨none, 0, rfl, Nat.le_refl _, ⟨by simp, .inl rfl⟩, HB2.out⟩
        · have hErr : rowErr t.cols l = 0 := rowErr_none _ _ (fun i c x h1 h2 => HI.out i c x (by have := (List.getElem?_eq_some_iff.1 h1).1; have := HCL.out; omega) h1 h2)
          have HBad : Hid (¬ (t.per.size ≠ 0 ∧ ¬ (l.getD t.fr.toNat zeroVl).n < (l.getD t.tt.toNat zeroVl).n) → (writeK (partsV t l)).2 ≠ 0 ∨ 80 < (writeK (partsV t l)).1.length → keyR t l fr = ([], 2)) := fun h4 h5 => keyR_bad (by rw [rowE5 HT.out HLL.out hErr h4, if_pos h5]) (by decide)
          have HGood : Hid (¬ (t.per.size ≠ 0 ∧ ¬ (l.getD t.fr.toNat zeroVl).n < (l.getD t.tt.toNat zeroVl).n) → (writeK (partsV t l)).2 = 0 → ¬ 80 < (writeK (partsV t l)).1.length → frontOf t l = ((writeK (frontV t.key l)).1, 0) ∧ keyOf t l = ((writeK (partsV t l)).1, 0)) := fun h4 h5 h6 => by
            have e : rowE t l = 0 := by rw [rowE5 HT.out HLL.out hErr h4, if_neg (by rintro (h | h); exact h h5; exact h6 h)]
            refine ⟨?_, keyOf_good e⟩
            unfold frontOf
            rw [if_pos e]
            by_cases h7 : (writeK (frontV t.key l)).2 = 0
            · rw [← h7]
            · exact absurd h5 (front_bad h7)
          have HNo : Hid (t.per.size ≠ 0 → ¬ (l.getD t.fr.toNat zeroVl).n < (l.getD t.tt.toNat zeroVl).n → keyR t l fr = ([], 26)) := fun h1 h2 => keyR_bad (rowE4 HT.out HLL.out hErr ⟨h1, h2⟩) (by decide)
          have HPer := Lib.hid (fun (hp : t.per.size ≠ 0) => HOk.out.edges hp)
          have HApE := Lib.hid (fun (ha : t.apart = true) => HOk.out.apartEdge ha)
          have HKs : Hid (∀ k ∈ t.key, 0 ≤ k ∧ k.toNat < l.length) := fun k hk => by have := HOk.out.keys k hk; have := HLL.out; omega
          have HFB := Lib.hid (front_bad (t := t) (l := l))
          have HPF := Lib.hid (partsV_fair (t := t) HRow.out.fair)
          have HFF := Lib.hid (frontV_fair (ks := t.key) HRow.out.fair)
          have HTK : Hid (t.key.length ≤ 1000000) := HTA.out.fair.kl
          have HTK8 : Hid (t.key.length ≤ 8) := HOk.out.2.2.1.2.1
          have HKey := Lib.hid HTA.out.karr
          have hkl := HTA.out.hk
          dsimp only at hkl HKey
          subst hkl
          have HKW := Lib.hid (fun (l : List Vl) a n c W (h1 : Vs W.heap.size W a l) (h2 : n = l.length) (h3 : n ≤ 1000000) (h4 : ∀ x ∈ l, x.fair) => rKWrite_any l a n c W h1 h2 h3 h4)
          have HPt : Hid (partsV t l = frontV t.key l ++ (if t.apart then [l.getD t.fr.toNat zeroVl] else [])) := rfl
          have HC1 : Hid (1 ≤ t.cols.length) := HOk.out.2.1.1
          clear HI hErr HCol HOk HT HTA HBw HX1
          obtain ⟨ra, ro, hra, raN, -⟩ := HRow.out.vs.at_ (k := 0) (by have := HLL.out; have := HC1.out; omega)
          subst hra
          obtain ⟨wp, rfl⟩ : ∃ x, x = wr := ⟨_, rfl⟩
          by_cases hp : t.per.size = 0
          · have hpe : t.per = ⟨#[]⟩ := size0 hp
            have qp : (t.per.toList != []) = false := by rw [hpe]; decide +kernel
            have qp2 : t.per.toList = [] := by rw [hpe]; decide +kernel
            have HBd := Lib.hid (HBad.out (fun h => h.1 hp))
            have HGd := Lib.hid (HGood.out (fun h => h.1 hp))
            obtain ⟨x0, x1, x2, x3, x4, x5, x6, x7⟩ := HX.out
            dsimp only at x0 x1 x2 x3 x4 x5 x6 x7
            have d3 : ∀ W, Later wp.drew W → W.cell? ⟨w.heap.size, 3, none⟩ = some (.string t.per) := fun W hW => ((Later.undrew hW).cell (p := ⟨w.heap.size, 3, none⟩) hsz).trans x3
            clear hpe HBad HGood HNo HPer
            go_wp2_with fail
            clear x0 x1 x2 x3 x4 x5 x6 x7
            refine wp_region_ord [(0, true), (1, true), (2, true), (3, true), (4, true), (5, true), (6, true), (7, true), (8, true), (9, true), (10, true), (11, true), (12, true), (13, true), (14, true), (15, true), (16, true), (17, true)] (by kernel_rfl) (by kernel_rfl) (by kernel_rfl) (by kernel_rfl) ?_
            repeat (first | (refine wpO_F (v := ?_) rfl (by rfl) (fun w' hL => ?_) ?_; rotate_left; (solve | (go_simp; with_reducible rfl) | go_simp); try simp only [Act.put, List.setIfInBounds_toArray, List.set_cons_zero, List.set_cons_succ]) | (refine wpO_G rfl (by rfl) ?_; try simp only [Act.put, List.setIfInBounds_toArray, List.set_cons_zero, List.set_cons_succ]))
            refine wpO_nil ?_
            clear d3 qp qp2
            go_wp2_with fail
            go_loopw [10, 11] (fun v i wr => ∃ (j : Nat) (vv : Value), j ≤ t.key.length ∧ i = .int .i64 j ∧ vv = v ∧ Hid (OwnV wr wp.heap.size 52 vv (frontV (t.key.take j) l)) ∧ Hid (Below wp.heap.size wp wr)) (fun _ i _ => t.key.length - (intOf i).toNat)
            case atStart => exact ⟨0, _, by omega, rfl, rfl, OwnV.nil _ _ _, Lib.hid (Below.refl _ _).drew⟩
            case round =>
              obtain ⟨j, vv, hj, rfl, rfl, HOw, HBq⟩ := hrel
              obtain ⟨x0, x1, x2, x3, x4, x5, x6, x7⟩ := HX.out.later hsz HBq.out
              dsimp only at x0 x1 x2 x3 x4 x5 x6 x7
              by_cases hjl : j < t.key.length
              · obtain ⟨kb, ko, rfl, hkN, k0⟩ := intAt HKey.out hjl
                have hks := HKs.out _ (List.getElem_mem hjl)
                have HSn := Lib.hid (frontV_snoc t.key l j hjl)
                have hxl : (frontV (t.key.take j) l).length < 1000000000000 := by have := HTK.out; unfold frontV; rw [List.length_map, List.length_take]; omega
                have HLx := Lib.hid hxl
                replace k0 := (HBq.out.cell (p := ⟨kb, ko + j, none⟩) (Nat.lt_of_lt_of_le hkN HB.out.size)).trans ((HB.out.cell (p := ⟨kb, ko + j, none⟩) hkN).trans k0)
                obtain ⟨x, hx⟩ : ∃ x, x = t.key[j] := ⟨_, rfl⟩
                rw [← hx] at k0 hks HSn
                clear hx hxl hkN
                obtain ⟨g, rfl⟩ : ∃ g : Nat, x = g := ⟨x.toNat, by omega⟩
                rw [Int.toNat_natCast] at hks HSn
                have hgl : g < len := by have := HRL.out; omega
                obtain ⟨p0, p1, p2⟩ := HRow.out.vs.here hks.2
                have haN := raN
                have ga : l.getD g zeroVl = l[g]'hks.2 := by simp [List.getD_eq_getElem?_getD, List.getElem?_eq_getElem hks.2]
                rw [ga] at HSn
                replace p0 := (HBq.out.cell (p := ⟨ra, ro + g * 3, none⟩) (Nat.lt_of_lt_of_le haN HB.out.size)).trans ((HB.out.cell (p := ⟨ra, ro + g * 3, none⟩) haN).trans p0)
                replace p1 := (HBq.out.cell (p := ⟨ra, ro + g * 3 + 1, none⟩) (Nat.lt_of_lt_of_le haN HB.out.size)).trans ((HB.out.cell (p := ⟨ra, ro + g * 3 + 1, none⟩) haN).trans p1)
                replace p2 := (HBq.out.cell (p := ⟨ra, ro + g * 3 + 2, none⟩) (Nat.lt_of_lt_of_le haN HB.out.size)).trans ((HB.out.cell (p := ⟨ra, ro + g * 3 + 2, none⟩) haN).trans p2)
                obtain ⟨y, hy⟩ : ∃ y, y = l[g]'hks.2 := ⟨_, rfl⟩
                rw [← hy] at p0 p1 p2 HSn
                clear ga hy hks haN
                generalize frontV (t.key.take j) l = lx at *
                have hsq := HBq.out.size
                have hkm := HTK.out
                go_wp2_with (first | (at_builtin; refine wpList_appV1 rfl _ _ 42 rfl wp.heap.size 52 i0 _ 32 Try.underlying42 hi hz0 rfl hz1 hz2 (by omega) _ lx wr HOw.out rfl _ _ _ y rfl rfl rfl rfl HLx.out hsq ?_; intro v3 w3 hown3 hb3 hsz3; have HO3 := Lib.hid hown3; have HB3 := Lib.hid (HBq.out.trans hb3); clear hown3 hb3 hsz3))
                rw [← HSn.out] at HO3
                go_roundw
                case rel => exact ⟨j + 1, v3, by omega, by go_num, rfl, HO3, HB3⟩
                case measure => simp [intOf]; omega
              · have hje : j = t.key.length := by omega
                subst hje
                rw [List.take_length] at HOw
                have hfl : (frontV t.key l).length ≤ 1000000 := by have := HTK.out; unfold frontV; rw [List.length_map]; omega
                obtain ⟨af, cf, hvf, hcf, hVf⟩ := HOw.out.slice
                obtain ⟨nf, hnf⟩ : ∃ n, n = (frontV t.key l).length := ⟨_, rfl⟩
                rw [← hnf] at hvf hfl
                have HNF := Lib.hid hnf
                have HW1 := Lib.hid (HKW.out (frontV t.key l) af nf cf wr hVf hnf hfl HFF.out)
                subst hvf
                obtain ⟨FL, e1, hF⟩ : ∃ FL e1, writeK (frontV t.key l) = (FL, e1) := ⟨_, _, rfl⟩
                rw [hF] at HW1 HGd HFB
                obtain ⟨M, q, hM⟩ : ∃ M q, writeK (partsV t l) = (M, q) := ⟨_, _, rfl⟩
                rw [hM] at HBd HGd HFB
                dsimp only at HBd HGd HFB
                have HM := Lib.hid hM
                have hs0q := HBq.out.size
                clear hF hM hnf hcf hVf hjl hj
                go_wp2_with fail
                refine HW1.out.mono ?_
                rintro e w3 ⟨a3, c3, rfl, hc3, hB3, hg3, hb3⟩
                dsimp only at hc3 hB3 ⊢
                obtain ⟨n3, hn3⟩ : ∃ n, n = FL.length := ⟨_, rfl⟩
                rw [← hn3] at hc3 ⊢
                have HN3 := Lib.hid hn3
                have HG3 := Lib.hid hg3
                have hlt3 : ∀ g, Value.ownBlock (.slice af nf cf) = some g → g < wr.heap.size := fun g hg => own_lt HOw.out hg
                have HLt3 := Lib.hid hlt3
                have HF3 := Lib.hid hB3
                have HC3 := Lib.hid hc3
                have HO3 := Lib.hid (HOw.out.below (Nat.le_refl _) hb3)
                have HB3 := Lib.hid (HBq.out.trans (hb3.mono HBq.out.size))
                have hs3 := HB3.out.size
                clear x0 x1 x2 x3 x4 x5 x6 x7
                obtain ⟨x0, x1, x2, x3, x4, x5, x6, x7⟩ := HX.out.later hsz HB3.out
                dsimp only at x0 x1 x2 x3 x4 x5 x6 x7
                clear hn3 hb3 hB3 hc3 hg3 hlt3 HW1 HOw HBq hs0q
                by_cases hap : t.apart = true
                · rw [hap] at x6
                  obtain ⟨g, hfg, hgc⟩ := HApE.out hap
                  rw [hfg] at x4
                  have hgl2 : g < l.length := by have := HLL.out; omega
                  have hgl : g < len := by have := HRL.out; omega
                  obtain ⟨p0, p1, p2⟩ := HRow.out.vs.here hgl2
                  have haN := raN
                  have ga : l.getD g zeroVl = l[g] := by simp [List.getD_eq_getElem?_getD, List.getElem?_eq_getElem hgl2]
                  rw [if_pos hap, hfg, Int.toNat_natCast, ga] at HPt
                  have HB3w := Lib.hid (HB.out.trans (HB3.out.mono HB.out.size))
                  replace p0 := (HB3w.out.cell (p := ⟨ra, ro + g * 3, none⟩) haN).trans p0
                  replace p1 := (HB3w.out.cell (p := ⟨ra, ro + g * 3 + 1, none⟩) haN).trans p1
                  replace p2 := (HB3w.out.cell (p := ⟨ra, ro + g * 3 + 2, none⟩) haN).trans p2
                  obtain ⟨y, hy⟩ : ∃ y, y = l[g] := ⟨_, rfl⟩
                  rw [← hy] at p0 p1 p2 HPt
                  have hpl : (frontV t.key l ++ [y]).length ≤ 1000000 := by rw [List.length_append]; have := HTK8.out; unfold frontV; rw [List.length_map]; simp; omega
                  have hM2 := HM.out
                  have hPF := HPF.out
                  rw [HPt.out] at hM2 hPF
                  have HM2 := Lib.hid hM2
                  have HPF2 := Lib.hid hPF
                  have HPl := Lib.hid hpl
                  clear ga hy hgl2 hfg haN hap hM2 hPF hpl
                  have hnfl : (frontV t.key l).length < 1000000000000 := by rw [← HNF.out]; omega
                  have HNL := Lib.hid hnfl
                  clear hnfl
                  generalize frontV t.key l = lx at *
                  have HCn := Lib.hid (CellV.new w3 y 52)
                  have HOn := Lib.hid (HO3.out.below (Nat.le_refl _) ((Below.refl _ _).alloc (Nat.le_refl _) (.cells #[.int .u8 (y.k : Int), .int .i64 y.n, .string y.s] 52)))
                  have hs3n : wp.heap.size ≤ (w3.alloc (.cells #[.int .u8 (y.k : Int), .int .i64 y.n, .string y.s] 52)).heap.size := by simp; omega
                  have HFn := Lib.hid (HF3.out.below ((Below.refl _ _).alloc (Nat.le_refl _) (.cells #[.int .u8 (y.k : Int), .int .i64 y.n, .string y.s] 52)))
                  go_wp2_with (first | (at_builtin; refine wpList_plain rfl fun _ hK => wp_appV2 _ _ 42 rfl wp.heap.size 52 i0 _ 32 Try.underlying42 hi hz0 rfl hz1 hz2 (by omega) (.slice af nf cf) lx _ HOn.out rfl w3.heap.size y HCn.out rfl HNL.out hs3n ?_; intro v4 w4 hown4 hc4x hw4; refine hK _ _ ?_; obtain ⟨a4, c4, hv4, hc4, hV4⟩ := hown4.slice; obtain ⟨n4, hn4⟩ : ∃ n, n = (lx ++ [y]).length := ⟨_, rfl⟩; have HW2 := Lib.hid (HKW.out (lx ++ [y]) a4 n4 c4 w4 hV4 hn4 (by rw [hn4]; exact HPl.out) HPF2.out); rw [← hn4] at hv4; rw [HM2.out] at HW2; subst hv4; have HCx := Lib.hid hc4x; clear hown4 hc4x hw4 hc4 hV4 hn4))
                  have HF4 : Hid (Bs w4.heap.size w4 a3 FL) := by
                    have h1 := HFn.out.chg (by simp) HCx.out (fun g hg hl hm => by
                      rw [Option.mem_toList] at hm
                      have h2 := HLt3.out _ hm
                      have h3 := HG3.out g hg hl
                      omega)
                    exact h1.mono (by have := HCx.out.size; simp at this; omega)
                  have HB4 : Hid (Below wp.heap.size wp w4) := HB3.out.trans (((Below.refl _ _).alloc hs3 _).trans (HCx.out.below hs3n (fun k hk => by
                    rw [Option.mem_toList] at hk
                    exact (HO3.out.lt k hk).1)))
                  clear HCn HOn HFn HCx
                  go_wp2_with fail
                  refine HW2.out.mono ?_
                  rintro e w5 ⟨a5, c5, rfl, hc5, hB5, -, hb5⟩
                  dsimp only at hc5 hB5 ⊢
                  obtain ⟨n5, hn5⟩ : ∃ n, n = M.length := ⟨_, rfl⟩
                  rw [← hn5] at hc5 ⊢
                  have HN5 := Lib.hid hn5
                  have HF5 := Lib.hid hB5
                  have HC5 := Lib.hid hc5
                  have HF3' := Lib.hid ((HF4.out.below hb5).mono hb5.size)
                  have HBE := Lib.hid (HB.out.trans ((HB4.out.trans (hb5.mono HB4.out.size)).mono HB.out.size))
                  clear hn5 hb5 hB5 hc5 HW2
                  have ways : (e1 ≠ 0) ∨ (e1 = 0 ∧ q ≠ 0) ∨ (e1 = 0 ∧ q = 0 ∧ 80 < n5) ∨ (e1 = 0 ∧ q = 0 ∧ ¬ 80 < n5) := by omega
                  rcases ways with h1 | ⟨rfl, h2⟩ | ⟨rfl, rfl, h3⟩ | ⟨rfl, rfl, h3⟩
                  · have q1 : (e1 != 0) = true := by simpa using h1
                    have HA := Lib.hid (HBd.out (.inl (HFB.out h1)))
                    clear HBd HGd HFB h1
                    go_wp2
                    (try rw [Exit.noGoto_ret])
                    go_ret2
                    rw [HA.out]
                    exact ⟨none, 0, rfl, Nat.le_refl _, ⟨by simp, .inl rfl⟩, HBE.out⟩
                  · have q1 : (q != 0) = true := by simpa using h2
                    have HA := Lib.hid (HBd.out (.inl h2))
                    clear HBd HGd HFB h2
                    go_wp2
                    (try rw [Exit.noGoto_ret])
                    go_ret2
                    rw [HA.out]
                    exact ⟨none, 0, rfl, Nat.le_refl _, ⟨by simp, .inl rfl⟩, HBE.out⟩
                  · have q1 : decide ((80 : Int) < (n5 : Int)) = true := by simp; omega
                    have HA := Lib.hid (HBd.out (.inr (by have := HN5.out; omega)))
                    clear HBd HGd HFB
                    go_wp2
                    (try rw [Exit.noGoto_ret])
                    go_ret2
                    rw [HA.out]
                    exact ⟨none, 0, rfl, Nat.le_refl _, ⟨by simp, .inl rfl⟩, HBE.out⟩
                  · have q1 : decide ((80 : Int) < (n5 : Int)) = false := by simp; omega
                    have HA := Lib.hid (HGd.out rfl (by have := HN5.out; omega))
                    clear HBd HGd HFB
                    cases fr with
                    | true =>
                      have HA1 : Hid (keyR t l true = (FL, 0)) := HA.out.1
                      go_wp2
                      (try rw [Exit.noGoto_ret])
                      go_ret2
                      rw [HA1.out]
                      exact ⟨a3, c3, by rw [HN3.out]; rfl, (by show FL.length ≤ c3; rw [← HN3.out]; exact HC3.out), HF3'.out, HBE.out⟩
                    | false =>
                      have HA1 : Hid (keyR t l false = (M, 0)) := HA.out.2
                      go_wp2
                      (try rw [Exit.noGoto_ret])
                      go_ret2
                      rw [HA1.out]
                      exact ⟨a5, c5, by rw [HN5.out]; rfl, (by show M.length ≤ c5; rw [← HN5.out]; exact HC5.out), HF5.out, HBE.out⟩
                · have hap2 : t.apart = false := by simpa using hap
                  rw [hap2] at x6
                  rw [if_neg hap, List.append_nil] at HPt
                  obtain ⟨af', cf', hvf', -, hVf'⟩ := HO3.out.slice
                  rw [← HNF.out] at hvf'
                  have hM2 := HM.out
                  rw [HPt.out] at hM2
                  have HW2 := Lib.hid (HKW.out (frontV t.key l) af' nf cf' w3 hVf' HNF.out hfl HFF.out)
                  rw [hM2] at HW2
                  injection hvf' with e1' e2' e3'
                  subst e1' e3'
                  have HF4 := HF3
                  have HB4 := HB3
                  clear hap hap2 hM2 hVf' e2'
                  go_wp2_with fail
                  refine HW2.out.mono ?_
                  rintro e w5 ⟨a5, c5, rfl, hc5, hB5, -, hb5⟩
                  dsimp only at hc5 hB5 ⊢
                  obtain ⟨n5, hn5⟩ : ∃ n, n = M.length := ⟨_, rfl⟩
                  rw [← hn5] at hc5 ⊢
                  have HN5 := Lib.hid hn5
                  have HF5 := Lib.hid hB5
                  have HC5 := Lib.hid hc5
                  have HF3' := Lib.hid ((HF4.out.below hb5).mono hb5.size)
                  have HBE := Lib.hid (HB.out.trans ((HB4.out.trans (hb5.mono HB4.out.size)).mono HB.out.size))
                  clear hn5 hb5 hB5 hc5 HW2
                  have ways : (e1 ≠ 0) ∨ (e1 = 0 ∧ q ≠ 0) ∨ (e1 = 0 ∧ q = 0 ∧ 80 < n5) ∨ (e1 = 0 ∧ q = 0 ∧ ¬ 80 < n5) := by omega
                  rcases ways with h1 | ⟨rfl, h2⟩ | ⟨rfl, rfl, h3⟩ | ⟨rfl, rfl, h3⟩
                  · have q1 : (e1 != 0) = true := by simpa using h1
                    have HA := Lib.hid (HBd.out (.inl (HFB.out h1)))
                    clear HBd HGd HFB h1
                    go_wp2
                    (try rw [Exit.noGoto_ret])
                    go_ret2
                    rw [HA.out]
                    exact ⟨none, 0, rfl, Nat.le_refl _, ⟨by simp, .inl rfl⟩, HBE.out⟩
                  · have q1 : (q != 0) = true := by simpa using h2
                    have HA := Lib.hid (HBd.out (.inl h2))
                    clear HBd HGd HFB h2
                    go_wp2
                    (try rw [Exit.noGoto_ret])
                    go_ret2
                    rw [HA.out]
                    exact ⟨none, 0, rfl, Nat.le_refl _, ⟨by simp, .inl rfl⟩, HBE.out⟩
                  · have q1 : decide ((80 : Int) < (n5 : Int)) = true := by simp; omega
                    have HA := Lib.hid (HBd.out (.inr (by have := HN5.out; omega)))
                    clear HBd HGd HFB
                    go_wp2
                    (try rw [Exit.noGoto_ret])
                    go_ret2
                    rw [HA.out]
                    exact ⟨none, 0, rfl, Nat.le_refl _, ⟨by simp, .inl rfl⟩, HBE.out⟩
                  · have q1 : decide ((80 : Int) < (n5 : Int)) = false := by simp; omega
                    have HA := Lib.hid (HGd.out rfl (by have := HN5.out; omega))
                    clear HBd HGd HFB
                    cases fr with
                    | true =>
                      have HA1 : Hid (keyR t l true = (FL, 0)) := HA.out.1
                      go_wp2
                      (try rw [Exit.noGoto_ret])
                      go_ret2
                      rw [HA1.out]
                      exact ⟨a3, c3, by rw [HN3.out]; rfl, (by show FL.length ≤ c3; rw [← HN3.out]; exact HC3.out), HF3'.out, HBE.out⟩
                    | false =>
                      have HA1 : Hid (keyR t l false = (M, 0)) := HA.out.2
                      go_wp2
                      (try rw [Exit.noGoto_ret])
                      go_ret2
                      rw [HA1.out]
                      exact ⟨a5, c5, by rw [HN5.out]; rfl, (by show M.length ≤ c5; rw [← HN5.out]; exact HC5.out), HF5.out, HBE.out⟩
          · obtain ⟨pi, pj, hpi, hpj, hil, hjl⟩ := HPer.out hp
            have hne : ¬ t.per.toList = [] := by
              intro h
              have : t.per = ⟨#[]⟩ := toList_inj (by rw [h]; decide +kernel)
              rw [this] at hp; exact hp rfl
            have qp : t.per.toList.isEmpty = false := by simpa using hne
            have hil2 : pi < l.length := by have := HLL.out; omega
            have hjl2 : pj < l.length := by have := HLL.out; omega
            have hil3 : pi < len := by have := HRL.out; omega
            have hjl3 : pj < len := by have := HRL.out; omega
            obtain ⟨-, r1, -⟩ := HRow.out.vs.here hil2
            obtain ⟨-, s1, -⟩ := HRow.out.vs.here hjl2
            have haN := raN
            have gi : l.getD pi zeroVl = l[pi] := by simp [List.getD_eq_getElem?_getD, List.getElem?_eq_getElem hil2]
            have gj : l.getD pj zeroVl = l[pj] := by simp [List.getD_eq_getElem?_getD, List.getElem?_eq_getElem hjl2]
            replace r1 := (HB.out.cell (p := ⟨ra, ro + pi * 3 + 1, none⟩) haN).trans r1
            replace s1 := (HB.out.cell (p := ⟨ra, ro + pj * 3 + 1, none⟩) haN).trans s1
            rw [hpi, hpj, Int.toNat_natCast, Int.toNat_natCast, gi, gj] at HBad HGood HNo
            obtain ⟨x0, x1, x2, x3, x4, x5, x6, x7⟩ := HX.out
            dsimp only at x0 x1 x2 x3 x4 x5 x6 x7
            rw [hpi] at x4
            rw [hpj] at x5
            generalize l[pi].n = nx at *
            generalize l[pj].n = ny at *
            clear gi gj hil hjl hil2 hjl2 hne
            have d3 : ∀ W, Later wp.drew W → W.cell? ⟨w.heap.size, 3, none⟩ = some (.string t.per) := fun W hW => ((Later.undrew hW).cell (p := ⟨w.heap.size, 3, none⟩) hsz).trans x3
            have d4 : ∀ W, Later wp.drew W → W.cell? ⟨w.heap.size, 4, none⟩ = some (.int .i64 (pi : Int)) := fun W hW => ((Later.undrew hW).cell (p := ⟨w.heap.size, 4, none⟩) hsz).trans x4
            have d5 : ∀ W, Later wp.drew W → W.cell? ⟨w.heap.size, 5, none⟩ = some (.int .i64 (pj : Int)) := fun W hW => ((Later.undrew hW).cell (p := ⟨w.heap.size, 5, none⟩) hsz).trans x5
            have r1d : ∀ W, Later wp.drew W → W.cell? ⟨ra, ro + pi * 3 + 1, none⟩ = some (.int .i64 nx) := fun W hW => ((Later.undrew hW).cell (p := ⟨ra, ro + pi * 3 + 1, none⟩) (Nat.lt_of_lt_of_le haN HB.out.size)).trans r1
            have s1d : ∀ W, Later wp.drew W → W.cell? ⟨ra, ro + pj * 3 + 1, none⟩ = some (.int .i64 ny) := fun W hW => ((Later.undrew hW).cell (p := ⟨ra, ro + pj * 3 + 1, none⟩) (Nat.lt_of_lt_of_le haN HB.out.size)).trans s1
            clear r1 s1 haN
            by_cases hxy : nx < ny
            · have qx : decide (ny ≤ nx) = false := by simp; omega
              have HBd := Lib.hid (HBad.out (fun h => h.2 hxy))
              have HGd := Lib.hid (HGood.out (fun h => h.2 hxy))
              clear HBad HGood HNo HPer hxy
              have HIL := Lib.hid hil3
              have HJL := Lib.hid hjl3
              go_wp2_with fail
              clear x0 x1 x2 x3 x4 x5 x6 x7
              refine wp_region_ord [(0, true), (1, true), (2, true), (3, true), (4, true), (5, true), (6, true), (7, true), (8, true), (9, true), (10, true), (11, true), (12, true), (13, true), (14, true), (15, true), (16, true), (17, true)] (by kernel_rfl) (by kernel_rfl) (by kernel_rfl) (by kernel_rfl) ?_
              repeat (first | (refine wpO_F (v := ?_) rfl (by rfl) (fun w' hL => ?_) ?_; rotate_left; (solve | (go_simp; with_reducible rfl) | go_simp); try simp only [Act.put, List.setIfInBounds_toArray, List.set_cons_zero, List.set_cons_succ]) | (refine wpO_G rfl (by rfl) ?_; try simp only [Act.put, List.setIfInBounds_toArray, List.set_cons_zero, List.set_cons_succ]))
              refine wpO_nil ?_
              clear d3 d4 d5 r1d s1d qx qp hpi hpj hp hil3 hjl3
              go_wp2_with fail
              go_loopw [10, 11] (fun v i wr => ∃ (j : Nat) (vv : Value), j ≤ t.key.length ∧ i = .int .i64 j ∧ vv = v ∧ Hid (OwnV wr wp.heap.size 52 vv (frontV (t.key.take j) l)) ∧ Hid (Below wp.heap.size wp wr)) (fun _ i _ => t.key.length - (intOf i).toNat)
              case atStart => exact ⟨0, _, by omega, rfl, rfl, OwnV.nil _ _ _, Lib.hid (Below.refl _ _).drew⟩
              case round =>
                obtain ⟨j, vv, hj, rfl, rfl, HOw, HBq⟩ := hrel
                obtain ⟨x0, x1, x2, x3, x4, x5, x6, x7⟩ := HX.out.later hsz HBq.out
                dsimp only at x0 x1 x2 x3 x4 x5 x6 x7
                by_cases hjl : j < t.key.length
                · obtain ⟨kb, ko, rfl, hkN, k0⟩ := intAt HKey.out hjl
                  have hks := HKs.out _ (List.getElem_mem hjl)
                  have HSn := Lib.hid (frontV_snoc t.key l j hjl)
                  have hxl : (frontV (t.key.take j) l).length < 1000000000000 := by have := HTK.out; unfold frontV; rw [List.length_map, List.length_take]; omega
                  have HLx := Lib.hid hxl
                  replace k0 := (HBq.out.cell (p := ⟨kb, ko + j, none⟩) (Nat.lt_of_lt_of_le hkN HB.out.size)).trans ((HB.out.cell (p := ⟨kb, ko + j, none⟩) hkN).trans k0)
                  obtain ⟨x, hx⟩ : ∃ x, x = t.key[j] := ⟨_, rfl⟩
                  rw [← hx] at k0 hks HSn
                  clear hx hxl hkN
                  obtain ⟨g, rfl⟩ : ∃ g : Nat, x = g := ⟨x.toNat, by omega⟩
                  rw [Int.toNat_natCast] at hks HSn
                  have hgl : g < len := by have := HRL.out; omega
                  obtain ⟨p0, p1, p2⟩ := HRow.out.vs.here hks.2
                  have haN := raN
                  have ga : l.getD g zeroVl = l[g]'hks.2 := by simp [List.getD_eq_getElem?_getD, List.getElem?_eq_getElem hks.2]
                  rw [ga] at HSn
                  replace p0 := (HBq.out.cell (p := ⟨ra, ro + g * 3, none⟩) (Nat.lt_of_lt_of_le haN HB.out.size)).trans ((HB.out.cell (p := ⟨ra, ro + g * 3, none⟩) haN).trans p0)
                  replace p1 := (HBq.out.cell (p := ⟨ra, ro + g * 3 + 1, none⟩) (Nat.lt_of_lt_of_le haN HB.out.size)).trans ((HB.out.cell (p := ⟨ra, ro + g * 3 + 1, none⟩) haN).trans p1)
                  replace p2 := (HBq.out.cell (p := ⟨ra, ro + g * 3 + 2, none⟩) (Nat.lt_of_lt_of_le haN HB.out.size)).trans ((HB.out.cell (p := ⟨ra, ro + g * 3 + 2, none⟩) haN).trans p2)
                  obtain ⟨y, hy⟩ : ∃ y, y = l[g]'hks.2 := ⟨_, rfl⟩
                  rw [← hy] at p0 p1 p2 HSn
                  clear ga hy hks haN
                  generalize frontV (t.key.take j) l = lx at *
                  have hsq := HBq.out.size
                  have hkm := HTK.out
                  go_wp2_with (first | (at_builtin; refine wpList_appV1 rfl _ _ 42 rfl wp.heap.size 52 i0 _ 32 Try.underlying42 hi hz0 rfl hz1 hz2 (by omega) _ lx wr HOw.out rfl _ _ _ y rfl rfl rfl rfl HLx.out hsq ?_; intro v3 w3 hown3 hb3 hsz3; have HO3 := Lib.hid hown3; have HB3 := Lib.hid (HBq.out.trans hb3); clear hown3 hb3 hsz3))
                  rw [← HSn.out] at HO3
                  go_roundw
                  case rel => exact ⟨j + 1, v3, by omega, by go_num, rfl, HO3, HB3⟩
                  case measure => simp [intOf]; omega
                · have hje : j = t.key.length := by omega
                  subst hje
                  rw [List.take_length] at HOw
                  have hfl : (frontV t.key l).length ≤ 1000000 := by have := HTK.out; unfold frontV; rw [List.length_map]; omega
                  obtain ⟨af, cf, hvf, hcf, hVf⟩ := HOw.out.slice
                  obtain ⟨nf, hnf⟩ : ∃ n, n = (frontV t.key l).length := ⟨_, rfl⟩
                  rw [← hnf] at hvf hfl
                  have HNF := Lib.hid hnf
                  have HW1 := Lib.hid (HKW.out (frontV t.key l) af nf cf wr hVf hnf hfl HFF.out)
                  subst hvf
                  obtain ⟨FL, e1, hF⟩ : ∃ FL e1, writeK (frontV t.key l) = (FL, e1) := ⟨_, _, rfl⟩
                  rw [hF] at HW1 HGd HFB
                  obtain ⟨M, q, hM⟩ : ∃ M q, writeK (partsV t l) = (M, q) := ⟨_, _, rfl⟩
                  rw [hM] at HBd HGd HFB
                  dsimp only at HBd HGd HFB
                  have HM := Lib.hid hM
                  have hs0q := HBq.out.size
                  clear hF hM hnf hcf hVf hjl hj
                  go_wp2_with fail
                  refine HW1.out.mono ?_
                  rintro e w3 ⟨a3, c3, rfl, hc3, hB3, hg3, hb3⟩
                  dsimp only at hc3 hB3 ⊢
                  obtain ⟨n3, hn3⟩ : ∃ n, n = FL.length := ⟨_, rfl⟩
                  rw [← hn3] at hc3 ⊢
                  have HN3 := Lib.hid hn3
                  have HG3 := Lib.hid hg3
                  have hlt3 : ∀ g, Value.ownBlock (.slice af nf cf) = some g → g < wr.heap.size := fun g hg => own_lt HOw.out hg
                  have HLt3 := Lib.hid hlt3
                  have HF3 := Lib.hid hB3
                  have HC3 := Lib.hid hc3
                  have HO3 := Lib.hid (HOw.out.below (Nat.le_refl _) hb3)
                  have HB3 := Lib.hid (HBq.out.trans (hb3.mono HBq.out.size))
                  have hs3 := HB3.out.size
                  clear x0 x1 x2 x3 x4 x5 x6 x7
                  obtain ⟨x0, x1, x2, x3, x4, x5, x6, x7⟩ := HX.out.later hsz HB3.out
                  dsimp only at x0 x1 x2 x3 x4 x5 x6 x7
                  clear hn3 hb3 hB3 hc3 hg3 hlt3 HW1 HOw HBq hs0q
                  by_cases hap : t.apart = true
                  · rw [hap] at x6
                    obtain ⟨g, hfg, hgc⟩ := HApE.out hap
                    rw [hfg] at x4
                    have hgl2 : g < l.length := by have := HLL.out; omega
                    have hgl : g < len := by have := HRL.out; omega
                    obtain ⟨p0, p1, p2⟩ := HRow.out.vs.here hgl2
                    have haN := raN
                    have ga : l.getD g zeroVl = l[g] := by simp [List.getD_eq_getElem?_getD, List.getElem?_eq_getElem hgl2]
                    rw [if_pos hap, hfg, Int.toNat_natCast, ga] at HPt
                    have HB3w := Lib.hid (HB.out.trans (HB3.out.mono HB.out.size))
                    replace p0 := (HB3w.out.cell (p := ⟨ra, ro + g * 3, none⟩) haN).trans p0
                    replace p1 := (HB3w.out.cell (p := ⟨ra, ro + g * 3 + 1, none⟩) haN).trans p1
                    replace p2 := (HB3w.out.cell (p := ⟨ra, ro + g * 3 + 2, none⟩) haN).trans p2
                    obtain ⟨y, hy⟩ : ∃ y, y = l[g] := ⟨_, rfl⟩
                    rw [← hy] at p0 p1 p2 HPt
                    have hpl : (frontV t.key l ++ [y]).length ≤ 1000000 := by rw [List.length_append]; have := HTK8.out; unfold frontV; rw [List.length_map]; simp; omega
                    have hM2 := HM.out
                    have hPF := HPF.out
                    rw [HPt.out] at hM2 hPF
                    have HM2 := Lib.hid hM2
                    have HPF2 := Lib.hid hPF
                    have HPl := Lib.hid hpl
                    clear ga hy hgl2 hfg haN hap hM2 hPF hpl
                    have hnfl : (frontV t.key l).length < 1000000000000 := by rw [← HNF.out]; omega
                    have HNL := Lib.hid hnfl
                    clear hnfl
                    generalize frontV t.key l = lx at *
                    have HCn := Lib.hid (CellV.new w3 y 52)
                    have HOn := Lib.hid (HO3.out.below (Nat.le_refl _) ((Below.refl _ _).alloc (Nat.le_refl _) (.cells #[.int .u8 (y.k : Int), .int .i64 y.n, .string y.s] 52)))
                    have hs3n : wp.heap.size ≤ (w3.alloc (.cells #[.int .u8 (y.k : Int), .int .i64 y.n, .string y.s] 52)).heap.size := by simp; omega
                    have HFn := Lib.hid (HF3.out.below ((Below.refl _ _).alloc (Nat.le_refl _) (.cells #[.int .u8 (y.k : Int), .int .i64 y.n, .string y.s] 52)))
                    go_wp2_with (first | (at_builtin; refine wpList_plain rfl fun _ hK => wp_appV2 _ _ 42 rfl wp.heap.size 52 i0 _ 32 Try.underlying42 hi hz0 rfl hz1 hz2 (by omega) (.slice af nf cf) lx _ HOn.out rfl w3.heap.size y HCn.out rfl HNL.out hs3n ?_; intro v4 w4 hown4 hc4x hw4; refine hK _ _ ?_; obtain ⟨a4, c4, hv4, hc4, hV4⟩ := hown4.slice; obtain ⟨n4, hn4⟩ : ∃ n, n = (lx ++ [y]).length := ⟨_, rfl⟩; have HW2 := Lib.hid (HKW.out (lx ++ [y]) a4 n4 c4 w4 hV4 hn4 (by rw [hn4]; exact HPl.out) HPF2.out); rw [← hn4] at hv4; rw [HM2.out] at HW2; subst hv4; have HCx := Lib.hid hc4x; clear hown4 hc4x hw4 hc4 hV4 hn4))
                    have HF4 : Hid (Bs w4.heap.size w4 a3 FL) := by
                      have h1 := HFn.out.chg (by simp) HCx.out (fun g hg hl hm => by
                        rw [Option.mem_toList] at hm
                        have h2 := HLt3.out _ hm
                        have h3 := HG3.out g hg hl
                        omega)
                      exact h1.mono (by have := HCx.out.size; simp at this; omega)
                    have HB4 : Hid (Below wp.heap.size wp w4) := HB3.out.trans (((Below.refl _ _).alloc hs3 _).trans (HCx.out.below hs3n (fun k hk => by
                      rw [Option.mem_toList] at hk
                      exact (HO3.out.lt k hk).1)))
                    clear HCn HOn HFn HCx
                    go_wp2_with fail
                    refine HW2.out.mono ?_
                    rintro e w5 ⟨a5, c5, rfl, hc5, hB5, -, hb5⟩
                    dsimp only at hc5 hB5 ⊢
                    obtain ⟨n5, hn5⟩ : ∃ n, n = M.length := ⟨_, rfl⟩
                    rw [← hn5] at hc5 ⊢
                    have HN5 := Lib.hid hn5
                    have HF5 := Lib.hid hB5
                    have HC5 := Lib.hid hc5
                    have HF3' := Lib.hid ((HF4.out.below hb5).mono hb5.size)
                    have HBE := Lib.hid (HB.out.trans ((HB4.out.trans (hb5.mono HB4.out.size)).mono HB.out.size))
                    clear hn5 hb5 hB5 hc5 HW2
                    have ways : (e1 ≠ 0) ∨ (e1 = 0 ∧ q ≠ 0) ∨ (e1 = 0 ∧ q = 0 ∧ 80 < n5) ∨ (e1 = 0 ∧ q = 0 ∧ ¬ 80 < n5) := by omega
                    rcases ways with h1 | ⟨rfl, h2⟩ | ⟨rfl, rfl, h3⟩ | ⟨rfl, rfl, h3⟩
                    · have q1 : (e1 != 0) = true := by simpa using h1
                      have HA := Lib.hid (HBd.out (.inl (HFB.out h1)))
                      clear HBd HGd HFB h1
                      go_wp2
                      (try rw [Exit.noGoto_ret])
                      go_ret2
                      rw [HA.out]
                      exact ⟨none, 0, rfl, Nat.le_refl _, ⟨by simp, .inl rfl⟩, HBE.out⟩
                    · have q1 : (q != 0) = true := by simpa using h2
                      have HA := Lib.hid (HBd.out (.inl h2))
                      clear HBd HGd HFB h2
                      go_wp2
                      (try rw [Exit.noGoto_ret])
                      go_ret2
                      rw [HA.out]
                      exact ⟨none, 0, rfl, Nat.le_refl _, ⟨by simp, .inl rfl⟩, HBE.out⟩
                    · have q1 : decide ((80 : Int) < (n5 : Int)) = true := by simp; omega
                      have HA := Lib.hid (HBd.out (.inr (by have := HN5.out; omega)))
                      clear HBd HGd HFB
                      go_wp2
                      (try rw [Exit.noGoto_ret])
                      go_ret2
                      rw [HA.out]
                      exact ⟨none, 0, rfl, Nat.le_refl _, ⟨by simp, .inl rfl⟩, HBE.out⟩
                    · have q1 : decide ((80 : Int) < (n5 : Int)) = false := by simp; omega
                      have HA := Lib.hid (HGd.out rfl (by have := HN5.out; omega))
                      clear HBd HGd HFB
                      cases fr with
                      | true =>
                        have HA1 : Hid (keyR t l true = (FL, 0)) := HA.out.1
                        go_wp2
                        (try rw [Exit.noGoto_ret])
                        go_ret2
                        rw [HA1.out]
                        exact ⟨a3, c3, by rw [HN3.out]; rfl, (by show FL.length ≤ c3; rw [← HN3.out]; exact HC3.out), HF3'.out, HBE.out⟩
                      | false =>
                        have HA1 : Hid (keyR t l false = (M, 0)) := HA.out.2
                        go_wp2
                        (try rw [Exit.noGoto_ret])
                        go_ret2
                        rw [HA1.out]
                        exact ⟨a5, c5, by rw [HN5.out]; rfl, (by show M.length ≤ c5; rw [← HN5.out]; exact HC5.out), HF5.out, HBE.out⟩
                  · have hap2 : t.apart = false := by simpa using hap
                    rw [hap2] at x6
                    rw [if_neg hap, List.append_nil] at HPt
                    obtain ⟨af', cf', hvf', -, hVf'⟩ := HO3.out.slice
                    rw [← HNF.out] at hvf'
                    have hM2 := HM.out
                    rw [HPt.out] at hM2
                    have HW2 := Lib.hid (HKW.out (frontV t.key l) af' nf cf' w3 hVf' HNF.out hfl HFF.out)
                    rw [hM2] at HW2
                    injection hvf' with e1' e2' e3'
                    subst e1' e3'
                    have HF4 := HF3
                    have HB4 := HB3
                    clear hap hap2 hM2 hVf' e2'
                    go_wp2_with fail
                    refine HW2.out.mono ?_
                    rintro e w5 ⟨a5, c5, rfl, hc5, hB5, -, hb5⟩
                    dsimp only at hc5 hB5 ⊢
                    obtain ⟨n5, hn5⟩ : ∃ n, n = M.length := ⟨_, rfl⟩
                    rw [← hn5] at hc5 ⊢
                    have HN5 := Lib.hid hn5
                    have HF5 := Lib.hid hB5
                    have HC5 := Lib.hid hc5
                    have HF3' := Lib.hid ((HF4.out.below hb5).mono hb5.size)
                    have HBE := Lib.hid (HB.out.trans ((HB4.out.trans (hb5.mono HB4.out.size)).mono HB.out.size))
                    clear hn5 hb5 hB5 hc5 HW2
                    have ways : (e1 ≠ 0) ∨ (e1 = 0 ∧ q ≠ 0) ∨ (e1 = 0 ∧ q = 0 ∧ 80 < n5) ∨ (e1 = 0 ∧ q = 0 ∧ ¬ 80 < n5) := by omega
                    rcases ways with h1 | ⟨rfl, h2⟩ | ⟨rfl, rfl, h3⟩ | ⟨rfl, rfl, h3⟩
                    · have q1 : (e1 != 0) = true := by simpa using h1
                      have HA := Lib.hid (HBd.out (.inl (HFB.out h1)))
                      clear HBd HGd HFB h1
                      go_wp2
                      (try rw [Exit.noGoto_ret])
                      go_ret2
                      rw [HA.out]
                      exact ⟨none, 0, rfl, Nat.le_refl _, ⟨by simp, .inl rfl⟩, HBE.out⟩
                    · have q1 : (q != 0) = true := by simpa using h2
                      have HA := Lib.hid (HBd.out (.inl h2))
                      clear HBd HGd HFB h2
                      go_wp2
                      (try rw [Exit.noGoto_ret])
                      go_ret2
                      rw [HA.out]
                      exact ⟨none, 0, rfl, Nat.le_refl _, ⟨by simp, .inl rfl⟩, HBE.out⟩
                    · have q1 : decide ((80 : Int) < (n5 : Int)) = true := by simp; omega
                      have HA := Lib.hid (HBd.out (.inr (by have := HN5.out; omega)))
                      clear HBd HGd HFB
                      go_wp2
                      (try rw [Exit.noGoto_ret])
                      go_ret2
                      rw [HA.out]
                      exact ⟨none, 0, rfl, Nat.le_refl _, ⟨by simp, .inl rfl⟩, HBE.out⟩
                    · have q1 : decide ((80 : Int) < (n5 : Int)) = false := by simp; omega
                      have HA := Lib.hid (HGd.out rfl (by have := HN5.out; omega))
                      clear HBd HGd HFB
                      cases fr with
                      | true =>
                        have HA1 : Hid (keyR t l true = (FL, 0)) := HA.out.1
                        go_wp2
                        (try rw [Exit.noGoto_ret])
                        go_ret2
                        rw [HA1.out]
                        exact ⟨a3, c3, by rw [HN3.out]; rfl, (by show FL.length ≤ c3; rw [← HN3.out]; exact HC3.out), HF3'.out, HBE.out⟩
                      | false =>
                        have HA1 : Hid (keyR t l false = (M, 0)) := HA.out.2
                        go_wp2
                        (try rw [Exit.noGoto_ret])
                        go_ret2
                        rw [HA1.out]
                        exact ⟨a5, c5, by rw [HN5.out]; rfl, (by show M.length ≤ c5; rw [← HN5.out]; exact HC5.out), HF5.out, HBE.out⟩
            · have qx : decide (ny ≤ nx) = true := by simp; omega
              have HA := Lib.hid (HNo.out hp hxy)
              clear HBad HGood HNo HPer
              go_wp2_with fail
              clear x0 x1 x2 x3 x4 x5 x6 x7
              refine wp_region_ord [(0, true), (1, true), (2, true), (3, true), (4, true), (5, true), (6, true), (7, true), (8, true), (9, true), (10, true), (11, true), (12, true), (13, true), (14, true), (15, true), (16, true), (17, true)] (by kernel_rfl) (by kernel_rfl) (by kernel_rfl) (by kernel_rfl) ?_
              repeat (first | (refine wpO_F (v := ?_) rfl (by rfl) (fun w' hL => ?_) ?_; rotate_left; (solve | (go_simp; with_reducible rfl) | go_simp); try simp only [Act.put, List.setIfInBounds_toArray, List.set_cons_zero, List.set_cons_succ]) | (refine wpO_G rfl (by rfl) ?_; try simp only [Act.put, List.setIfInBounds_toArray, List.set_cons_zero, List.set_cons_succ]))
              refine wpO_nil ?_
              go_wp2
              (try rw [Exit.noGoto_ret])
              go_ret2
              rw [HA.out]
              exact ⟨none, 0, rfl, Nat.le_refl _, ⟨by simp, .inl rfl⟩, HB.out.drew⟩
    · have hql : ((len : Int) != (m.cl : Int)) = true := by simp; omega
      have hk := keyR_bad (fr := fr) (rowE2 (l := l) ht (by omega)) (by decide)
      have HA := Lib.hid hk
      clear h hr hk hOk ht hcl hcm hrl hrm hlen
      go_enter Try.func20, Try.ntmps20
      go_wp2_with fail
      refine (HR.out _ HB0.out).mono ?_
      rintro e w1 ⟨rfl, hb1⟩
      have HBw : Hid (Below w.heap.size w w1) := HB0.out.trans (hb1.mono (Nat.le_of_lt hs0))
      obtain ⟨x0, x1, x2, x3, x4, x5, x6, x7⟩ := HX0.out.later hs0 hb1
      clear hb1 HX0 HB0 hs0 HR
      go_wp2
      go_ret2
      rw [HA.out]
      exact ⟨none, 0, rfl, Nat.le_refl _, ⟨by simp, .inl rfl⟩, HBw.out⟩
  · have htf : t.ok = false := by simpa using ht
    rw [htf] at HR
    have HA := Lib.hid (keyR_bad (fr := fr) (rowE1 (l := l) htf) (by decide))
    clear h hr ht htf HX0
    go_enter Try.func20, Try.ntmps20
    go_wp2_with fail
    refine (HR.out _ HB0.out).mono ?_
    rintro e w1 ⟨rfl, hb1⟩
    have HBw : Hid (Below w.heap.size w w1) := HB0.out.trans (hb1.mono (Nat.le_of_lt hs0))
    clear hb1 HB0 hs0 HR
    go_wp2
    go_ret2
    rw [HA.out]
    exact ⟨none, 0, rfl, Nat.le_refl _, ⟨by simp, .inl rfl⟩, HBw.out⟩
end Go.Proofs.Ytialpfdhdcjpaaa

/- The walk of schema.SpanOf. -/
set_option linter.unusedSimpArgs false
set_option linter.unusedVariables false
set_option maxRecDepth 100000
namespace Go.Proofs.Ytialpfdhdcjpaaa
open Go.RowKit

/-- The period of a row, and whether it has one. -/
noncomputable def spanOf (t : Tb) (l : List Vl) : (Int × Int) × Bool := if rowE t l = 0 ∧ t.per.size ≠ 0 then (((l.getD t.fr.toNat zeroVl).n, (l.getD t.tt.toNat zeroVl).n), true) else ((0, 0), false)

/-- A span is stored into a variable that has just been laid. -/
theorem span_store (w : World) (b : Nat) (old : Array Value) (x y : Int) (h : Blk w b 47 old) (hsz : old.size = 2) :
    ∃ W, (storeVar 47 ⟨b, 0, none⟩ (.agg #[.int .i64 x, .int .i64 y])).run Try.prog w = .ok () W ∧ Blk W b 47 #[.int .i64 x, .int .i64 y] ∧ Chg [b] w W := by
  have hsz2 : (Try.prog.info? 47).map (·.size) = some 2 := by kernel_rfl
  exact ⟨_, run_storeVar_row _ _ _ 47 _ _ h (by rw [hsz2]; simp) (by rw [hsz]; rfl) (by simp [Value.oneCell']), Blk.setRow h, (Chg.refl _ _).setRow (.inl (by simp)) _⟩
theorem span_load (w : World) (b : Nat) (x y : Int) (h : Blk w b 47 #[.int .i64 x, .int .i64 y]) :
    (loadVar 47 ⟨b, 0, none⟩).run Try.prog w = .ok (.agg #[.int .i64 x, .int .i64 y]) w := by
  have hsz2 : (Try.prog.info? 47).map (·.size) = some 2 := by kernel_rfl
  exact run_loadVar_row _ _ _ 47 _ (0, 0) _ h Try.underlying47 rfl (by rw [hsz2]; rfl)

set_option maxHeartbeats 4000000 in
theorem sSpanOf_any (t : Tb) (m : TM) (l : List Vl) (a : Option Addr) (len cap : Nat) (w : World) (h : TAt w t m) (hr : RowAt w l a len cap) :
    Calls Try.prog 22 #[m.v t, .slice a len cap] w fun e w' => e = .returned (.tuple #[.agg #[.int .i64 (spanOf t l).1.1, .int .i64 (spanOf t l).1.2], .bool (spanOf t l).2]) ∧ Below w.heap.size w w' := by
  have HC := Lib.hid (fun W (hb : Below w.heap.size w W) => sCheck_any t m l a len cap W (h.later hb) (hr.later hb))
  have HH := Lib.hid (fun W => hasPeriod_any t m W)
  obtain ⟨W0, hW0⟩ : ∃ W0, W0 = (w.alloc (.cells (m.cs t) 25)).alloc (.cells #[.int .i64 0, .int .i64 0] 47) := ⟨_, rfl⟩
  have hBW : Below w.heap.size w W0 := by rw [hW0]; exact ((Below.refl _ w).alloc (Nat.le_refl _) _).alloc (by simp) _
  have hX0 : TBox W0 w.heap.size m t := by rw [hW0]; exact (TBox.new w m t _).later (N := w.heap.size + 1) (by omega) ((Below.refl _ _).alloc (by simp) _)
  have hR : Blk W0 (w.heap.size + 1) 47 #[.int .i64 0, .int .i64 0] := by
    have := Blk.new (w.alloc (.cells (m.cs t) 25)) 47 #[.int .i64 0, .int .i64 0]
    rw [hW0]
    rw [show (w.alloc (.cells (m.cs t) 25)).heap.size = w.heap.size + 1 by simp] at this
    exact this
  have hs0 : w.heap.size + 1 < W0.heap.size := hR.lt
  have HB0 := Lib.hid hBW
  have HX0 := Lib.hid hX0
  have HR0 := Lib.hid hR
  have HS0 := Lib.hid hs0
  have HW0 := Lib.hid hW0
  clear hBW hX0 hR hs0 hW0
  by_cases h0 : rowE t l = 0
  · rw [h0] at HC
    by_cases hp : t.per.size = 0
    · have hsp : spanOf t l = ((0, 0), false) := if_neg (fun hh => hh.2 hp)
      rw [show decide (t.per.size ≠ 0) = false by simp [hp]] at HH
      rw [hsp]
      clear h hr hsp hp h0
      go_enter Try.func22, Try.ntmps22
      go_upto_region 1 with (fail)
      rw [← HW0.out]
      obtain ⟨x0, x1, x2, x3, x4, x5, x6, x7⟩ := HX0.out
      go_wp2_with fail
      refine (HC.out _ HB0.out).mono ?_
      rintro e w1 ⟨rfl, hb1⟩
      have HX1 := Lib.hid (HX0.out.later (Nat.lt_trans (Nat.lt_succ_self _) HS0.out) hb1)
      have HR1 := Lib.hid (HR0.out.belS hb1 HS0.out)
      have HB1 := Lib.hid (HB0.out.trans (hb1.mono HB0.out.size))
      clear hb1 x0 x1 x2 x3 x4 x5 x6 x7
      obtain ⟨x0, x1, x2, x3, x4, x5, x6, x7⟩ := HX1.out
      go_wp2_with fail
      refine (HH.out _).mono ?_
      rintro e w2 ⟨rfl, hb2⟩
      have HR2 := Lib.hid (HR1.out.belS hb2 HR1.out.lt)
      have HB2 := Lib.hid (HB1.out.trans (hb2.mono HB1.out.size))
      clear hb2 x0 x1 x2 x3 x4 x5 x6 x7
      obtain ⟨W3, hS, hR3, hC3⟩ := span_store w2 _ _ 0 0 HR2.out rfl
      have HS := Lib.hid hS
      have HL := Lib.hid (span_load W3 _ 0 0 hR3)
      have HB3 := Lib.hid (HB2.out.trans (hC3.below HB2.out.size (by simp)))
      clear hS hR3 hC3
      go_wp2_with (first | (guard_target =~ wpList _ _ _ (Oper.mk _ (Op.store 47 _ _) _ _ _ _ :: _) _ _; refine wpList_skp rfl (exec_store rfl rfl rfl HS.out) ?_))
      exact bodyPost_ret (v := .tuple #[.agg #[.int .i64 0, .int .i64 0], .bool false]) (results_cell_tmp Try.results22 _ _ rfl rfl HL.out) rfl ⟨rfl, HB3.out⟩
    · have hOk := (Tb.ok_iff.1 (show t.ok = true by
        by_cases ht : t.ok = true
        · exact ht
        · rw [rowE1 (by simpa using ht)] at h0; cases h0))
      have hll : l.length = t.cols.length := by
        by_cases hll : l.length = t.cols.length
        · exact hll
        · rw [rowE2 (Tb.ok_iff.2 hOk) hll] at h0; cases h0
      obtain ⟨pi, pj, hpi, hpj, hil, hjl⟩ := hOk.edges hp
      have hsp : spanOf t l = (((l.getD pi zeroVl).n, (l.getD pj zeroVl).n), true) := by
        unfold spanOf; rw [if_pos ⟨h0, hp⟩, hpi, hpj, Int.toNat_natCast, Int.toNat_natCast]
      have HSp := Lib.hid (fun W (hb : Below w.heap.size w W) => sSpan_any t m l a len cap pi pj W (hr.later hb).vs hr.len_ hpi hpj (by omega) (by omega) hr.max)
      rw [show decide (t.per.size ≠ 0) = true by simp [hp]] at HH
      rw [hsp]
      generalize (l.getD pi zeroVl).n = nx at *
      generalize (l.getD pj zeroVl).n = ny at *
      clear h hr hsp hp h0 hOk hll hpi hpj hil hjl
      go_enter Try.func22, Try.ntmps22
      go_upto_region 1 with (fail)
      rw [← HW0.out]
      obtain ⟨x0, x1, x2, x3, x4, x5, x6, x7⟩ := HX0.out
      go_wp2_with fail
      refine (HC.out _ HB0.out).mono ?_
      rintro e w1 ⟨rfl, hb1⟩
      have HX1 := Lib.hid (HX0.out.later (Nat.lt_trans (Nat.lt_succ_self _) HS0.out) hb1)
      have HR1 := Lib.hid (HR0.out.belS hb1 HS0.out)
      have HB1 := Lib.hid (HB0.out.trans (hb1.mono HB0.out.size))
      clear hb1 x0 x1 x2 x3 x4 x5 x6 x7
      obtain ⟨x0, x1, x2, x3, x4, x5, x6, x7⟩ := HX1.out
      go_wp2_with fail
      refine (HH.out _).mono ?_
      rintro e w2 ⟨rfl, hb2⟩
      have HX2 := Lib.hid (HX1.out.later (Nat.lt_trans (Nat.lt_succ_self _) HR1.out.lt) hb2)
      have HR2 := Lib.hid (HR1.out.belS hb2 HR1.out.lt)
      have HB2 := Lib.hid (HB1.out.trans (hb2.mono HB1.out.size))
      clear hb2 x0 x1 x2 x3 x4 x5 x6 x7
      obtain ⟨x0, x1, x2, x3, x4, x5, x6, x7⟩ := HX2.out
      go_wp2_with fail
      refine (HSp.out _ HB2.out).mono ?_
      rintro e w3 ⟨rfl, hb3⟩
      have HR3 := Lib.hid (HR2.out.belS hb3 HR2.out.lt)
      have HB3 := Lib.hid (HB2.out.trans (hb3.mono HB2.out.size))
      clear hb3 x0 x1 x2 x3 x4 x5 x6 x7
      obtain ⟨W4, hS, hR4, hC4⟩ := span_store w3 _ _ nx ny HR3.out rfl
      have HS := Lib.hid hS
      have HL := Lib.hid (span_load W4 _ nx ny hR4)
      have HB4 := Lib.hid (HB3.out.trans (hC4.below HB3.out.size (by simp)))
      clear hS hR4 hC4
      go_wp2_with (first | (guard_target =~ wpList _ _ _ (Oper.mk _ (Op.store 47 _ _) _ _ _ _ :: _) _ _; refine wpList_skp rfl (exec_store rfl rfl rfl HS.out) ?_))
      exact bodyPost_ret (v := .tuple #[.agg #[.int .i64 nx, .int .i64 ny], .bool true]) (results_cell_tmp Try.results22 _ _ rfl rfl HL.out) rfl ⟨rfl, HB4.out⟩
  · have hsp : spanOf t l = ((0, 0), false) := if_neg (fun hh => h0 hh.1)
    rw [hsp]
    have q1 : (rowE t l != 0) = true := by simpa using h0
    generalize rowE t l = q at *
    clear h hr hsp h0
    go_enter Try.func22, Try.ntmps22
    go_upto_region 1 with (fail)
    rw [← HW0.out]
    obtain ⟨x0, x1, x2, x3, x4, x5, x6, x7⟩ := HX0.out
    go_wp2_with fail
    refine (HC.out _ HB0.out).mono ?_
    rintro e w1 ⟨rfl, hb1⟩
    have HR1 := Lib.hid (HR0.out.belS hb1 HS0.out)
    have HB1 := Lib.hid (HB0.out.trans (hb1.mono HB0.out.size))
    clear hb1 x0 x1 x2 x3 x4 x5 x6 x7
    obtain ⟨W3, hS, hR3, hC3⟩ := span_store w1 _ _ 0 0 HR1.out rfl
    have HS := Lib.hid hS
    have HL := Lib.hid (span_load W3 _ 0 0 hR3)
    have HB3 := Lib.hid (HB1.out.trans (hC3.below HB1.out.size (by simp)))
    clear hS hR3 hC3
    go_wp2_with (first | (guard_target =~ wpList _ _ _ (Oper.mk _ (Op.store 47 _ _) _ _ _ _ :: _) _ _; refine wpList_skp rfl (exec_store rfl rfl rfl HS.out) ?_))
    exact bodyPost_ret (v := .tuple #[.agg #[.int .i64 0, .int .i64 0], .bool false]) (results_cell_tmp Try.results22 _ _ rfl rfl HL.out) rfl ⟨rfl, HB3.out⟩
end Go.Proofs.Ytialpfdhdcjpaaa

/- The law SchemaRows: its walk. (Made by wip/gen/genlawr15.py.) -/
set_option linter.unusedSimpArgs false
set_option linter.unusedVariables false
set_option maxRecDepth 100000
namespace Go.Proofs.Ytialpfdhdcjpaaa
open Go.RowKit

/-- What stays: the table's box, the table, the row. -/
structure RwW (w W : World) (t : Tb) (m : TM) (la : List Vl) (aa : Option Addr) (na ca : Nat) : Prop where
  tab : TBox W w.heap.size m t
  at_ : TAt W t m
  ra : RowAt W la aa na ca
  bel : Below w.heap.size w W
  lt : w.heap.size < W.heap.size
theorem RwW.later {w W W' : World} {t : Tb} {m : TM} {la : List Vl} {aa : Option Addr} {na ca : Nat} (h : RwW w W t m la aa na ca) (hb : Below W.heap.size W W') : RwW w W' t m la aa na ca :=
  ⟨h.tab.later h.lt hb, h.at_.later hb, h.ra.later hb, h.bel.trans (hb.mono h.bel.size), Nat.lt_of_lt_of_le h.lt hb.size⟩
/-- And the reference's table in its variable. -/
structure RwX (w W : World) (t : Tb) (m : TM) (la : List Vl) (aa : Option Addr) (na ca : Nat) (x : TM) (bx : Nat) : Prop extends RwW w W t m la aa na ca where
  xt : TBox W bx x t
  xa : TAt W t x
  xl : bx < W.heap.size
theorem RwX.go {w W W' : World} {t : Tb} {m : TM} {la : List Vl} {aa : Option Addr} {na ca : Nat} {x : TM} {bx : Nat} (h : RwX w W t m la aa na ca x bx) (hb : Below W.heap.size W W') : RwX w W' t m la aa na ca x bx :=
  ⟨h.toRwW.later hb, h.xt.later h.xl hb, h.xa.later hb, Nat.lt_of_lt_of_le h.xl hb.size⟩
theorem table_store (w : World) (b : Nat) (old : Array Value) (x : TM) (t : Tb) (h : Blk w b 30 old) (hsz : old.size = 8) :
    ∃ W, (storeVar 30 ⟨b, 0, none⟩ (.agg (x.cs t))).run Try.prog w = .ok () W ∧ Blk W b 30 (x.cs t) ∧ Chg [b] w W :=
  ⟨_, run_storeVar_row _ _ _ 30 _ _ h (by rw [infoRT]; rfl) (by rw [hsz]; rfl) (by simp [Value.oneCell']), Blk.setRow h, (Chg.refl _ _).setRow (.inl (by simp)) _⟩
theorem frontOf_err (t : Tb) (l : List Vl) : (frontOf t l).2 = rowE t l := by
  by_cases h : rowE t l = 0
  · rw [(keys_math h).2.1, h]
  · unfold frontOf; rw [if_neg h]

set_option maxHeartbeats 16000000 in
theorem schemaRows_walk (t : Tb) (m : TM) (aa : Option Addr) (na ca : Nat) (la : List Vl) (w : World) (h : TbIn w t m) (h1 : RowIn w aa na ca la) :
    Calls Try.prog 4 #[m.v t, .slice aa na ca] w fun e w' => e = .returned (.bool true) ∧ Below w.heap.size w w' := by
  have HAl := Lib.hid (fun W => alive15 W)
  have HB0 : Hid (Below w.heap.size w (w.alloc (.cells (m.cs t) 25))) := (Below.refl _ w).alloc (Nat.le_refl _) _
  have HX0 : Hid (TBox (w.alloc (.cells (m.cs t) 25)) w.heap.size m t) := TBox.new w m t _
  have hs0 : w.heap.size < (w.alloc (.cells (m.cs t) 25)).heap.size := by simp
  have HI := Lib.hid h
  have H1 := Lib.hid h1
  obtain ⟨w0, hw0⟩ : ∃ w0, (w.alloc (.cells (m.cs t) 25)) = w0 := ⟨_, rfl⟩
  rw [hw0] at HB0 HX0 hs0
  have HG := Lib.hid (fun W (hb : Below w.heap.size w W) => great15_any t m W (HI.out.later hb))
  have HG1 := Lib.hid (fun W (hb : Below w.heap.size w W) => (H1.out.later hb).great)
  have HW0 := Lib.hid hw0
  clear h h1 hw0
  cases hg : greatT t with
  | true =>
    rw [hg] at HG
    clear hg
    go_enter Try.func4, Try.ntmps4
    go_upto_region 1 with (fail)
    rw [HW0.out]
    obtain ⟨x0, x1, x2, x3, x4, x5, x6, x7⟩ := HX0.out
    go_wp2_with fail
    refine (HG.out _ HB0.out).mono ?_
    rintro e w1 ⟨rfl, hb1⟩
    have HB1 := Lib.hid (HB0.out.trans (hb1.mono HB0.out.size))
    have HX1 := Lib.hid (HX0.out.later hs0 hb1)
    have hs1 : w.heap.size < w1.heap.size := Nat.lt_of_lt_of_le hs0 hb1.size
    clear hb1 x0 x1 x2 x3 x4 x5 x6 x7
    go_wp2_with fail
    refine (HAl.out _).mono ?_
    rintro e w9 ⟨rfl, hb9⟩
    have HB9 := Lib.hid (HB1.out.trans (hb9.mono HB1.out.size))
    clear hb9
    go_wp2
    go_ret
    exact ⟨rfl, HB9.out⟩
  | false =>
    rw [hg] at HG
    have hTa := HI.out.at_ hg
    have HTa := Lib.hid hTa
    clear hg hTa
    go_enter Try.func4, Try.ntmps4
    go_upto_region 1 with (fail)
    rw [HW0.out]
    obtain ⟨x0, x1, x2, x3, x4, x5, x6, x7⟩ := HX0.out
    go_wp2_with fail
    refine (HG.out _ HB0.out).mono ?_
    rintro e w1 ⟨rfl, hb1⟩
    have HB1 := Lib.hid (HB0.out.trans (hb1.mono HB0.out.size))
    have HX1 := Lib.hid (HX0.out.later hs0 hb1)
    have hs1 : w.heap.size < w1.heap.size := Nat.lt_of_lt_of_le hs0 hb1.size
    clear hb1 x0 x1 x2 x3 x4 x5 x6 x7
    obtain ⟨x0, x1, x2, x3, x4, x5, x6, x7⟩ := HX1.out
    go_wp2_with fail
    refine (HG1.out _ HB1.out).mono ?_
    rintro e w1x ⟨g, rfl, hg, rfl⟩
    cases g with
    | true =>
      clear hg
      go_wp2_with fail
      refine (HAl.out _).mono ?_
      rintro e w9 ⟨rfl, hb9⟩
      have HB9 := Lib.hid (HB1.out.trans (hb9.mono HB1.out.size))
      clear hb9
      go_wp2
      go_ret
      exact ⟨rfl, HB9.out⟩
    | false =>
      have S1 := hg rfl
      clear hg
      have L1 : na ≤ 40 := by have := H1.out.1; have := S1.1; omega
      have HK1 : Hid (RwW w w1 t m la aa na ca) := ⟨HX1.out, HTa.out.later HB1.out, (H1.out.at_ L1).later HB1.out, HB1.out, hs1⟩
      have HAs := Lib.hid (fun W (k : RwW w W t m la aa na ca) => as15_any t m W k.at_)
      have HKa := Lib.hid (fun W (k : RwW w W t m la aa na ca) => sKeyOf_any t m la aa na ca W k.at_ k.ra)
      have HFa := Lib.hid (fun W (k : RwW w W t m la aa na ca) => sFrontOf_any t m la aa na ca W k.at_ k.ra)
      have HCa := Lib.hid (fun W (k : RwW w W t m la aa na ca) => sCheck_any t m la aa na ca W k.at_ k.ra)
      have HSa := Lib.hid (fun W (k : RwW w W t m la aa na ca) => sSpanOf_any t m la aa na ca W k.at_ k.ra)
      have HRk := Lib.hid (fun fr x W (k1 : TAt W t x) (k2 : RwW w W t m la aa na ca) => rKeyOf_any t x la aa na ca fr W k1 k2.ra)
      have ek : keyR t la false = ((keyOf t la).1, rowE t la) := by rw [← keyOf_err t la]; rfl
      have ef : keyR t la true = ((frontOf t la).1, rowE t la) := by rw [← frontOf_err t la]; rfl
      have HRkF := Lib.hid (HRk.out false)
      have HRkT := Lib.hid (HRk.out true)
      rw [show keyOf t la = ((keyOf t la).1, rowE t la) from by rw [← keyOf_err t la]] at HKa
      rw [show frontOf t la = ((frontOf t la).1, rowE t la) from by rw [← frontOf_err t la]] at HFa
      rw [ek] at HRkF
      rw [ef] at HRkT
      have HEdge : Hid (rowE t la = 0 → t.per.size ≠ 0 → ∃ i j : Nat, t.fr = i ∧ t.tt = j ∧ i < la.length ∧ j < la.length) := fun h0 hp => by
        obtain ⟨hOk, hll, -⟩ := rowE_ok h0
        obtain ⟨i, j, e1, e2, e3, e4⟩ := hOk.edges hp
        exact ⟨i, j, e1, e2, by omega, by omega⟩
      have HSp : Hid ((¬ (rowE t la = 0 ∧ t.per.size ≠ 0) → spanOf t la = ((0, 0), false)) ∧ (rowE t la = 0 → t.per.size ≠ 0 → spanOf t la = (((la.getD t.fr.toNat zeroVl).n, (la.getD t.tt.toNat zeroVl).n), true))) := ⟨fun h => if_neg h, fun h1 h2 => if_pos ⟨h1, h2⟩⟩
      generalize (keyOf t la).1 = KL at *
      generalize (frontOf t la).1 = FL at *
      generalize spanOf t la = SPN at *
      generalize rowE t la = E at *
      obtain ⟨⟨sf, stt⟩, some_⟩ := SPN
      dsimp only at HSa
      have HNA : Hid (na = la.length) := H1.out.1
      clear HB0 HX0 HB1 HX1 hs0 hs1 HG HG1 HW0 S1 HI HTa H1 HRk ek ef
      obtain ⟨x0, x1, x2, x3, x4, x5, x6, x7⟩ := HK1.out.tab
      go_wp2_with fail
      refine (HAs.out _ HK1.out).mono ?_
      rintro e w2 ⟨x, rfl, hx, -, hb⟩
      have HK2 := Lib.hid (HK1.out.later hb)
      obtain ⟨w3, hS, hR3, hC3⟩ := table_store (w2.alloc (.cells zeroTc 30)) w2.heap.size zeroTc x t (Blk.new _ _ _) rfl
      have HS := Lib.hid hS
      have hb3 : Below w2.heap.size w2 w3 := ((Below.refl _ _).alloc (Nat.le_refl _) _).trans (hC3.below (by simp) (by simp))
      have HK3 : Hid (RwX w w3 t m la aa na ca x w2.heap.size) := ⟨HK2.out.later hb3, TBox.of_blk hR3, hx.later hb3, hR3.lt⟩
      clear hb hx hS hR3 hC3 hb3 HK1 x0 x1 x2 x3 x4 x5 x6 x7 HAs
      obtain ⟨x0, x1, x2, x3, x4, x5, x6, x7⟩ := HK3.out.tab
      go_wp2_with (first | (guard_target =~ wpList _ _ _ (Oper.mk _ (Op.store 30 _ _) _ _ _ _ :: _) _ _; refine wpList_skp rfl (exec_store rfl rfl rfl HS.out) ?_))
      clear HS HK2 x0 x1 x2 x3 x4 x5 x6 x7
      generalize w2.heap.size = bx at *
      obtain ⟨x0, x1, x2, x3, x4, x5, x6, x7⟩ := HK3.out.tab
      obtain ⟨y0, y1, y2, y3, y4, y5, y6, y7⟩ := HK3.out.xt
      skip
      refine (HKa.out _ HK3.out.toRwW).mono ?_
      rintro e w4 ⟨a4, c4, rfl, hc, hB, hb⟩
      dsimp only at hc hB ⊢
      obtain ⟨n4, hn⟩ : ∃ n, n = KL.length := ⟨_, rfl⟩
      rw [← hn]
      have Hn4 := Lib.hid hn
      have HBn4 := Lib.hid hB
      have HK4 := Lib.hid (HK3.out.go hb)
      clear hb hB hc hn HK3 x0 x1 x2 x3 x4 x5 x6 x7 y0 y1 y2 y3 y4 y5 y6 y7 
      obtain ⟨x0, x1, x2, x3, x4, x5, x6, x7⟩ := HK4.out.tab
      obtain ⟨y0, y1, y2, y3, y4, y5, y6, y7⟩ := HK4.out.xt
      go_wp2_with fail
      refine (HRkF.out x _ HK4.out.xa HK4.out.toRwW).mono ?_
      rintro e w5 ⟨a5, c5, rfl, hc, hB, hb⟩
      dsimp only at hc hB ⊢
      obtain ⟨n5, hn⟩ : ∃ n, n = KL.length := ⟨_, rfl⟩
      rw [← hn]
      have Hn5 := Lib.hid hn
      have HBn5 := Lib.hid hB
      have HK5 := Lib.hid (HK4.out.go hb)
      have HBn4n := Lib.hid ((HBn4.out.below hb).mono hb.size)
      clear hb hB hc hn HK4 x0 x1 x2 x3 x4 x5 x6 x7 y0 y1 y2 y3 y4 y5 y6 y7 HBn4
      have HBn4 := HBn4n
      clear HBn4n
      obtain ⟨x0, x1, x2, x3, x4, x5, x6, x7⟩ := HK5.out.tab
      obtain ⟨y0, y1, y2, y3, y4, y5, y6, y7⟩ := HK5.out.xt
      go_wp2_with fail
      refine (HFa.out _ HK5.out.toRwW).mono ?_
      rintro e w6 ⟨a6, c6, rfl, hc, hB, hb⟩
      dsimp only at hc hB ⊢
      obtain ⟨n6, hn⟩ : ∃ n, n = FL.length := ⟨_, rfl⟩
      rw [← hn]
      have Hn6 := Lib.hid hn
      have HBn6 := Lib.hid hB
      have HK6 := Lib.hid (HK5.out.go hb)
      have HBn4n := Lib.hid ((HBn4.out.below hb).mono hb.size)
      have HBn5n := Lib.hid ((HBn5.out.below hb).mono hb.size)
      clear hb hB hc hn HK5 x0 x1 x2 x3 x4 x5 x6 x7 y0 y1 y2 y3 y4 y5 y6 y7 HBn4 HBn5
      have HBn4 := HBn4n
      clear HBn4n
      have HBn5 := HBn5n
      clear HBn5n
      obtain ⟨x0, x1, x2, x3, x4, x5, x6, x7⟩ := HK6.out.tab
      obtain ⟨y0, y1, y2, y3, y4, y5, y6, y7⟩ := HK6.out.xt
      go_wp2_with fail
      refine (HRkT.out x _ HK6.out.xa HK6.out.toRwW).mono ?_
      rintro e w7 ⟨a7, c7, rfl, hc, hB, hb⟩
      dsimp only at hc hB ⊢
      obtain ⟨n7, hn⟩ : ∃ n, n = FL.length := ⟨_, rfl⟩
      rw [← hn]
      have Hn7 := Lib.hid hn
      have HBn7 := Lib.hid hB
      have HK7 := Lib.hid (HK6.out.go hb)
      have HBn4n := Lib.hid ((HBn4.out.below hb).mono hb.size)
      have HBn5n := Lib.hid ((HBn5.out.below hb).mono hb.size)
      have HBn6n := Lib.hid ((HBn6.out.below hb).mono hb.size)
      clear hb hB hc hn HK6 x0 x1 x2 x3 x4 x5 x6 x7 y0 y1 y2 y3 y4 y5 y6 y7 HBn4 HBn5 HBn6
      have HBn4 := HBn4n
      clear HBn4n
      have HBn5 := HBn5n
      clear HBn5n
      have HBn6 := HBn6n
      clear HBn6n
      clear HKa HFa HRkF HRkT
      obtain ⟨x0, x1, x2, x3, x4, x5, x6, x7⟩ := HK7.out.tab
      go_wp2_with fail
      refine (HSa.out _ HK7.out.toRwW).mono ?_
      rintro e w8 ⟨rfl, hb⟩
      obtain ⟨w9, hS, hR9, hC9⟩ := span_store (w8.alloc (.cells #[.int .i64 0, .int .i64 0] 47)) w8.heap.size _ sf stt (Blk.new _ _ _) rfl
      have HS := Lib.hid hS
      have hb9 : Below w7.heap.size w7 w9 := hb.trans (((Below.refl _ _).alloc (Nat.le_refl _) _).trans (hC9.below (by simp) (by simp)) |>.mono hb.size)
      have HK9 := Lib.hid (HK7.out.go hb9)
      have HR9 := Lib.hid hR9
      have HBn4n := Lib.hid ((HBn4.out.below hb9).mono hb9.size)
      have HBn5n := Lib.hid ((HBn5.out.below hb9).mono hb9.size)
      have HBn6n := Lib.hid ((HBn6.out.below hb9).mono hb9.size)
      have HBn7n := Lib.hid ((HBn7.out.below hb9).mono hb9.size)
      clear hb hS hR9 hC9 hb9 HK7 x0 x1 x2 x3 x4 x5 x6 x7 HBn4 HBn5 HBn6 HBn7 HSa
      have s4 := HBn4n.out.str n4 c4 Hn4.out
      have s5 := HBn5n.out.str n5 c5 Hn5.out
      have s6 := HBn6n.out.str n6 c6 Hn6.out
      have s7 := HBn7n.out.str n7 c7 Hn7.out
      obtain ⟨x0, x1, x2, x3, x4, x5, x6, x7⟩ := HK9.out.tab
      go_wp2_with (first | (guard_target =~ wpList _ _ _ (Oper.mk _ (Op.store 47 _ _) _ _ _ _ :: _) _ _; refine wpList_skp rfl (exec_store rfl rfl rfl HS.out) ?_))
      clear HS
      generalize w8.heap.size = bs at *
      refine (HCa.out _ HK9.out.toRwW).mono ?_
      rintro e w10 ⟨rfl, hb⟩
      have HK := Lib.hid (HK9.out.toRwW.later hb)
      have HR := Lib.hid (HR9.out.belS hb HR9.out.lt)
      clear hb HK9 HR9 x0 x1 x2 x3 x4 x5 x6 x7 s4 s5 s6 s7 HBn4n HBn5n HBn6n HBn7n Hn4 Hn5 Hn6 Hn7 HCa
      by_cases h0 : E = 0
      · subst h0
        by_cases hp : t.per.size = 0
        · have hpe : t.per = ⟨#[]⟩ := size0 hp
          have qp2 : t.per.toList = [] := by rw [hpe]; decide +kernel
          have hsp := HSp.out.1 (fun hh => hh.2 hp)
          injection hsp with hsp1 hsp2
          injection hsp1 with hsp3 hsp4
          subst hsp2 hsp3 hsp4
          clear hp hpe HSp HEdge
          obtain ⟨x0, x1, x2, x3, x4, x5, x6, x7⟩ := HK.out.tab
          have r0 := HR.out.cell 0
          have r1 := HR.out.cell 1
          go_wp2_with fail
          refine (HAl.out _).mono ?_
          rintro e w11 ⟨rfl, hb⟩
          have HBe := Lib.hid (HK.out.bel.trans (hb.mono HK.out.bel.size))
          have HRe := Lib.hid (HR.out.belS hb HR.out.lt)
          clear hb r0 r1 x0 x1 x2 x3 x4 x5 x6 x7
          have r0 := (HRe.out.cell 0).trans rfl
          have r1 := (HRe.out.cell 1).trans rfl
          go_wp2
          go_ret
          exact ⟨rfl, HBe.out⟩
        · have hne : ¬ t.per.toList = [] := by
            intro h
            have : t.per = ⟨#[]⟩ := toList_inj (by rw [h]; decide +kernel)
            rw [this] at hp; exact hp rfl
          have qp : t.per.toList.isEmpty = false := by simpa using hne
          have qp1 : (t.per.toList == []) = false := by rw [beq_eq_false_iff_ne]; exact hne
          obtain ⟨pi, pj, hpi, hpj, hil, hjl⟩ := HEdge.out rfl hp
          have hsp := HSp.out.2 rfl hp
          rw [hpi, hpj, Int.toNat_natCast, Int.toNat_natCast] at hsp
          injection hsp with hsp1 hsp2
          injection hsp1 with hsp3 hsp4
          have hil3 : pi < na := by have := HNA.out; omega
          have hjl3 : pj < na := by have := HNA.out; omega
          obtain ⟨ra, ro, hra, raN, -⟩ := HK.out.ra.vs.at_ hil
          subst hra
          obtain ⟨-, p1, -⟩ := HK.out.ra.vs.here hil
          obtain ⟨-, q1, -⟩ := HK.out.ra.vs.here hjl
          have gi : la.getD pi zeroVl = la[pi] := by simp [List.getD_eq_getElem?_getD, List.getElem?_eq_getElem hil]
          have gj : la.getD pj zeroVl = la[pj] := by simp [List.getD_eq_getElem?_getD, List.getElem?_eq_getElem hjl]
          rw [gi] at hsp3
          rw [gj] at hsp4
          rw [← hsp3] at p1
          rw [← hsp4] at q1
          subst hsp2
          have x4' := HK.out.tab.c4
          have x5' := HK.out.tab.c5
          rw [hpi] at x4'
          rw [hpj] at x5'
          have P1 := Lib.hid p1
          have Q1 := Lib.hid q1
          have X4 := Lib.hid x4'
          have X5 := Lib.hid x5'
          clear gi gj hsp3 hsp4 HSp HEdge hp hpi hpj p1 q1 x4' x5' hne hil hjl
          obtain ⟨x0, x1, x2, x3, x4, x5, x6, x7⟩ := HK.out.tab
          go_wp2_with fail
          clear x0 x1 x2 x3 x4 x5 x6 x7
          refine wp_region_ord [(0, false), (1, true), (2, true), (3, true), (4, true), (5, true), (6, true), (7, true), (8, true), (9, true), (10, true), (11, true), (12, true), (13, true), (14, true), (15, true), (16, true), (17, true), (18, true), (19, true), (20, true), (21, true), (22, true), (23, true), (24, true), (25, true), (26, true)] (by kernel_rfl) (by kernel_rfl) (by kernel_rfl) (by kernel_rfl) ?_
          refine wpO_C rfl (by rfl) ?_
          go_simp
          refine (HAl.out _).mono ?_
          rintro e u1 ⟨rfl, hb⟩
          refine ⟨hb, ?_⟩
          try simp only [Act.put, List.setIfInBounds_toArray, List.set_cons_zero, List.set_cons_succ]
          have hbu : Below w10.heap.size w10 u1 := Later.undrew hb
          have HF : Hid (∀ W, Later u1 W → Below w10.heap.size w10 W) := fun W hW => hbu.trans (Below.mono hW hbu.size)
          have f0 : ∀ W, Later u1 W → W.cell? ⟨bs, 0, none⟩ = some (.int .i64 sf) := fun W hW => ((HF.out W hW).cell (p := ⟨bs, 0, none⟩) HR.out.lt).trans ((HR.out.cell 0).trans rfl)
          have f1 : ∀ W, Later u1 W → W.cell? ⟨bs, 1, none⟩ = some (.int .i64 stt) := fun W hW => ((HF.out W hW).cell (p := ⟨bs, 1, none⟩) HR.out.lt).trans ((HR.out.cell 1).trans rfl)
          have f4 : ∀ W, Later u1 W → W.cell? ⟨w.heap.size, 4, none⟩ = some (.int .i64 (pi : Int)) := fun W hW => ((HF.out W hW).cell (p := ⟨w.heap.size, 4, none⟩) HK.out.lt).trans X4.out
          have f5 : ∀ W, Later u1 W → W.cell? ⟨w.heap.size, 5, none⟩ = some (.int .i64 (pj : Int)) := fun W hW => ((HF.out W hW).cell (p := ⟨w.heap.size, 5, none⟩) HK.out.lt).trans X5.out
          have f6 : ∀ W, Later u1 W → W.cell? ⟨ra, ro + pi * 3 + 1, none⟩ = some (.int .i64 sf) := fun W hW => ((HF.out W hW).cell (p := ⟨ra, ro + pi * 3 + 1, none⟩) raN).trans P1.out
          have f7 : ∀ W, Later u1 W → W.cell? ⟨ra, ro + pj * 3 + 1, none⟩ = some (.int .i64 stt) := fun W hW => ((HF.out W hW).cell (p := ⟨ra, ro + pj * 3 + 1, none⟩) raN).trans Q1.out
          have HBe := Lib.hid (HK.out.bel.trans (hbu.mono HK.out.bel.size))
          clear hb hbu
          repeat (first | (refine wpO_F (v := ?_) rfl (by rfl) (fun w' hL => ?_) ?_; rotate_left; (solve | (go_simp; with_reducible rfl) | go_simp); try simp only [Act.put, List.setIfInBounds_toArray, List.set_cons_zero, List.set_cons_succ]) | (refine wpO_G rfl (by rfl) ?_; try simp only [Act.put, List.setIfInBounds_toArray, List.set_cons_zero, List.set_cons_succ]))
          refine wpO_nil ?_
          go_wp2
          go_ret
          exact ⟨by first | rfl | simp, HBe.out⟩
      · have q1 : (E != 0) = true := by simpa using h0
        have hsp := HSp.out.1 (fun hh => h0 hh.1)
        injection hsp with hsp1 hsp2
        injection hsp1 with hsp3 hsp4
        subst hsp2 hsp3 hsp4
        clear h0 HSp HEdge
        obtain ⟨x0, x1, x2, x3, x4, x5, x6, x7⟩ := HK.out.tab
        have r0 := HR.out.cell 0
        have r1 := HR.out.cell 1
        go_wp2_with fail
        refine (HAl.out _).mono ?_
        rintro e w11 ⟨rfl, hb⟩
        have HBe := Lib.hid (HK.out.bel.trans (hb.mono HK.out.bel.size))
        have HRe := Lib.hid (HR.out.belS hb HR.out.lt)
        clear hb r0 r1 x0 x1 x2 x3 x4 x5 x6 x7
        have r0 := (HRe.out.cell 0).trans rfl
        have r1 := (HRe.out.cell 1).trans rfl
        go_wp2
        go_ret
        exact ⟨rfl, HBe.out⟩
end Go.Proofs.Ytialpfdhdcjpaaa
