/- The walk of the reference's Edges. -/
import Derived.Test.YtockmoiekbhneaaPRef
import Derived.Deep.Cut
namespace Go.Proofs.Ytockmoiekbhneaa
open Go.RowKit

def encN1 (n : Int) : List Value := [.int .i64 n]
abbrev cellsN (l : List Int) : List Value := cellsOf encN1 l
theorem cellsN_len (l : List Int) : (cellsN l).length = l.length * 1 := cellsOf_len encN1 1 (fun _ => rfl) l
theorem one_N (l : List Int) : ∀ u ∈ cellsN l, u.oneCell' = true := by
  intro u hu
  obtain ⟨s, _, hs⟩ := List.mem_flatMap.1 hu
  simp only [encN1, List.mem_cons, List.not_mem_nil, or_false] at hs
  subst hs; rfl
theorem cellsN_app (l m : List Int) : cellsN (l ++ m) = cellsN l ++ cellsN m := by simp [cellsOf]
theorem numAt {N : Nat} {w : World} {a : Option Addr} {l : List Int} (h : Arr N w a (cellsN l)) {k : Nat} (hk : k < l.length) : ∃ b o, a = some ⟨b, o, none⟩ ∧ b < N ∧ w.cell? ⟨b, o + k, none⟩ = some (.int .i64 l[k]) := by
  obtain ⟨b, o, ha, hb, hc⟩ := h.at_ (by intro h0; have := cellsN_len l; rw [h0] at this; simp at this; omega)
  have g := fun (j : Nat) (v : Value) (hv : (encN1 l[k])[j]? = some v) => hc _ _ (cellsOf_get encN1 1 (fun _ => rfl) l k j l[k] v (List.getElem?_eq_getElem hk) hv)
  exact ⟨b, o, ha, hb, by simpa using g 0 _ rfl⟩
theorem Arr.take {N : Nat} {w : World} {a : Option Addr} {l : List Value} (h : Arr N w a l) (k : Nat) : Arr N w a (l.take k) := by
  rcases h with h | ⟨b, o, ha, hN, hc⟩
  · exact .inl (by simp [h])
  · refine .inr ⟨b, o, ha, hN, fun i v hi => hc i v ?_⟩
    rw [List.getElem?_take] at hi
    split at hi
    · exact hi
    · cases hi
theorem Arr.from_ {P : Program} {N : Nat} {w : World} {a : Option Addr} {l : List Value} (h : Arr N w a l) (t e : TypeId) (z : Nat) (ht : P.underlying t = some (.slice e)) (hz : ∀ w, (Go.sizeOf e).run P w = .ok z w)
    (len cap k : Nat) (hlen : l.length = len * z) (hk : k ≤ len) (hcap : len ≤ cap) (hz0 : 0 < z) :
    ∃ a', Arr N w a' (l.drop (k * z)) ∧ ∀ W, (Instr.slice t (.slice a len cap) (some (.int .i64 (k : Int))) none none).run P W = .ok (.slice a' (len - k) (cap - k)) W := by
  have ht' : P.underlying t = some (.slice (P.elem t)) := by simp [Program.elem, ht]
  have hee : P.elem t = e := by simp [Program.elem, ht]
  refine ⟨if cap = k then a else a.map (·.add (k * z)), ?_, fun W => ?_⟩
  · rcases h with h2 | ⟨b, o, ha, hN, hc⟩
    · exact .inl (by simp [h2])
    · by_cases hkl : k = len
      · exact .inl (List.drop_of_length_le (by rw [hlen, hkl]; exact Nat.le_refl _))
      · right
        refine ⟨b, o + k * z, ?_, hN, fun i c hi => ?_⟩
        · rw [if_neg (by omega), ha]
          by_cases h0 : k = 0
          · subst h0; simp [Addr.add]
          · have : ¬ k * z = 0 := by have := Nat.mul_pos (show 0 < k by omega) hz0; omega
            simp [Addr.add]
            exact this
        · rw [List.getElem?_drop] at hi
          rw [Nat.add_assoc]; exact hc _ _ hi
  · have := run_slice_l (P := P) W t a len cap ht' .i64 (k : Int) (by omega) (by omega)
    rw [this, hee, hz W]
    simp [Result.andThen, sliced]
theorem arr_newN (w : World) (T : TypeId) (f : Int) : Arr (w.heap.size + 1) (w.alloc (.cells #[.int .i64 f] T)) (some ⟨w.heap.size, 0, none⟩) (cellsN [f]) :=
  .inr ⟨w.heap.size, 0, rfl, by omega, fun i v hi => by
    rw [World.cell?_alloc_new, Nat.zero_add]
    match i, hi with
    | 0, hi => exact hi⟩
theorem info_i64 : (Try.prog.info? 2).map (fun i => (i.zero, i.size, i.bytes)) = some (some (.int .i64 0), 1, 8) := by kernel_rfl

/-- Integers in memory of the call's own. -/
def RetInts (l : List Int) (w : World) (e : Ending) (w' : World) : Prop := ∃ v, e = .returned v ∧ w'.ownsRow w.heap.size 2 1 v l.length (cellsN l) ∧ Below w.heap.size w w'

theorem nthE_even {l : List (Int × Int)} {k : Nat} (h : k / 2 < l.length) (hm : k % 2 = 0) : nthE l k = l[k / 2].1 := by
  unfold nthE; rw [List.getElem?_eq_getElem h]; simp only; rw [if_neg (by omega)]
theorem nthE_odd {l : List (Int × Int)} {k : Nat} (h : k / 2 < l.length) (hm : k % 2 = 1) : nthE l k = l[k / 2].2 := by
  unfold nthE; rw [List.getElem?_eq_getElem h]; simp only; rw [if_pos hm]

set_option maxRecDepth 100000 in
set_option maxHeartbeats 4000000 in
theorem edges_any (N : Nat) (l : List (Int × Int)) (a : Option Addr) (n cap : Nat) (w : World) (h : Arr N w a (cellsT l)) (hN : N ≤ w.heap.size) (hn : n = l.length) (hmax : n ≤ 1000000) :
    Calls Try.prog 25 #[.slice a n cap] w (RetInts (edges l) w) := by
  obtain ⟨iI, hiI, hzI, hsI, hbI⟩ := info_parts info_i64
  have HH := Lib.hid h
  have HN := Lib.hid hn
  have HE := Lib.hid (edgesTo_len l)
  clear h hn
  go_enter Try.func25, Try.ntmps25
  go_wp2
  go_loopw [3, 4] (fun v i wr => ∃ (k m : Nat) (a2 : Option Addr) (c2 : Nat), v = .slice a2 m c2 ∧ i = .int .i64 k ∧ k ≤ 2 * n ∧ m ≤ k ∧ m ≤ c2 ∧ Hid (m = (edgesTo l k).length) ∧ Hid (wr.ownsRow w.heap.size 2 1 (.slice a2 m c2) m (cellsN (edgesTo l k))) ∧ Hid (Below w.heap.size w wr)) (fun _ i _ => 2 * n - (intOf i).toNat)
  case atStart => exact ⟨0, 0, none, 0, rfl, rfl, by omega, by omega, by omega, rfl, World.ownsRow_nil _ _ _ _, Below.refl _ _⟩
  case round =>
    obtain ⟨k, m, a2, c2, rfl, rfl, hk, hmk, hmc, HM, HO, HB⟩ := hrel
    by_cases hlt : k < 2 * n
    · obtain ⟨j, hj⟩ : ∃ j, j = k / 2 := ⟨_, rfl⟩
      have hkl : j < l.length := by have := HN.out; omega
      have hkn : j < n := by omega
      obtain ⟨b, o, rfl, hb1, c0, c1⟩ := spanAt HH.out hkl
      have hbw := HB.out.size
      have c0 := (HB.out.cell (p := ⟨b, o + j * 2, none⟩) (by show b < _; omega)).trans c0
      have c1 := (HB.out.cell (p := ⟨b, o + j * 2 + 1, none⟩) (by show b < _; omega)).trans c1
      have hv : ∃ v, Hid (nthE l k = v) ∧ ((k % 2 = 0 ∧ l[j].1 = v) ∨ (k % 2 = 1 ∧ l[j].2 = v)) := by
        subst hj
        by_cases hm : k % 2 = 0
        · exact ⟨_, nthE_even hkl hm, .inl ⟨hm, rfl⟩⟩
        · exact ⟨_, nthE_odd hkl (by omega), .inr ⟨by omega, rfl⟩⟩
      obtain ⟨v, HV, hv⟩ := hv
      have hdiv : (k : Int) / 2 = (j : Int) := by omega
      obtain ⟨⟨f, t⟩, hft⟩ : ∃ x, x = l[j] := ⟨_, rfl⟩
      rw [← hft] at c0 c1 hv
      clear hft hj
      simp only at c0 c1 hv
      have hE1 : Hid (edgesTo l (k + 1) = insE v (edgesTo l k)) := by show _ = _; rw [← HV.out]; rfl
      obtain ⟨P, hP⟩ : ∃ P, P = posE v (edgesTo l k) := ⟨_, rfl⟩
      have HP := Lib.hid hP
      have hPm : P ≤ m := by rw [hP, HM.out]; exact posE_le _ _
      obtain ⟨_, _, he2, _, _, harr⟩ := own_slice HO.out
      simp only [Value.slice.injEq, true_and] at he2
      obtain ⟨rfl, rfl⟩ := he2
      have HArr := Lib.hid harr
      have HIn : ∀ p, p < P → Hid (∃ b2 o2 x, a2 = some ⟨b2, o2, none⟩ ∧ wr.cell? ⟨b2, o2 + p, none⟩ = some (.int .i64 x) ∧ x < v) := by
        intro p hp
        have hpl : p < (edgesTo l k).length := by have := HM.out; omega
        obtain ⟨b2, o2, h1, _, h2⟩ := numAt HArr.out hpl
        exact ⟨b2, o2, _, h1, h2, posE_lt (by rw [← HP.out]; exact hp) (List.getElem?_eq_getElem hpl)⟩
      have HAt : P < m → Hid (∃ b2 o2 x, a2 = some ⟨b2, o2, none⟩ ∧ wr.cell? ⟨b2, o2 + P, none⟩ = some (.int .i64 x) ∧ v ≤ x ∧ (x = v → insE v (edgesTo l k) = edgesTo l k) ∧ (x ≠ v → insE v (edgesTo l k) = (edgesTo l k).take P ++ [v] ++ (edgesTo l k).drop P)) := by
        intro hp
        have hpl : P < (edgesTo l k).length := by have := HM.out; omega
        obtain ⟨b2, o2, h1, _, h2⟩ := numAt HArr.out hpl
        have hg := List.getElem?_eq_getElem hpl
        refine ⟨b2, o2, _, h1, h2, Int.not_lt.1 (posE_at (by rw [← HP.out]; exact hg)), fun hx => ?_, fun hx => ?_⟩
        · unfold insE; rw [← HP.out, hg, hx, if_pos rfl]
        · unfold insE; rw [← HP.out, hg, if_neg (by intro h; exact hx (Option.some.inj h))]
      have HEnd : P = m → Hid (insE v (edgesTo l k) = (edgesTo l k).take P ++ [v] ++ (edgesTo l k).drop P) := by
        intro hp
        show _ = _
        unfold insE; rw [← HP.out, List.getElem?_eq_none (by have := HM.out; omega), if_neg (by simp)]
      have HInL := Lib.hid HIn
      have HAtL := Lib.hid HAt
      have HEndL := Lib.hid HEnd
      clear hP harr HIn HAt HEnd
      have hlt2 : decide ((k : Int) < 2 * (n : Int)) = true := by simp; omega
      rcases hv with ⟨hm2, hv⟩ | ⟨hm2, hv⟩
      · have q1 : ((k : Int) % 2 == 1) = false := by simp; omega
        rw [hv] at c0
        clear hv hm2
        go_wp2_with fail
        go_loop [6] (fun x => ∃ p : Nat, p ≤ P ∧ x = .int .i64 p) (fun x => P - (intOf x).toNat)
        case atStart => exact ⟨0, by omega, rfl⟩
        case round =>
          obtain ⟨p, hp, rfl⟩ := hrel
          by_cases hpP : p < P
          · obtain ⟨b2, o2, x, rfl, hc, hx⟩ := (HInL.out p hpP).out
            have hpm : p < m := by omega
            go_wp2
            go_round
            case rel => exact ⟨p + 1, by omega, by go_num⟩
            case measure => first | (simp [intOf]; done) | (simp [intOf]; omega)
          · obtain rfl : p = P := by omega
            clear hpP
            have hways : (p = m ∧ Hid (edgesTo l (k + 1) = (edgesTo l k).take p ++ [v] ++ (edgesTo l k).drop p)) ∨ (p < m ∧ Hid (∃ b2 o2 x, a2 = some ⟨b2, o2, none⟩ ∧ wr.cell? ⟨b2, o2 + p, none⟩ = some (.int .i64 x) ∧ v ≤ x ∧ ((x == v) = true ∧ edgesTo l (k + 1) = edgesTo l k ∨ (x == v) = false ∧ edgesTo l (k + 1) = (edgesTo l k).take p ++ [v] ++ (edgesTo l k).drop p))) := by
              by_cases hpm : p = m
              · exact .inl ⟨hpm, by show _ = _; rw [hE1.out]; exact (HEndL.out hpm).out⟩
              · obtain ⟨b2, o2, x, h1, h2, h3, h4, h5⟩ := (HAtL.out (by omega)).out
                refine .inr ⟨by omega, b2, o2, x, h1, h2, h3, ?_⟩
                by_cases hx : x = v
                · exact .inl ⟨by simp [hx], by rw [hE1.out]; exact h4 hx⟩
                · exact .inr ⟨by simp [hx], by rw [hE1.out]; exact h5 hx⟩
            rcases hways with ⟨hpm, HR⟩ | ⟨hpm, hR⟩
            · have hq : decide ((p : Int) < (m : Int)) = false := by simp; omega
              have hq2 : decide (p < m) = false := by simp; omega
              clear hpm
              have HA1 : Hid (Arr wr.heap.size wr a2 (cellsN ((edgesTo l k).take p))) := by
                show Arr _ _ _ (cellsOf encN1 _)
                rw [cellsOf_take encN1 1 (fun _ => rfl)]; exact HArr.out.take _
              have HL1 : Hid ((cellsN ((edgesTo l k).take p)).length = p * 1) := by
                show _ = _
                rw [cellsN_len, List.length_take, ← HM.out]; congr 1; omega
              have hfr := HArr.out.from_ (P := Try.prog) 49 2 1 Try.underlying49 Try.sizeOf2 m c2 p (by rw [cellsN_len, ← HM.out]) hPm hmc (by omega)
              obtain ⟨a3, hA3, hsl⟩ := hfr
              have HA3 : Hid (Arr wr.heap.size wr a3 (cellsN ((edgesTo l k).drop p))) := by
                show Arr _ _ _ (cellsOf encN1 _)
                rw [cellsOf_drop encN1 1 (fun _ => rfl)]; exact hA3
              have HL3 : Hid ((cellsN ((edgesTo l k).drop p)).length = (m - p) * 1) := by
                show _ = _
                rw [cellsN_len, List.length_drop, ← HM.out]
              have HLen : Hid (0 + p + 1 + (m - p) = (edgesTo l (k + 1)).length) := by
                show _ = _
                rw [HR.out, List.length_append, List.length_append, List.length_take, List.length_drop, ← HM.out]; simp; omega
              have HCells : Hid (cellsN (edgesTo l (k + 1)) = [] ++ cellsN ((edgesTo l k).take p) ++ cellsN [v] ++ cellsN ((edgesTo l k).drop p)) := by
                show _ = _
                rw [HR.out, cellsN_app, cellsN_app]; rfl
              clear hA3
              go_wp2_with (first
                | (refine wpList_appS rfl (.tmp 56) (.tmp 59) 49 rfl wr.heap.size 2 iI (.int .i64 0) 1 8 Try.underlying49 hiI hzI rfl hsI (by omega) hbI (by omega) (.slice none 0 0) 0 [] wr (World.ownsRow_nil _ _ _ _) rfl _ a2 p c2 _ HA1.out HL1.out (one_N _) rfl (by omega) (Nat.le_refl _) ?_; intro v1 x1 h1 _ hb1; have H1 := Lib.hid h1; have HB1 := Lib.hid hb1; have hs1 := hb1.size; clear h1 hb1)
                | (refine wpList_appS rfl (.tmp 61) (.tmp 63) 49 rfl wr.heap.size 2 iI (.int .i64 0) 1 8 Try.underlying49 hiI hzI rfl hsI (by omega) hbI (by omega) v1 (0 + p) _ (x1.alloc (.cells #[.int .i64 v] 2)) (World.ownsRow.alloc H1.out _) rfl _ (some ⟨x1.heap.size, 0, none⟩) 1 1 (cellsN [v]) (arr_newN x1 _ v) rfl (one_N _) rfl (by omega) (by simp; omega) ?_; intro v2 x2 h2 _ hb2; have H2 := Lib.hid h2; have HB2 := Lib.hid (HB1.out.trans (((Below.refl _ x1).alloc hs1 _).trans hb2)); have hs2 := HB2.out.size; have HA3' := Lib.hid (HA3.out.below HB2.out); clear h2 hb2)
                | (refine wpList_appS rfl (.tmp 65) (.tmp 68) 49 rfl wr.heap.size 2 iI (.int .i64 0) 1 8 Try.underlying49 hiI hzI rfl hsI (by omega) hbI (by omega) v2 (0 + p + 1) _ x2 H2.out rfl _ a3 (m - p) (c2 - p) _ HA3'.out HL3.out (one_N _) rfl (by omega) hs2 ?_; intro v3 x3 h3 _ hb3; obtain ⟨a4, c4, rfl, hc4, _, _⟩ := own_slice h3; have H3 := Lib.hid h3; have HB3 := Lib.hid (HB.out.trans ((HB2.out.trans hb3).mono hbw)); clear h3 hb3))
              go_roundw
              case rel => exact ⟨k + 1, 0 + p + 1 + (m - p), a4, c4, by first | rfl | rw [Nat.zero_add], by go_num, by omega, by omega, hc4, HLen, by show World.ownsRow _ _ _ _ _ _ _; rw [HCells.out]; exact own_base H3.out hbw, HB3⟩
              case measure => first | (simp [intOf]; done) | (simp [intOf]; omega)
            · obtain ⟨b2, o2, x, rfl, hc, hx, ⟨hxv, hR⟩ | ⟨hxv, hR⟩⟩ := hR.out
              · have HR := Lib.hid hR
                clear hR
                go_wp2
                go_roundw
                case rel => exact ⟨k + 1, m, _, _, rfl, by go_num, by omega, by omega, hmc, by show _ = _; rw [HR.out]; exact HM.out, by show World.ownsRow _ _ _ _ _ _ _; rw [HR.out]; exact HO.out, HB⟩
                case measure => first | (simp [intOf]; done) | (simp [intOf]; omega)
              · have HR := Lib.hid hR
                clear hR
                have HA1 : Hid (Arr wr.heap.size wr (some ⟨b2, o2, none⟩) (cellsN ((edgesTo l k).take p))) := by
                  show Arr _ _ _ (cellsOf encN1 _)
                  rw [cellsOf_take encN1 1 (fun _ => rfl)]; exact HArr.out.take _
                have HL1 : Hid ((cellsN ((edgesTo l k).take p)).length = p * 1) := by
                  show _ = _
                  rw [cellsN_len, List.length_take, ← HM.out]; congr 1; omega
                have hfr := HArr.out.from_ (P := Try.prog) 49 2 1 Try.underlying49 Try.sizeOf2 m c2 p (by rw [cellsN_len, ← HM.out]) hPm hmc (by omega)
                obtain ⟨a3, hA3, hsl⟩ := hfr
                have HA3 : Hid (Arr wr.heap.size wr a3 (cellsN ((edgesTo l k).drop p))) := by
                  show Arr _ _ _ (cellsOf encN1 _)
                  rw [cellsOf_drop encN1 1 (fun _ => rfl)]; exact hA3
                have HL3 : Hid ((cellsN ((edgesTo l k).drop p)).length = (m - p) * 1) := by
                  show _ = _
                  rw [cellsN_len, List.length_drop, ← HM.out]
                have HLen : Hid (0 + p + 1 + (m - p) = (edgesTo l (k + 1)).length) := by
                  show _ = _
                  rw [HR.out, List.length_append, List.length_append, List.length_take, List.length_drop, ← HM.out]; simp; omega
                have HCells : Hid (cellsN (edgesTo l (k + 1)) = [] ++ cellsN ((edgesTo l k).take p) ++ cellsN [v] ++ cellsN ((edgesTo l k).drop p)) := by
                  show _ = _
                  rw [HR.out, cellsN_app, cellsN_app]; rfl
                clear hA3
                go_wp2_with (first
                  | (refine wpList_appS rfl (.tmp 56) (.tmp 59) 49 rfl wr.heap.size 2 iI (.int .i64 0) 1 8 Try.underlying49 hiI hzI rfl hsI (by omega) hbI (by omega) (.slice none 0 0) 0 [] wr (World.ownsRow_nil _ _ _ _) rfl _ (some ⟨b2, o2, none⟩) p c2 _ HA1.out HL1.out (one_N _) rfl (by omega) (Nat.le_refl _) ?_; intro v1 x1 h1 _ hb1; have H1 := Lib.hid h1; have HB1 := Lib.hid hb1; have hs1 := hb1.size; clear h1 hb1)
                  | (refine wpList_appS rfl (.tmp 61) (.tmp 63) 49 rfl wr.heap.size 2 iI (.int .i64 0) 1 8 Try.underlying49 hiI hzI rfl hsI (by omega) hbI (by omega) v1 (0 + p) _ (x1.alloc (.cells #[.int .i64 v] 2)) (World.ownsRow.alloc H1.out _) rfl _ (some ⟨x1.heap.size, 0, none⟩) 1 1 (cellsN [v]) (arr_newN x1 _ v) rfl (one_N _) rfl (by omega) (by simp; omega) ?_; intro v2 x2 h2 _ hb2; have H2 := Lib.hid h2; have HB2 := Lib.hid (HB1.out.trans (((Below.refl _ x1).alloc hs1 _).trans hb2)); have hs2 := HB2.out.size; have HA3' := Lib.hid (HA3.out.below HB2.out); clear h2 hb2)
                  | (refine wpList_appS rfl (.tmp 65) (.tmp 68) 49 rfl wr.heap.size 2 iI (.int .i64 0) 1 8 Try.underlying49 hiI hzI rfl hsI (by omega) hbI (by omega) v2 (0 + p + 1) _ x2 H2.out rfl _ a3 (m - p) (c2 - p) _ HA3'.out HL3.out (one_N _) rfl (by omega) hs2 ?_; intro v3 x3 h3 _ hb3; obtain ⟨a4, c4, rfl, hc4, _, _⟩ := own_slice h3; have H3 := Lib.hid h3; have HB3 := Lib.hid (HB.out.trans ((HB2.out.trans hb3).mono hbw)); clear h3 hb3))
                go_roundw
                case rel => exact ⟨k + 1, 0 + p + 1 + (m - p), a4, c4, by first | rfl | rw [Nat.zero_add], by go_num, by omega, by omega, hc4, HLen, by show World.ownsRow _ _ _ _ _ _ _; rw [HCells.out]; exact own_base H3.out hbw, HB3⟩
                case measure => first | (simp [intOf]; done) | (simp [intOf]; omega)
      · have q1 : ((k : Int) % 2 == 1) = true := by simp; omega
        rw [hv] at c1
        clear hv hm2
        go_wp2_with fail
        go_loop [6] (fun x => ∃ p : Nat, p ≤ P ∧ x = .int .i64 p) (fun x => P - (intOf x).toNat)
        case atStart => exact ⟨0, by omega, rfl⟩
        case round =>
          obtain ⟨p, hp, rfl⟩ := hrel
          by_cases hpP : p < P
          · obtain ⟨b2, o2, x, rfl, hc, hx⟩ := (HInL.out p hpP).out
            have hpm : p < m := by omega
            go_wp2
            go_round
            case rel => exact ⟨p + 1, by omega, by go_num⟩
            case measure => first | (simp [intOf]; done) | (simp [intOf]; omega)
          · obtain rfl : p = P := by omega
            clear hpP
            have hways : (p = m ∧ Hid (edgesTo l (k + 1) = (edgesTo l k).take p ++ [v] ++ (edgesTo l k).drop p)) ∨ (p < m ∧ Hid (∃ b2 o2 x, a2 = some ⟨b2, o2, none⟩ ∧ wr.cell? ⟨b2, o2 + p, none⟩ = some (.int .i64 x) ∧ v ≤ x ∧ ((x == v) = true ∧ edgesTo l (k + 1) = edgesTo l k ∨ (x == v) = false ∧ edgesTo l (k + 1) = (edgesTo l k).take p ++ [v] ++ (edgesTo l k).drop p))) := by
              by_cases hpm : p = m
              · exact .inl ⟨hpm, by show _ = _; rw [hE1.out]; exact (HEndL.out hpm).out⟩
              · obtain ⟨b2, o2, x, h1, h2, h3, h4, h5⟩ := (HAtL.out (by omega)).out
                refine .inr ⟨by omega, b2, o2, x, h1, h2, h3, ?_⟩
                by_cases hx : x = v
                · exact .inl ⟨by simp [hx], by rw [hE1.out]; exact h4 hx⟩
                · exact .inr ⟨by simp [hx], by rw [hE1.out]; exact h5 hx⟩
            rcases hways with ⟨hpm, HR⟩ | ⟨hpm, hR⟩
            · have hq : decide ((p : Int) < (m : Int)) = false := by simp; omega
              have hq2 : decide (p < m) = false := by simp; omega
              clear hpm
              have HA1 : Hid (Arr wr.heap.size wr a2 (cellsN ((edgesTo l k).take p))) := by
                show Arr _ _ _ (cellsOf encN1 _)
                rw [cellsOf_take encN1 1 (fun _ => rfl)]; exact HArr.out.take _
              have HL1 : Hid ((cellsN ((edgesTo l k).take p)).length = p * 1) := by
                show _ = _
                rw [cellsN_len, List.length_take, ← HM.out]; congr 1; omega
              have hfr := HArr.out.from_ (P := Try.prog) 49 2 1 Try.underlying49 Try.sizeOf2 m c2 p (by rw [cellsN_len, ← HM.out]) hPm hmc (by omega)
              obtain ⟨a3, hA3, hsl⟩ := hfr
              have HA3 : Hid (Arr wr.heap.size wr a3 (cellsN ((edgesTo l k).drop p))) := by
                show Arr _ _ _ (cellsOf encN1 _)
                rw [cellsOf_drop encN1 1 (fun _ => rfl)]; exact hA3
              have HL3 : Hid ((cellsN ((edgesTo l k).drop p)).length = (m - p) * 1) := by
                show _ = _
                rw [cellsN_len, List.length_drop, ← HM.out]
              have HLen : Hid (0 + p + 1 + (m - p) = (edgesTo l (k + 1)).length) := by
                show _ = _
                rw [HR.out, List.length_append, List.length_append, List.length_take, List.length_drop, ← HM.out]; simp; omega
              have HCells : Hid (cellsN (edgesTo l (k + 1)) = [] ++ cellsN ((edgesTo l k).take p) ++ cellsN [v] ++ cellsN ((edgesTo l k).drop p)) := by
                show _ = _
                rw [HR.out, cellsN_app, cellsN_app]; rfl
              clear hA3
              go_wp2_with (first
                | (refine wpList_appS rfl (.tmp 56) (.tmp 59) 49 rfl wr.heap.size 2 iI (.int .i64 0) 1 8 Try.underlying49 hiI hzI rfl hsI (by omega) hbI (by omega) (.slice none 0 0) 0 [] wr (World.ownsRow_nil _ _ _ _) rfl _ a2 p c2 _ HA1.out HL1.out (one_N _) rfl (by omega) (Nat.le_refl _) ?_; intro v1 x1 h1 _ hb1; have H1 := Lib.hid h1; have HB1 := Lib.hid hb1; have hs1 := hb1.size; clear h1 hb1)
                | (refine wpList_appS rfl (.tmp 61) (.tmp 63) 49 rfl wr.heap.size 2 iI (.int .i64 0) 1 8 Try.underlying49 hiI hzI rfl hsI (by omega) hbI (by omega) v1 (0 + p) _ (x1.alloc (.cells #[.int .i64 v] 2)) (World.ownsRow.alloc H1.out _) rfl _ (some ⟨x1.heap.size, 0, none⟩) 1 1 (cellsN [v]) (arr_newN x1 _ v) rfl (one_N _) rfl (by omega) (by simp; omega) ?_; intro v2 x2 h2 _ hb2; have H2 := Lib.hid h2; have HB2 := Lib.hid (HB1.out.trans (((Below.refl _ x1).alloc hs1 _).trans hb2)); have hs2 := HB2.out.size; have HA3' := Lib.hid (HA3.out.below HB2.out); clear h2 hb2)
                | (refine wpList_appS rfl (.tmp 65) (.tmp 68) 49 rfl wr.heap.size 2 iI (.int .i64 0) 1 8 Try.underlying49 hiI hzI rfl hsI (by omega) hbI (by omega) v2 (0 + p + 1) _ x2 H2.out rfl _ a3 (m - p) (c2 - p) _ HA3'.out HL3.out (one_N _) rfl (by omega) hs2 ?_; intro v3 x3 h3 _ hb3; obtain ⟨a4, c4, rfl, hc4, _, _⟩ := own_slice h3; have H3 := Lib.hid h3; have HB3 := Lib.hid (HB.out.trans ((HB2.out.trans hb3).mono hbw)); clear h3 hb3))
              go_roundw
              case rel => exact ⟨k + 1, 0 + p + 1 + (m - p), a4, c4, by first | rfl | rw [Nat.zero_add], by go_num, by omega, by omega, hc4, HLen, by show World.ownsRow _ _ _ _ _ _ _; rw [HCells.out]; exact own_base H3.out hbw, HB3⟩
              case measure => first | (simp [intOf]; done) | (simp [intOf]; omega)
            · obtain ⟨b2, o2, x, rfl, hc, hx, ⟨hxv, hR⟩ | ⟨hxv, hR⟩⟩ := hR.out
              · have HR := Lib.hid hR
                clear hR
                go_wp2
                go_roundw
                case rel => exact ⟨k + 1, m, _, _, rfl, by go_num, by omega, by omega, hmc, by show _ = _; rw [HR.out]; exact HM.out, by show World.ownsRow _ _ _ _ _ _ _; rw [HR.out]; exact HO.out, HB⟩
                case measure => first | (simp [intOf]; done) | (simp [intOf]; omega)
              · have HR := Lib.hid hR
                clear hR
                have HA1 : Hid (Arr wr.heap.size wr (some ⟨b2, o2, none⟩) (cellsN ((edgesTo l k).take p))) := by
                  show Arr _ _ _ (cellsOf encN1 _)
                  rw [cellsOf_take encN1 1 (fun _ => rfl)]; exact HArr.out.take _
                have HL1 : Hid ((cellsN ((edgesTo l k).take p)).length = p * 1) := by
                  show _ = _
                  rw [cellsN_len, List.length_take, ← HM.out]; congr 1; omega
                have hfr := HArr.out.from_ (P := Try.prog) 49 2 1 Try.underlying49 Try.sizeOf2 m c2 p (by rw [cellsN_len, ← HM.out]) hPm hmc (by omega)
                obtain ⟨a3, hA3, hsl⟩ := hfr
                have HA3 : Hid (Arr wr.heap.size wr a3 (cellsN ((edgesTo l k).drop p))) := by
                  show Arr _ _ _ (cellsOf encN1 _)
                  rw [cellsOf_drop encN1 1 (fun _ => rfl)]; exact hA3
                have HL3 : Hid ((cellsN ((edgesTo l k).drop p)).length = (m - p) * 1) := by
                  show _ = _
                  rw [cellsN_len, List.length_drop, ← HM.out]
                have HLen : Hid (0 + p + 1 + (m - p) = (edgesTo l (k + 1)).length) := by
                  show _ = _
                  rw [HR.out, List.length_append, List.length_append, List.length_take, List.length_drop, ← HM.out]; simp; omega
                have HCells : Hid (cellsN (edgesTo l (k + 1)) = [] ++ cellsN ((edgesTo l k).take p) ++ cellsN [v] ++ cellsN ((edgesTo l k).drop p)) := by
                  show _ = _
                  rw [HR.out, cellsN_app, cellsN_app]; rfl
                clear hA3
                go_wp2_with (first
                  | (refine wpList_appS rfl (.tmp 56) (.tmp 59) 49 rfl wr.heap.size 2 iI (.int .i64 0) 1 8 Try.underlying49 hiI hzI rfl hsI (by omega) hbI (by omega) (.slice none 0 0) 0 [] wr (World.ownsRow_nil _ _ _ _) rfl _ (some ⟨b2, o2, none⟩) p c2 _ HA1.out HL1.out (one_N _) rfl (by omega) (Nat.le_refl _) ?_; intro v1 x1 h1 _ hb1; have H1 := Lib.hid h1; have HB1 := Lib.hid hb1; have hs1 := hb1.size; clear h1 hb1)
                  | (refine wpList_appS rfl (.tmp 61) (.tmp 63) 49 rfl wr.heap.size 2 iI (.int .i64 0) 1 8 Try.underlying49 hiI hzI rfl hsI (by omega) hbI (by omega) v1 (0 + p) _ (x1.alloc (.cells #[.int .i64 v] 2)) (World.ownsRow.alloc H1.out _) rfl _ (some ⟨x1.heap.size, 0, none⟩) 1 1 (cellsN [v]) (arr_newN x1 _ v) rfl (one_N _) rfl (by omega) (by simp; omega) ?_; intro v2 x2 h2 _ hb2; have H2 := Lib.hid h2; have HB2 := Lib.hid (HB1.out.trans (((Below.refl _ x1).alloc hs1 _).trans hb2)); have hs2 := HB2.out.size; have HA3' := Lib.hid (HA3.out.below HB2.out); clear h2 hb2)
                  | (refine wpList_appS rfl (.tmp 65) (.tmp 68) 49 rfl wr.heap.size 2 iI (.int .i64 0) 1 8 Try.underlying49 hiI hzI rfl hsI (by omega) hbI (by omega) v2 (0 + p + 1) _ x2 H2.out rfl _ a3 (m - p) (c2 - p) _ HA3'.out HL3.out (one_N _) rfl (by omega) hs2 ?_; intro v3 x3 h3 _ hb3; obtain ⟨a4, c4, rfl, hc4, _, _⟩ := own_slice h3; have H3 := Lib.hid h3; have HB3 := Lib.hid (HB.out.trans ((HB2.out.trans hb3).mono hbw)); clear h3 hb3))
                go_roundw
                case rel => exact ⟨k + 1, 0 + p + 1 + (m - p), a4, c4, by first | rfl | rw [Nat.zero_add], by go_num, by omega, by omega, hc4, HLen, by show World.ownsRow _ _ _ _ _ _ _; rw [HCells.out]; exact own_base H3.out hbw, HB3⟩
                case measure => first | (simp [intOf]; done) | (simp [intOf]; omega)
    · have hkk : k = 2 * n := by omega
      subst hkk
      have q2 : decide (((2 * n : Nat) : Int) < 2 * (n : Int)) = false := by simp
      go_wp2
      go_ret
      exact ⟨_, rfl, by unfold edges; rw [← HN.out, ← HM.out]; exact HO.out, HB.out⟩
end Go.Proofs.Ytockmoiekbhneaa
