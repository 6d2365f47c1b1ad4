/- Several texts of one proof, one behind the other. -/
import Derived.Test.YthfgjkmfabmipaaJQk13
import Derived.Deep.QuietTactic
import Derived.BigQuiet
set_option linter.unusedSimpArgs false
set_option linter.unusedVariables false

/- Journal: the law's begin. -/
set_option linter.unusedSimpArgs false
set_option linter.unusedVariables false
set_option maxRecDepth 100000
namespace Go.Proofs.Ythfgjkmfabmipaa
open Go.RowKit

/-! A disk's blocks are no bytes and no entries. -/
theorem disk_blk {w : World} {B : Nat} {S : List Nat} {d : DS} (h : IsDisk w B S d) {g : Nat} {cs : Array Value} (hb : Blk w g 5 cs) : g ∉ S := by
  obtain ⟨Mv, Md, pv, h, rfl⟩ := h
  intro hm
  unfold footD at hm
  simp only [List.mem_cons, Option.mem_toList] at hm
  rcases hm with rfl | rfl | rfl | hm
  · exact Blk.ne_ h.blk hb (by decide) rfl
  · exact h.vis.ne_blk hb rfl
  · exact h.dur.ne_blk hb rfl
  · exact own_ne h.pend hb (by decide) hm
theorem disk_own {w : World} {B : Nat} {S : List Nat} {d : DS} (h : IsDisk w B S d) {base n : Nat} {v : Value} {xs : List Value} (ho : w.ownsRow base 63 2 v n xs) : ∀ g, v.ownBlock = some g → g ∉ S := by
  obtain ⟨Mv, Md, pv, h, rfl⟩ := h
  intro g hg hm
  unfold footD at hm
  simp only [List.mem_cons, Option.mem_toList] at hm
  rcases hm with rfl | rfl | rfl | hm
  · exact own_ne ho h.blk (by decide) hg
  · exact own_ne_map ho h.vis hg
  · exact own_ne_map ho h.dur hg
  · rcases ho.2 with ⟨rfl, _⟩ | ⟨g', cap, cur, rfl, _, hh, _⟩
    · simp [Value.ownBlock] at hg
    · have : g' = g := by simpa [Value.ownBlock] using hg
      subst this
      exact own_ne h.pend (t := 63) hh (by decide) hm

/-- A disk of the call's own, and entries of its own. -/
structure Has (w0 w : World) (B : Nat) (d : DS) (v : Value) (E : List En) : Prop where
  disk : OwnD w0 w B d
  row : w.ownsRow w0.heap.size 63 2 v E.length (cellsE E)
  good : ∀ e ∈ E, EnGood w0.heap.size w e
theorem Has.below {w0 w w' : World} {B : Nat} {d : DS} {v : Value} {E : List En} (h : Has w0 w B d v E) (hb : Below w.heap.size w w') : Has w0 w' B d v E :=
  ⟨h.disk.below hb, own_below h.row (Nat.le_refl _) hb, fun e he => (h.good e he).keep hb⟩
theorem Has.step {w0 w w' : World} {B : Nat} {S : List Nat} {d : DS} {v : Value} {E : List En} {r : Nat × DS} {e : Ending} (h : Has w0 w B d v E) (hS : IsDisk w B S d) (h3 : ∀ k ∈ S, w0.heap.size ≤ k) (hr : RetI w B S r e w') : e = .returned (.int .i64 (r.1 : Int)) ∧ Has w0 w' B r.2 v E := by
  obtain ⟨h1, h2⟩ := OwnD.step (d := d) h.disk.1 h3 hr
  obtain ⟨-, S', -, hc, -⟩ := hr
  refine ⟨h1, h2, own_chg h.row hc (disk_own hS h.row), fun x hx => ?_⟩
  obtain ⟨g, g1, g2, g3, g4, g5, g6, g7, g8⟩ := h.good x hx
  exact ⟨g, g1, g2, g3, g4, g5, g6, g7, g8.chg hc (disk_blk hS g8)⟩

/-! What begin comes to. -/
def DS.pagesF (f : Nat → Nat) : Nat → Nat × DS
  | 0 => (0, DS.new 200)
  | k + 1 => thenD (DS.pagesF f k) fun d => d.writePage (k : Int) (rep (f k))
def DS.begin (f : Nat → Nat) : DS := ((DS.pagesF f 6).2.sync 0).2
theorem pagesF_ok (f : Nat → Nat) : ∀ k, k ≤ 6 → (DS.pagesF f k).1 = 0
  | 0, _ => rfl
  | 1, _ => by kernel_rfl
  | 2, _ => by kernel_rfl
  | 3, _ => by kernel_rfl
  | 4, _ => by kernel_rfl
  | 5, _ => by kernel_rfl
  | 6, _ => by kernel_rfl
  | k + 7, h => by omega
theorem pagesF_room (f : Nat → Nat) : ∀ k, k ≤ 6 → (DS.pagesF f k).2.room 100000
  | 0, _ => ⟨of_decide_eq_true (by kernel_rfl), of_decide_eq_true (by kernel_rfl)⟩
  | 1, _ => ⟨of_decide_eq_true (by kernel_rfl), of_decide_eq_true (by kernel_rfl)⟩
  | 2, _ => ⟨of_decide_eq_true (by kernel_rfl), of_decide_eq_true (by kernel_rfl)⟩
  | 3, _ => ⟨of_decide_eq_true (by kernel_rfl), of_decide_eq_true (by kernel_rfl)⟩
  | 4, _ => ⟨of_decide_eq_true (by kernel_rfl), of_decide_eq_true (by kernel_rfl)⟩
  | 5, _ => ⟨of_decide_eq_true (by kernel_rfl), of_decide_eq_true (by kernel_rfl)⟩
  | 6, _ => ⟨of_decide_eq_true (by kernel_rfl), of_decide_eq_true (by kernel_rfl)⟩
  | k + 7, h => by omega
theorem begin_ok (f : Nat → Nat) : ((DS.pagesF f 6).2.sync 0).1 = 0 := by kernel_rfl
theorem begin_room (f : Nat → Nat) : (DS.begin f).room 100000 := ⟨of_decide_eq_true (by kernel_rfl), of_decide_eq_true (by kernel_rfl)⟩
/-- Byte p of the pages. -/
def begC (l : List Nat) (p : Nat) : Nat := l.getD p p
theorem begC_lt {l : List Nat} (h : ∀ c ∈ l, c < 256) {p : Nat} (hp : p < 6) : begC l p < 256 := by
  unfold begC
  rw [List.getD_eq_getElem?_getD]
  cases hl : l[p]? with
  | none => simp; omega
  | some c => exact h c (List.mem_of_getElem? hl)
def pagesE (f : Nat → Nat) : Nat → List (Nat × List Nat)
  | 0 => []
  | k + 1 => pagesE f k ++ [(k, rep (f k))]
theorem pagesE_len (f : Nat → Nat) : ∀ k, (pagesE f k).length = k
  | 0 => rfl
  | k + 1 => by simp [pagesE, pagesE_len f k]

set_option maxRecDepth 100000 in
set_option maxHeartbeats 8000000 in
theorem begin_any (l : List Nat) (a : Option Addr) (n cap : Nat) (w : World) (hB : Bs w.heap.size w a l) (hn : n = l.length) (hnm : cap ≤ 9223372036854775807) (hcap : n ≤ cap) :
    Calls Try.prog 25 #[.slice a n cap] w fun e w' => ∃ (B : Nat) (ea : Option Addr) (ec : Nat) (E : List En), e = .returned (.tuple #[.pointer (some ⟨B, 0, none⟩), .slice ea 6 ec, .bool true]) ∧ E.map enX = pagesE (begC l) 6 ∧ Has w w' B (DS.begin (begC l)) (.slice ea 6 ec) E := by
  subst hn
  obtain ⟨iE, hiE, hzE, hsE, hbE⟩ := info_parts infoE
  have HN := Lib.hid (ONew 200 (by decide) w w (Below.refl _ _))
  have HP := Lib.hid (fun c (hc : c < 256) W => Page_any c hc W)
  have HL := Lib.hid hB
  have HLt := Lib.hid (fun (p : Nat) (hp : p < 6) => begC_lt hB.1 hp)
  clear hB
  go_enter Try.func25, Try.ntmps25
  go_wp2_with fail
  refine HN.out.mono ?_
  rintro e w1 ⟨B, rfl, h1⟩
  have H1 : Hid (Has w w1 B (DS.pagesF (begC l) 0).2 (.slice none 0 0) []) := ⟨h1, World.ownsRow_nil _ _ _ _, by intro e he; cases he⟩
  clear h1 HN
  go_wp2
  go_loopw [7, 8] (fun v0 i wr => ∃ (k : Nat) (v : Value) (E : List En), k ≤ 6 ∧ i = .int .i64 (k : Int) ∧ v = v0 ∧ Hid (E.length = k) ∧ Hid (E.map enX = pagesE (begC l) k) ∧ Hid (Has w wr B (DS.pagesF (begC l) k).2 v E)) (fun _ i _ => 6 - (intOf i).toNat)
  case atStart => exact ⟨0, _, [], by omega, rfl, rfl, rfl, rfl, H1⟩
  case round =>
    clear H1
    obtain ⟨k, v, E, hk, rfl, rfl, HEl, HEs, HH⟩ := hrel
    by_cases hlt : k < 6
    · have HC2 := Lib.hid (HLt.out k hlt)
      have HNx : Hid (DS.pagesF (begC l) (k + 1) = (DS.pagesF (begC l) k).2.writePage (k : Int) (rep (begC l k))) := by
        show thenD _ _ = _
        rw [thenD_ok (pagesF_ok (begC l) k (by omega))]
      by_cases hkn : k < l.length
      · have HPc := Lib.hid (HP.out (begC l k) HC2.out)
        obtain ⟨b, o, hab, hk0⟩ : ∃ b o, a = some ⟨b, o, none⟩ ∧ wr.cell? ⟨b, o + k, none⟩ = some (.int .u8 ((begC l k : Nat) : Int)) := by
          have hB := HL.out.below HH.out.disk.1
          obtain ⟨b, o, ha, -, hc⟩ := hB.2.resolve_left (by intro h0; rw [h0] at hkn; simp at hkn)
          refine ⟨b, o, ha, hc k _ ?_⟩
          unfold begC
          rw [List.getD_eq_getElem?_getD, List.getElem?_eq_getElem (by omega)]; rfl
        subst hab
        go_wp2_with fail
        refine (HPc.out _).mono ?_
        rintro e w2 ⟨g2, rfl, hg2, b2, K2⟩
        have HH2 := Lib.hid (HH.out.below b2)
        have HWp : Hid (Calls Try.prog 24 #[.pointer (some ⟨B, 0, none⟩), .int .i64 (k : Int), .slice (some ⟨g2, 0, none⟩) 512 512] w2 fun e w' => e = .returned (.int .i64 0) ∧ Has w w' B (DS.pagesF (begC l) (k + 1)).2 v E ∧ Below w.heap.size w w') := by
          obtain ⟨hb1, S, hD, hS⟩ := HH2.out.disk
          refine (WritePage_any hD (k : Int) (rep (begC l k)) (some ⟨g2, 0, none⟩) 512 512 (K2.bsA (by intro c hc; rw [List.eq_of_mem_replicate hc]; exact HC2.out)) (by simp [rep]) (by omega) (by omega) (fun g hg => by injection hg with hg; subst hg; exact disk_blk hD K2) ((pagesF_room (begC l) k (by omega)).mono (by omega))).mono ?_
          intro e w' hr
          obtain ⟨h1, h2⟩ := HH2.out.step hD hS hr
          rw [HNx.out]
          refine ⟨?_, h2, h2.disk.1⟩
          rw [h1]
          have := pagesF_ok (begC l) (k + 1) (by omega)
          rw [HNx.out] at this
          rw [this]; rfl
        clear hg2 b2 K2 HH HH2
        go_wp2_with fail
        refine HWp.out.mono ?_
        rintro e w3 ⟨rfl, hH3, hb3⟩
        have HH3 := Lib.hid hH3
        clear hH3 hb3 HWp
        go_wp2_with fail
        refine (HPc.out _).mono ?_
        rintro e w4 ⟨g4, rfl, hg4, b4, K4⟩
        have HGe : Hid (EnGood w.heap.size w4 (En.mk (k : Int) (some (Addr.mk g4 0 none)) 512 512 (rep (begC l k)))) := by
          show EnGood _ _ _
          exact ⟨g4, rfl, rfl, rfl, Nat.le_trans HH3.out.disk.1.size hg4, ⟨by show (0 : Int) ≤ k; omega, by show (k : Int) < 4096; omega⟩, by simp [rep], (by intro c hc; rw [List.eq_of_mem_replicate hc]; exact HC2.out), K4⟩
        have HH4 := Lib.hid (HH3.out.below b4)
        have HBa : Hid (Below w4.heap.size w4 (w4.alloc (.cells #[.int .i64 (k : Int), .slice (some ⟨g4, 0, none⟩) 512 512] 63))) := (Below.refl _ _).alloc (Nat.le_refl _) _
        have HH5 := Lib.hid (HH4.out.below HBa.out)
        have HOw4 : Hid (w4.ownsRow w.heap.size 63 2 v k (cellsE E)) := by
          have := HH4.out.row
          rw [HEl.out] at this
          exact this
        have HBs : Hid (w.heap.size ≤ w4.heap.size) := HH4.out.disk.1.size
        clear hg4 b4 K4 HH3 HH4 HPc
        go_wp2_with (first | (at_builtin; refine wpList_appC rfl _ _ 46 rfl w.heap.size 63 iE (.agg #[.int .i64 0, .slice none 0 0]) 2 32 Try.underlying46 hiE hzE rfl hsE (by omega) hbE (by omega) v k _ [.int .i64 (k : Int), .slice (some ⟨g4, 0, none⟩) 512 512] w4 HOw4.out rfl _ rfl rfl (by simp [Value.oneCell']) rfl (by omega) HBs.out ?_; intro v5 w5 hown5 hc5 hsz5; have HO5 := Lib.hid hown5; have HC5 := Lib.hid hc5; clear hown5 hc5 hsz5))
        have HHn : Hid (Has w w5 B (DS.pagesF (begC l) (k + 1)).2 v5 (E ++ [⟨(k : Int), some ⟨g4, 0, none⟩, 512, 512, rep (begC l k)⟩])) := by
          have h6 := HH5.out
          obtain ⟨hb6, S6, hD6, hS6⟩ := h6.disk
          have hown6 := h6.row
          refine ⟨⟨hb6.trans (HC5.out.below hb6.size (fun g hg => by rw [Option.mem_toList] at hg; exact (hown6.lt g hg).1)), S6, hD6.chg HC5.out (fun g hg hm => by rw [Option.mem_toList] at hm; exact disk_own hD6 hown6 g hm hg), hS6⟩, ?_, fun e he => ?_⟩
          · have := HO5.out
            rw [cellsE_snoc, List.length_append, HEl.out]
            exact this
          · have hx : EnGood w.heap.size w4 e ∨ e ∈ E := by
              rcases List.mem_append.1 he with he | he
              · exact .inr he
              · rw [List.mem_singleton.1 he]; exact .inl HGe.out
            rcases hx with hx | hx
            · exact (hx.keep HBa.out).own hown6 HC5.out
            · exact (h6.good e hx).own hown6 HC5.out
        have HEl2 : Hid ((E ++ [⟨(k : Int), some ⟨g4, 0, none⟩, 512, 512, rep (begC l k)⟩] : List En).length = k + 1) := by show _ = _; rw [List.length_append, HEl.out]; rfl
        have HEs2 : Hid ((E ++ [⟨(k : Int), some ⟨g4, 0, none⟩, 512, 512, rep (begC l k)⟩] : List En).map enX = pagesE (begC l) (k + 1)) := by show _ = _; rw [List.map_append, HEs.out]; rfl
        clear HH5 HOw4 HGe
        go_roundw
        case rel => exact ⟨k + 1, v5, _, by omega, by go_num, rfl, HEl2, HEs2, HHn⟩
        case measure => simp [intOf]; omega
      · have HPc : Hid (∀ W, Calls Try.prog 26 #[.int .u8 (k : Int)] W (RetPage W (begC l k))) := fun W => by
          have e : begC l k = k := by
            unfold begC
            rw [List.getD_eq_getElem?_getD, List.getElem?_eq_none (by omega)]; rfl
          rw [e]
          exact HP.out k (by omega) W
        have q : decide ((k : Int) < (l.length : Int)) = false := by simp; omega
        go_wp2_with fail
        refine (HPc.out _).mono ?_
        rintro e w2 ⟨g2, rfl, hg2, b2, K2⟩
        have HH2 := Lib.hid (HH.out.below b2)
        have HWp : Hid (Calls Try.prog 24 #[.pointer (some ⟨B, 0, none⟩), .int .i64 (k : Int), .slice (some ⟨g2, 0, none⟩) 512 512] w2 fun e w' => e = .returned (.int .i64 0) ∧ Has w w' B (DS.pagesF (begC l) (k + 1)).2 v E ∧ Below w.heap.size w w') := by
          obtain ⟨hb1, S, hD, hS⟩ := HH2.out.disk
          refine (WritePage_any hD (k : Int) (rep (begC l k)) (some ⟨g2, 0, none⟩) 512 512 (K2.bsA (by intro c hc; rw [List.eq_of_mem_replicate hc]; exact HC2.out)) (by simp [rep]) (by omega) (by omega) (fun g hg => by injection hg with hg; subst hg; exact disk_blk hD K2) ((pagesF_room (begC l) k (by omega)).mono (by omega))).mono ?_
          intro e w' hr
          obtain ⟨h1, h2⟩ := HH2.out.step hD hS hr
          rw [HNx.out]
          refine ⟨?_, h2, h2.disk.1⟩
          rw [h1]
          have := pagesF_ok (begC l) (k + 1) (by omega)
          rw [HNx.out] at this
          rw [this]; rfl
        clear hg2 b2 K2 HH HH2
        go_wp2_with fail
        refine HWp.out.mono ?_
        rintro e w3 ⟨rfl, hH3, hb3⟩
        have HH3 := Lib.hid hH3
        clear hH3 hb3 HWp
        go_wp2_with fail
        refine (HPc.out _).mono ?_
        rintro e w4 ⟨g4, rfl, hg4, b4, K4⟩
        have HGe : Hid (EnGood w.heap.size w4 (En.mk (k : Int) (some (Addr.mk g4 0 none)) 512 512 (rep (begC l k)))) := by
          show EnGood _ _ _
          exact ⟨g4, rfl, rfl, rfl, Nat.le_trans HH3.out.disk.1.size hg4, ⟨by show (0 : Int) ≤ k; omega, by show (k : Int) < 4096; omega⟩, by simp [rep], (by intro c hc; rw [List.eq_of_mem_replicate hc]; exact HC2.out), K4⟩
        have HH4 := Lib.hid (HH3.out.below b4)
        have HBa : Hid (Below w4.heap.size w4 (w4.alloc (.cells #[.int .i64 (k : Int), .slice (some ⟨g4, 0, none⟩) 512 512] 63))) := (Below.refl _ _).alloc (Nat.le_refl _) _
        have HH5 := Lib.hid (HH4.out.below HBa.out)
        have HOw4 : Hid (w4.ownsRow w.heap.size 63 2 v k (cellsE E)) := by
          have := HH4.out.row
          rw [HEl.out] at this
          exact this
        have HBs : Hid (w.heap.size ≤ w4.heap.size) := HH4.out.disk.1.size
        clear hg4 b4 K4 HH3 HH4 HPc
        go_wp2_with (first | (at_builtin; refine wpList_appC rfl _ _ 46 rfl w.heap.size 63 iE (.agg #[.int .i64 0, .slice none 0 0]) 2 32 Try.underlying46 hiE hzE rfl hsE (by omega) hbE (by omega) v k _ [.int .i64 (k : Int), .slice (some ⟨g4, 0, none⟩) 512 512] w4 HOw4.out rfl _ rfl rfl (by simp [Value.oneCell']) rfl (by omega) HBs.out ?_; intro v5 w5 hown5 hc5 hsz5; have HO5 := Lib.hid hown5; have HC5 := Lib.hid hc5; clear hown5 hc5 hsz5))
        have HHn : Hid (Has w w5 B (DS.pagesF (begC l) (k + 1)).2 v5 (E ++ [⟨(k : Int), some ⟨g4, 0, none⟩, 512, 512, rep (begC l k)⟩])) := by
          have h6 := HH5.out
          obtain ⟨hb6, S6, hD6, hS6⟩ := h6.disk
          have hown6 := h6.row
          refine ⟨⟨hb6.trans (HC5.out.below hb6.size (fun g hg => by rw [Option.mem_toList] at hg; exact (hown6.lt g hg).1)), S6, hD6.chg HC5.out (fun g hg hm => by rw [Option.mem_toList] at hm; exact disk_own hD6 hown6 g hm hg), hS6⟩, ?_, fun e he => ?_⟩
          · have := HO5.out
            rw [cellsE_snoc, List.length_append, HEl.out]
            exact this
          · have hx : EnGood w.heap.size w4 e ∨ e ∈ E := by
              rcases List.mem_append.1 he with he | he
              · exact .inr he
              · rw [List.mem_singleton.1 he]; exact .inl HGe.out
            rcases hx with hx | hx
            · exact (hx.keep HBa.out).own hown6 HC5.out
            · exact (h6.good e hx).own hown6 HC5.out
        have HEl2 : Hid ((E ++ [⟨(k : Int), some ⟨g4, 0, none⟩, 512, 512, rep (begC l k)⟩] : List En).length = k + 1) := by show _ = _; rw [List.length_append, HEl.out]; rfl
        have HEs2 : Hid ((E ++ [⟨(k : Int), some ⟨g4, 0, none⟩, 512, 512, rep (begC l k)⟩] : List En).map enX = pagesE (begC l) (k + 1)) := by show _ = _; rw [List.map_append, HEs.out]; rfl
        clear HH5 HOw4 HGe
        go_roundw
        case rel => exact ⟨k + 1, v5, _, by omega, by go_num, rfl, HEl2, HEs2, HHn⟩
        case measure => simp [intOf]; omega
    · have hk6 : k = 6 := by omega
      subst hk6
      obtain ⟨a9, c9, hv9, -, -, -⟩ := own_slice HH.out.row
      rw [HEl.out] at hv9
      subst hv9
      have HSy : Hid (Calls Try.prog 27 #[.pointer (some ⟨B, 0, none⟩), .int .i64 0] wr fun e w' => e = .returned (.int .i64 0) ∧ Has w w' B (DS.begin (begC l)) (.slice a9 6 c9) E) := by
        obtain ⟨hb1, S, hD, hS⟩ := HH.out.disk
        refine (DSync hD 0 (by have := (pagesF_room (begC l) 6 (by omega)).1; omega)).mono fun e w' hr => ?_
        obtain ⟨h1, h2⟩ := HH.out.step hD hS hr
        exact ⟨by rw [h1, begin_ok]; rfl, h2⟩
      clear HH
      go_wp2_with fail
      refine HSy.out.mono ?_
      rintro e w7 ⟨rfl, h7⟩
      have H7 := Lib.hid h7
      clear h7 HSy
      go_wp2
      go_ret3
      exact ⟨B, a9, c9, E, rfl, HEs.out, H7.out⟩
end Go.Proofs.Ythfgjkmfabmipaa

/- Journal: older saves ahead of the crash (mathematics). -/
set_option linter.unusedSimpArgs false
set_option linter.unusedVariables false
set_option maxRecDepth 100000
namespace Go.Proofs.Ythfgjkmfabmipaa
open Go.RowKit

theorem pagesE_get (f : Nat → Nat) : ∀ (k i : Nat), i < k → (pagesE f k)[i]? = some (i, rep (f i))
  | 0, i, h => by omega
  | k + 1, i, h => by
    unfold pagesE
    by_cases hi : i < k
    · rw [List.getElem?_append_left (by rw [pagesE_len]; exact hi)]
      exact pagesE_get f k i hi
    · have : i = k := by omega
      subst this
      rw [List.getElem?_append_right (by rw [pagesE_len]; omega), pagesE_len, Nat.sub_self]; rfl
theorem readPage_up {d : DS} (h : d.down = false) (p : Nat) (l : List Nat) (hp : p < 4096) (hl : l.length = 512) (hn : 4 * p + 4 ≤ d.vis.len 0) (hs : ∀ j, j < 4 → d.vis.get 0 (4 * p + j) = some (sec l j)) : d.readPage (p : Int) = .ok l := by
  have rd : ∀ j, j < 4 → d.read 0 ((4 * p + j : Nat) : Int) = .ok (sec l j) := fun j hj => by
    have := read_up h 0 (4 * p + j) (by omega)
    rw [if_neg (by omega), hs j hj] at this
    exact this
  have r0 := rd 0 (by omega)
  have r1 := rd 1 (by omega)
  have r2 := rd 2 (by omega)
  have r3 := rd 3 (by omega)
  have hr : d.rdSecs 0 (4 * p) 4 = .ok (l, true) := by
    simp only [DS.rdSecs, Nat.add_zero] at r0 r1 r2 r3 ⊢
    simp only [r0, r1, r2, r3]
    rw [List.nil_append, secs_join l hl]
  unfold DS.readPage
  rw [if_pos (by unfold pgB; simp; omega)]
  simp only [Int.toNat_natCast, hr]

def oldE (g : Nat → Nat) (k : Nat) (a : Option Addr) : List En := [⟨(k : Int), a, 512, 512, rep (g k)⟩]
def oldK (g : Nat → Nat) (d : DS) : Nat → Nat × DS
  | 0 => (0, d)
  | k + 1 => thenD (oldK g d k) fun d => thenD (d.save (oldE g k none) 6) fun d => d.clear
theorem oldE_save (g : Nat → Nat) (k : Nat) (a : Option Addr) (d : DS) : d.save (oldE g k a) 6 = d.save (oldE g k none) 6 := by
  unfold DS.save oldE
  simp only [List.all_cons, List.all_nil, En.ok, List.flatMap_cons, List.flatMap_nil, En.secs, List.length_cons, List.length_nil]
def oldOk (f g : Nat → Nat) (k : Nat) : Bool :=
  let r := oldK g (DS.begin f) k
  r.1 == 0 && decide (r.2.calls < 1000) && decide (r.2.pend.length = 0) && (readHeadL ((r.2.dur.get 1 0).getD noughts)).isNone && decide (r.2.dur.len 0 = 24)
theorem oldOk_all (f g : Nat → Nat) : ∀ k, k ≤ 3 → oldOk f g k = true
  | 0, _ => by kernel_rfl
  | 1, _ => by kernel_rfl
  | 2, _ => by kernel_rfl
  | 3, _ => by kernel_rfl
  | k + 4, h => by omega
theorem oldSave_all (f g : Nat → Nat) : ∀ k, k < 3 → ((oldK g (DS.begin f) k).2.save (oldE g k none) 6).1 = 0
  | 0, _ => by kernel_rfl
  | 1, _ => by kernel_rfl
  | 2, _ => by kernel_rfl
  | k + 3, h => by omega
theorem oldPages_all (f g : Nat → Nat) : ∀ k, k ≤ 3 → (List.range 24).map (fun s => (oldK g (DS.begin f) k).2.dur.get 0 s) = (List.range 24).map fun s => some (sec (rep (f (s / 4))) (s % 4))
  | 0, _ => by kernel_rfl
  | 1, _ => by kernel_rfl
  | 2, _ => by kernel_rfl
  | 3, _ => by kernel_rfl
  | k + 4, h => by omega
end Go.Proofs.Ythfgjkmfabmipaa

/- Journal: the reference's filled, Head. -/
set_option linter.unusedSimpArgs false
set_option linter.unusedVariables false
set_option maxRecDepth 100000
namespace Go.Proofs.Ythfgjkmfabmipaa
open Go.RowKit

set_option maxRecDepth 100000 in
set_option maxHeartbeats 4000000 in
theorem filled_any (l : List Nat) (b o n cap N : Nat) (w : World) (hB : Bs N w (some ⟨b, o, none⟩) l) (hN : N ≤ w.heap.size) (hl : n = l.length) (h0 : 0 < n) (h128 : n ≤ 128) :
    Calls Try.prog 45 #[.slice (some ⟨b, o, none⟩) n cap] w fun e w' => ∃ g, e = .returned (.slice (some ⟨g, 0, none⟩) 128 128) ∧ w.heap.size ≤ g ∧ Below w.heap.size w w' ∧ Blk w' g 5 (cellsA (fl l)) := by
  obtain ⟨w0, hw0⟩ : ∃ w0, w.alloc (.cells (cellsA (zs 128)) 5) = w0 := ⟨_, rfl⟩
  have hmk : (Instr.makeSlice 30 (.int .i64 128) (.int .i64 128)).run Try.prog w = .ok (.slice (some ⟨w.heap.size, 0, none⟩) 128 128) w0 := by
    rw [make128 w, ← hw0]
  have hB0 : Blk w0 w.heap.size 5 (cellsA (fl (l.take 0))) := by rw [← hw0]; exact Blk.new _ _ _
  have hb0 : Below w.heap.size w w0 := by rw [← hw0]; exact (Below.refl _ _).alloc (Nat.le_refl _) _
  have hc : ∀ (i c : Nat), l[i]? = some c → w.cell? ⟨b, o + i, none⟩ = some (.int .u8 (c : Int)) := by
    obtain ⟨b', o', he, -, hc⟩ := hB.2.resolve_left (by intro h; rw [h] at hl; simp at hl; omega)
    injection he with he; injection he with e1 e2; subst e1 e2
    exact hc
  have hbN : b < w.heap.size := by
    obtain ⟨b', o', he, hbN, hc⟩ := hB.2.resolve_left (by intro h; rw [h] at hl; simp at hl; omega)
    injection he with he; injection he with e1 e2; subst e1 e2
    omega
  have HC : Hid (∀ W, Below w.heap.size w W → ∀ (i c : Nat), l[i]? = some c → W.cell? ⟨b, o + i, none⟩ = some (.int .u8 (c : Int))) := fun W hW i c hi => by
    have := hc i c hi
    unfold World.cell? at this ⊢
    rw [hW.block b hbN]; exact this
  have HB0 := Lib.hid hB0
  have Hb0 := Lib.hid hb0
  have hlt256 := hB.1
  clear hw0 hB0 hb0 hc hB
  go_enter Try.func45, Try.ntmps45
  go_wp2
  clear hmk
  go_loopw [4] (fun iv wr => ∃ i : Nat, i ≤ n ∧ iv = .int .i64 (i : Int) ∧ Hid (Blk wr w.heap.size 5 (cellsA (fl (l.take i)))) ∧ Hid (Below w.heap.size w wr)) (fun iv _ => n - (intOf iv).toNat)
  case atStart => exact ⟨0, by omega, rfl, HB0, Hb0⟩
  case round =>
    clear HB0 Hb0
    obtain ⟨i, hi, rfl, HB, Hb⟩ := hrel
    by_cases hlt : i < n
    · obtain ⟨c, hci⟩ : ∃ c, l[i]? = some c := ⟨l[i]'(by omega), List.getElem?_eq_getElem (by omega)⟩
      have hc256 := hlt256 c (List.mem_of_getElem? hci)
      have ec := HC.out wr Hb.out i c hci
      have e1 := (HB.out.cell i).trans (fl_at (by omega) (by omega))
      have e2 := HB.out.frozen i
      have e3 := HB.out.lt
      have HN := HB.out.set_ i (.int .u8 (c : Int))
      rw [fl_set hci (by omega)] at HN
      have HN := Lib.hid HN
      have HBN : Hid (Below w.heap.size w (wr.setCell ⟨w.heap.size, i, none⟩ (.int .u8 (c : Int)))) := Hb.out.setCell (Nat.le_refl _) _
      clear hlt256 hci hl
      go_wp2
      go_roundw
      case rel => exact ⟨i + 1, by omega, by go_num, HN, HBN⟩
      case measure => simp [intOf]; omega
    · obtain rfl : i = n := by omega
      have HK : Hid (Blk wr w.heap.size 5 (cellsA (fl l))) := by
        have := HB.out
        rw [List.take_of_length_le (by omega)] at this
        exact this
      clear hlt256 hl
      go_wp2
      go_ret
      exact ⟨_, rfl, Nat.le_refl _, Hb.out, HK.out⟩

set_option maxRecDepth 100000 in
set_option maxHeartbeats 8000000 in
theorem rhead_any (c p : Int) (w : World) : Calls Try.prog 16 #[.int .i64 c, .int .i64 p] w (RetHd w c p) := by
  obtain ⟨B1, hB1⟩ : ∃ B, decide (c < 0) = B := ⟨_, rfl⟩
  obtain ⟨B2, hB2⟩ : ∃ B, decide (4096 < c) = B := ⟨_, rfl⟩
  obtain ⟨B3, hB3⟩ : ∃ B, decide (p < 0) = B := ⟨_, rfl⟩
  obtain ⟨B4, hB4⟩ : ∃ B, decide (4096 < p) = B := ⟨_, rfl⟩
  have HV : Hid ((cntB c && cntB p) = !(B1 || B2 || B3 || B4)) := by
    show _ = _
    rw [← hB1, ← hB2, ← hB3, ← hB4, Bool.eq_iff_iff]
    unfold cntB
    simp
    omega
  cases B1 with
  | true =>
    have HE : Hid ((cntB c && cntB p) = false) := by show _ = _; rw [HV.out]; rfl
    clear hB2 hB3 hB4
    go_enter Try.func16, Try.ntmps16
    go_wp2
    go_ret2
    exact ⟨Below.refl _ _, .inl ⟨HE.out, rfl⟩⟩
  | false =>
  cases B2 with
  | true =>
    have HE : Hid ((cntB c && cntB p) = false) := by show _ = _; rw [HV.out]; rfl
    clear hB3 hB4
    go_enter Try.func16, Try.ntmps16
    go_wp2
    go_ret2
    exact ⟨Below.refl _ _, .inl ⟨HE.out, rfl⟩⟩
  | false =>
  cases B3 with
  | true =>
    have HE : Hid ((cntB c && cntB p) = false) := by show _ = _; rw [HV.out]; rfl
    clear hB4
    go_enter Try.func16, Try.ntmps16
    go_wp2
    go_ret2
    exact ⟨Below.refl _ _, .inl ⟨HE.out, rfl⟩⟩
  | false =>
  cases B4 with
  | true =>
    have HE : Hid ((cntB c && cntB p) = false) := by show _ = _; rw [HV.out]; rfl
    go_enter Try.func16, Try.ntmps16
    go_wp2
    go_ret2
    exact ⟨Below.refl _ _, .inl ⟨HE.out, rfl⟩⟩
  | false =>
    have HE : Hid ((cntB c && cntB p) = true) := by show _ = _; rw [HV.out]; rfl
    simp only [decide_eq_false_iff_not] at hB1 hB2 hB3 hB4
    obtain ⟨c', rfl⟩ : ∃ n : Nat, c = n := ⟨c.toNat, by omega⟩
    obtain ⟨p', rfl⟩ : ∃ n : Nat, p = n := ⟨p.toNat, by omega⟩
    obtain ⟨i0, hi0, hz0, hz1, hz2⟩ := info_parts Try.info5
    have HF1 := Lib.hid (fun W => four_any c' (by omega) W)
    have HF2 := Lib.hid (fun W => four_any p' (by omega) W)
    have HFl := Lib.hid (fun (b o n cap : Nat) W (hB : Bs W.heap.size W (some ⟨b, o, none⟩) ([72, 83, 74, 49] ++ beL 4 c' ++ beL 4 p')) (hn : n = 12) => filled_any ([72, 83, 74, 49] ++ beL 4 c' ++ beL 4 p') b o n cap W.heap.size W hB (Nat.le_refl _) (by simp [beL_len, hn]) (by omega) (by omega))
    have HHd : Hid (fl ([72, 83, 74, 49] ++ beL 4 c' ++ beL 4 p') = headL c' p') := by
      show _ = _
      rw [headL_flat]; unfold fl
      have e : ([72, 83, 74, 49] ++ beL 4 c' ++ beL 4 p' : List Nat).length = 12 := by simp [beL_len]
      rw [e]
    have H256 : Hid (∀ c ∈ ([72, 83, 74, 49] ++ beL 4 c' ++ beL 4 p'), c < 256) := fun c hc => by
      rcases List.mem_append.1 hc with hc | hc
      · rcases List.mem_append.1 hc with hc | hc
        · simp at hc; omega
        · exact beL_lt _ _ c hc
      · exact beL_lt _ _ c hc
    obtain ⟨w1, hw1⟩ : ∃ w1, w.alloc (.cells #[.int .u8 72, .int .u8 83, .int .u8 74, .int .u8 49] 5) = w1 := ⟨_, rfl⟩
    have hO1 : w1.ownsRow w.heap.size 5 1 (.slice (some ⟨w.heap.size, 0, none⟩) 4 4) 4 (cellsU [72, 83, 74, 49]) := by rw [← hw1]; exact World.ownsRow_lit w #[.int .u8 72, .int .u8 83, .int .u8 74, .int .u8 49] 4 (Nat.le_refl _) (by unfold maxLen; omega) rfl
    have hb1 : Below w.heap.size w w1 := by rw [← hw1]; exact (Below.refl _ _).alloc (Nat.le_refl _) _
    have HO1 := Lib.hid hO1
    have HB1 := Lib.hid hb1
    clear hO1 hb1 HV
    go_enter Try.func16, Try.ntmps16
    go_wp2_with fail
    refine (HF1.out _).mono ?_
    rintro e w2 ⟨rfl, hw2⟩
    rw [hw1] at *
    have hX2 : Bs w2.heap.size w2 (some ⟨w1.heap.size, 0, none⟩) (beL 4 c') := by rw [hw2]; exact (Blk.new _ _ _).bsA (beL_lt _ _)
    have hb2 : Below w1.heap.size w1 w2 := by rw [hw2]; exact (Below.refl _ _).alloc (Nat.le_refl _) _
    have HX2 := Lib.hid hX2.arr
    have HO2 : Hid (w2.ownsRow w.heap.size 5 1 (.slice (some ⟨w.heap.size, 0, none⟩) 4 4) 4 (cellsU [72, 83, 74, 49])) := by rw [hw2]; exact World.ownsRow.alloc HO1.out _
    have HB2 := Lib.hid (HB1.out.trans (hb2.mono HB1.out.size))
    have hs2 := HB2.out.size
    clear hX2 hb2 hw2 HO1 HB1 hw1
    go_wp2_with (at_builtin; refine wpList_appS rfl (.tmp 22) (.tmp 24) 30 rfl w.heap.size 5 i0 (.int .u8 0) 1 1 Try.underlying30 hi0 hz0 rfl hz1 (by omega) hz2 (by omega) (.slice (some ⟨w.heap.size, 0, none⟩) 4 4) 4 _ _ HO2.out rfl _ (some ⟨w1.heap.size, 0, none⟩) 4 4 (cellsU (beL 4 c')) HX2.out (by rw [cellsU_len, beL_len]) (one_B _) rfl (by omega) hs2 ?_; intro v3 w3 hown3 _ hb3; obtain ⟨a3, k3, rfl, _, _, _⟩ := own_slice hown3; have HO3 := Lib.hid hown3; have HB3 := Lib.hid (HB2.out.trans hb3); clear hown3 hb3)
    clear HO2 HX2
    refine (HF2.out _).mono ?_
    rintro e w4 ⟨rfl, hw4⟩
    have hX4 : Bs w4.heap.size w4 (some ⟨w3.heap.size, 0, none⟩) (beL 4 p') := by rw [hw4]; exact (Blk.new _ _ _).bsA (beL_lt _ _)
    have hb4 : Below w3.heap.size w3 w4 := by rw [hw4]; exact (Below.refl _ _).alloc (Nat.le_refl _) _
    have HX4 := Lib.hid hX4.arr
    have HO4 : Hid (w4.ownsRow w.heap.size 5 1 (.slice a3 8 k3) 8 (cellsU [72, 83, 74, 49] ++ cellsU (beL 4 c'))) := by rw [hw4]; exact World.ownsRow.alloc HO3.out _
    have HB4 := Lib.hid (HB3.out.trans (hb4.mono HB3.out.size))
    have hs4 := HB4.out.size
    clear hX4 hb4 hw4 HO3 HB3
    go_wp2_with (at_builtin; refine wpList_appS rfl (.tmp 26) (.tmp 28) 30 rfl w.heap.size 5 i0 (.int .u8 0) 1 1 Try.underlying30 hi0 hz0 rfl hz1 (by omega) hz2 (by omega) (.slice a3 8 k3) 8 _ _ HO4.out rfl _ (some ⟨w3.heap.size, 0, none⟩) 4 4 (cellsU (beL 4 p')) HX4.out (by rw [cellsU_len, beL_len]) (one_B _) rfl (by omega) hs4 ?_; intro v5 w5 hown5 _ hb5; obtain ⟨a5, k5, rfl, _, _, harr5⟩ := own_slice hown5; have HR5 := Lib.hid harr5; have HB5 := Lib.hid (HB4.out.trans hb5); clear hown5 hb5 harr5)
    have hR5 : Bs w5.heap.size w5 a5 ([72, 83, 74, 49] ++ beL 4 c' ++ beL 4 p') := by
      refine Arr.bs ?_ H256.out
      have e : cellsU ([72, 83, 74, 49] ++ beL 4 c' ++ beL 4 p') = cellsU [72, 83, 74, 49] ++ cellsU (beL 4 c') ++ cellsU (beL 4 p') := by simp [cellsU]
      rw [e]
      exact HR5.out
    obtain ⟨b5, o5, rfl, -, -⟩ := hR5.2.resolve_left (by simp)
    have HFc := Lib.hid (HFl.out b5 o5 12 k5 w5 hR5 rfl)
    clear hR5 HR5 HFl HO4 HX4
    refine HFc.out.mono ?_
    rintro e w6 ⟨g, rfl, hg, hb6, hK6⟩
    have HB6 := Lib.hid (HB5.out.trans (hb6.mono HB5.out.size))
    have hg6 := Nat.le_trans HB5.out.size hg
    rw [HHd.out] at hK6
    have HK6 := Lib.hid hK6
    clear hK6 hb6 hg HFc
    go_wp2
    go_ret2
    exact ⟨HB6.out, .inr ⟨g, HE.out, rfl, hg6, HK6.out⟩⟩

theorem strN_bq {l m : List Nat} (hl : ∀ c ∈ l, c < 256) (hm : ∀ c ∈ m, c < 256) : ((strN l).toList == (strN m).toList) = decide (l = m) := by
  rw [Bool.eq_iff_iff, beq_iff_eq, decide_eq_true_iff]
  constructor
  · intro he
    rw [ByteArray.toList_eq, ByteArray.toList_eq] at he
    have : strN l = strN m := by
      apply ByteArray.ext
      exact Array.toList_inj.1 he
    rw [← bytesOf_strB hl, ← bytesOf_strB hm, this]
  · intro h; rw [h]
theorem Bs.cv {N : Nat} {w : World} {a : Option Addr} {l : List Nat} (h : Bs N w a l) (n cap : Nat) (hn : n = l.length) : (convert 30 9 (.slice a n cap)).run Try.prog w = .ok (.string (strN l)) w :=
  h.conv 30 5 Try.underlying30 Try.underlying5 9 Try.underlying9 n cap hn

set_option maxRecDepth 100000 in
set_option maxHeartbeats 8000000 in
theorem rReadHead_any (l : List Nat) (a : Option Addr) (n cap : Nat) (w : World) (hB : Bs w.heap.size w a l) (hn : n = l.length) (hc : n ≤ cap) (hcm : cap ≤ 9223372036854775807) :
    Calls Try.prog 18 #[.slice a n cap] w fun e w' => e = .returned (headV (readHeadL l)) ∧ Below w.heap.size w w' := by
  by_cases h8 : n = 128
  · subst h8
    have hne : l ≠ [] := by intro h0; rw [h0] at hn; cases hn
    obtain ⟨b, o, rfl, hbN, -⟩ := hB.2.resolve_left hne
    have hv1 := val4 l hB.1 4
    have hv2 := val4 l hB.1 8
    have HG1 := Lib.hid (fun W (hb : Below w.heap.size w W) => number_any ((l.drop 4).take 4) b (o + 4) (cap - 4) W.heap.size W ((((hB.from_ 4).front 4).below hb).mono hb.size) (by rw [List.length_take, List.length_drop, ← hn]; rfl))
    have HG2 := Lib.hid (fun W (hb : Below w.heap.size w W) => number_any ((l.drop 8).take 4) b (o + 8) (cap - 8) W.heap.size W ((((hB.from_ 8).front 4).below hb).mono hb.size) (by rw [List.length_take, List.length_drop, ← hn]; rfl))
    have HR : Hid (readHeadL l = if l.length = 128 ∧ valL ((l.drop 4).take 4) ≤ 4096 ∧ valL ((l.drop 8).take 4) ≤ 4096 ∧ l = headL (valL ((l.drop 4).take 4)) (valL ((l.drop 8).take 4)) then some (valL ((l.drop 4).take 4), valL ((l.drop 8).take 4)) else none) := rfl
    have hs1 : ∀ W, (Instr.slice 30 (.slice (some ⟨b, o, none⟩) 128 cap) (some (.int .i64 4)) (some (.int .i64 8)) none).run Try.prog W = .ok (.slice (some ⟨b, o + 4, none⟩) 4 (cap - 4)) W := fun W => by simpa using cutAt b o 128 cap 4 8 (by omega) (by omega) (by omega) W
    have hs2 : ∀ W, (Instr.slice 30 (.slice (some ⟨b, o, none⟩) 128 cap) (some (.int .i64 8)) (some (.int .i64 12)) none).run Try.prog W = .ok (.slice (some ⟨b, o + 8, none⟩) 4 (cap - 8)) W := fun W => by simpa using cutAt b o 128 cap 8 12 (by omega) (by omega) (by omega) W
    generalize valL ((l.drop 4).take 4) = c at *
    generalize valL ((l.drop 8).take 4) = p at *
    have HHd := Lib.hid (fun W => rhead_any (c : Int) (p : Int) W)
    have HL : Hid (l.length = 128) := hn.symm
    have HBs := Lib.hid hB
    have HS0 := Lib.hid (strN_bq (headL_lt c p) hB.1)
    clear hB hn hne hbN hc hcm
    go_enter Try.func18, Try.ntmps18
    go_wp2_with fail
    refine wp_region_ord [(0, true), (1, true), (3, true), (4, true), (2, false), (5, false), (6, true), (7, true)] (by kernel_rfl) (by kernel_rfl) (by kernel_rfl) (by kernel_rfl) ?_
    repeat (first | (refine wpO_F (v := ?_) rfl (by rfl) (fun w' hL => ?_) ?_; rotate_left; (solve | (go_simp; with_reducible rfl) | go_simp); try simp only [Act.put, List.setIfInBounds_toArray, List.set_cons_zero, List.set_cons_succ]) | (refine wpO_G rfl (by rfl) ?_; try simp only [Act.put, List.setIfInBounds_toArray, List.set_cons_zero, List.set_cons_succ]))
    refine wpO_C rfl (by rfl) ?_
    go_simp
    refine (HG1.out _ ((Below.refl _ _).drew)).mono ?_
    rintro e w1 ⟨rfl, hb1⟩
    refine ⟨hb1, ?_⟩
    try simp only [Act.put, List.setIfInBounds_toArray, List.set_cons_zero, List.set_cons_succ]
    repeat (first | (refine wpO_F (v := ?_) rfl (by rfl) (fun w' hL => ?_) ?_; rotate_left; (solve | (go_simp; with_reducible rfl) | go_simp); try simp only [Act.put, List.setIfInBounds_toArray, List.set_cons_zero, List.set_cons_succ]) | (refine wpO_G rfl (by rfl) ?_; try simp only [Act.put, List.setIfInBounds_toArray, List.set_cons_zero, List.set_cons_succ]))
    refine wpO_C rfl (by rfl) ?_
    go_simp
    refine (HG2.out _ (((Below.refl w.heap.size w).drew).trans hb1)).mono ?_
    rintro e w2 ⟨rfl, hb2⟩
    refine ⟨hb2, ?_⟩
    try simp only [Act.put, List.setIfInBounds_toArray, List.set_cons_zero, List.set_cons_succ]
    repeat (first | (refine wpO_F (v := ?_) rfl (by rfl) (fun w' hL => ?_) ?_; rotate_left; (solve | (go_simp; with_reducible rfl) | go_simp); try simp only [Act.put, List.setIfInBounds_toArray, List.set_cons_zero, List.set_cons_succ]) | (refine wpO_G rfl (by rfl) ?_; try simp only [Act.put, List.setIfInBounds_toArray, List.set_cons_zero, List.set_cons_succ]))
    refine wpO_nil ?_
    have hx1 := ((Below.refl w.heap.size w).drew).trans hb1
    have HB2 : Hid (Below w.heap.size w w2) := hx1.trans (hb2.mono hx1.size)
    clear hx1 hb1 hb2 hs1 hs2 HG1 HG2
    go_wp2_with fail
    refine (HHd.out _).mono ?_
    rintro e w3 ⟨hb3, ⟨hcp, rfl⟩ | ⟨g, hcp, rfl, hg, hK⟩⟩
    · have HE : Hid (readHeadL l = none) := by
        show _ = _
        rw [HR.out, if_neg]
        rintro ⟨-, h1, h2, -⟩
        unfold cntB at hcp
        simp at hcp
        omega
      have HB3 : Hid (Below w.heap.size w w3) := HB2.out.trans (hb3.mono HB2.out.size)
      clear hb3 hcp HHd HS0
      go_wp2
      go_ret3
      exact ⟨by rw [HE.out]; rfl, HB3.out⟩
    · have hcp2 : c ≤ 4096 ∧ p ≤ 4096 := by unfold cntB at hcp; simp at hcp; omega
      have HB3 : Hid (Below w.heap.size w w3) := HB2.out.trans (hb3.mono HB2.out.size)
      have cv1 := (HBs.out.below HB3.out).cv 128 cap HL.out.symm
      have hK' : Blk w3 g 5 (cellsA (headL c p)) := hK
      have cv2 := (hK'.bsA (headL_lt _ _)).cv 128 128 (headL_len _ _).symm
      obtain ⟨D, hD⟩ : ∃ D, decide (headL c p = l) = D := ⟨_, rfl⟩
      have hq := HS0.out
      rw [hD] at hq
      have HE : Hid (readHeadL l = if D then some (c, p) else none) := by
        show _ = _
        rw [HR.out, ← hD]
        by_cases h : l = headL c p
        · rw [if_pos ⟨HL.out, hcp2.1, hcp2.2, h⟩]; simp [h]
        · rw [if_neg (fun hh => h hh.2.2.2)]; simp [Ne.symm h]
      generalize strN (headL c p) = s1 at *
      generalize strN l = s2 at *
      have hnq : (s1.toList != s2.toList) = !D := by rw [bne, hq]
      clear hb3 hcp hcp2 HHd hg hK hK' hD HR HL HBs HS0
      cases D with
      | true =>
        go_wp2
        go_ret3
        exact ⟨by rw [HE.out]; rfl, HB3.out⟩
      | false =>
        go_wp2
        go_ret3
        exact ⟨by rw [HE.out]; rfl, HB3.out⟩
  · have HE : Hid (readHeadL l = none) := by
      show _ = _
      unfold readHeadL
      rw [if_neg (fun hh => h8 (by rw [hn]; exact hh.1))]
    have q : ((n : Int) != 128) = true := by simp; omega
    clear hB hn hc hcm h8
    go_enter Try.func18, Try.ntmps18
    go_wp2
    go_ret3
    exact ⟨by rw [HE.out]; rfl, Below.refl _ _⟩
end Go.Proofs.Ythfgjkmfabmipaa

/- Journal: JournalHot's mathematics; the law's same. -/
set_option linter.unusedSimpArgs false
set_option linter.unusedVariables false
set_option maxRecDepth 100000
namespace Go.Proofs.Ythfgjkmfabmipaa
open Go.RowKit

structure OldI (f g : Nat → Nat) (k : Nat) : Prop where
  ok : (oldK g (DS.begin f) k).1 = 0
  room : (oldK g (DS.begin f) k).2.room 1000000
  pend : (oldK g (DS.begin f) k).2.pend = []
  head : readHeadL (((oldK g (DS.begin f) k).2.dur.get 1 0).getD noughts) = none
  len : (oldK g (DS.begin f) k).2.dur.len 0 = 24
  page : ∀ p j, p < 6 → j < 4 → (oldK g (DS.begin f) k).2.dur.get 0 (4 * p + j) = some (sec (rep (f p)) j)
theorem oldI_all (f g : Nat → Nat) (k : Nat) (hk : k ≤ 3) : OldI f g k := by
  have h := oldOk_all f g k hk
  unfold oldOk at h
  simp only [Bool.and_eq_true, beq_iff_eq, decide_eq_true_eq, Option.isNone_iff_eq_none] at h
  obtain ⟨⟨⟨⟨h1, h2⟩, h3⟩, h4⟩, h5⟩ := h
  refine ⟨h1, ⟨by omega, by omega⟩, List.length_eq_zero_iff.1 h3, h4, h5, fun p j hp hj => ?_⟩
  have := congrArg (fun l : List (Option (List Nat)) => l[4 * p + j]?) (oldPages_all f g k hk)
  simp only [List.getElem?_map, List.getElem?_range (show 4 * p + j < 24 by omega), Option.map_some, Option.some.injEq] at this
  rw [this, show (4 * p + j) / 4 = p by omega, show (4 * p + j) % 4 = j by omega]

/-- What JournalHot asks, of disks as values. -/
theorem hot_all (f g : Nat → Nat) (k : Nat) (hk : k ≤ 3) (n : Nat) (L : List En) (keep : List Nat) (hL : L.map enX = pagesE f 6) (hok : ∀ x ∈ L, (0 ≤ x.p ∧ x.p < 4096) ∧ x.n = 512 ∧ x.l.length = 512) :
    let F := ((oldK g (DS.begin f) k).2.fail (n : Int)).2
    F.room 100 ∧ (((F.save L 6).1 ≠ 0 ∧ ((F.save L 6).2.crash keep).load = .ok none) ∨ ((F.save L 6).2.crash keep).load = .ok (some (pagesE f 6, 6))) ∧
      ∀ p : Nat, p < 6 → ((F.save L 6).2.crash keep).readPage (p : Int) = .ok (rep (f p)) := by
  obtain ⟨h1, h2, h3, h4, h5, h6⟩ := oldI_all f g k hk
  generalize (oldK g (DS.begin f) k).2 = D at *
  have hF : (D.fail (n : Int)).2 = { D with left := some n } := by
    unfold DS.fail
    rw [if_neg (by omega)]; rfl
  intro F
  have hF' : F = { D with left := some n } := hF
  have hc : Calm F D.dur := by
    rw [hF']
    exact ⟨h4, fun _ => rfl, rfl, by rw [show ({ D with left := some n } : DS).pend = [] from h3]; intro x hx; cases hx⟩
  have hp : F.pend = [] := by rw [hF']; exact h3
  have hlen : L.length = 6 := by have := congrArg List.length hL; rw [List.length_map, pagesE_len] at this; exact this
  have hall : L.all En.ok = true := by
    rw [List.all_eq_true]
    intro x hx
    obtain ⟨a1, a2, -⟩ := hok x hx
    unfold En.ok pgB
    simp
    omega
  obtain ⟨a1, a2, a3⟩ := save_crash hc hp L 6 keep (by omega) (by omega) hall (fun x hx => ⟨(hok x hx).1, (hok x hx).2.2⟩)
  refine ⟨by rw [hF']; exact ⟨by have := h2.1; show D.calls + 100 < _; omega, by have := h2.2; show D.pend.length + 100 < _; omega⟩, ?_, fun p hp => ?_⟩
  · rw [hL] at a1
    exact a1
  · refine readPage_up rfl p _ (by omega) (by simp [rep]) ?_ fun j hj => ?_
    · have a3 : ((F.save L 6).2.crash keep).vis.len 0 = 24 := a3.trans h5
      omega
    · exact (a2 _).trans (h6 p j hp hj)

set_option maxRecDepth 100000 in
set_option maxHeartbeats 8000000 in
theorem same_any {w0 w : World} {B : Nat} {d : DS} {ea : Option Addr} {ec : Nat} {E : List En} {f : Nat → Nat} (h : Has w0 w B d (.slice ea 6 ec) E) (hE : E.map enX = pagesE f 6) (hR : ∀ p : Nat, p < 6 → d.readPage (p : Int) = .ok (rep (f p))) :
    Calls Try.prog 30 #[.pointer (some ⟨B, 0, none⟩), .slice ea 6 ec] w fun e w' => e = .returned (.bool true) ∧ Below w.heap.size w w' := by
  have hlen : E.length = 6 := by have := congrArg List.length hE; rw [List.length_map, pagesE_len] at this; exact this
  obtain ⟨b, o, rfl⟩ : ∃ b o, ea = some ⟨b, o, none⟩ := by
    obtain ⟨_, _, e1, g1, g2, harr⟩ := own_slice h.row
    injection e1 with e1 e2 e3
    subst e1
    obtain ⟨b, o, ha, -⟩ := enAt harr (k := 0) (by omega)
    exact ⟨b, o, ha⟩
  have HEn : Hid (∀ k, k < 6 → ∃ g, w.cell? ⟨b, o + k * 2 + 1, none⟩ = some (.slice (some ⟨g, 0, none⟩) 512 512) ∧ Bs w.heap.size w (some ⟨g, 0, none⟩) (rep (f k))) := fun k hk => by
    obtain ⟨_, _, e1, g1, g2, harr⟩ := own_slice h.row
    injection e1 with e1 e2 e3
    subst e1
    obtain ⟨b', o', ha, -, -, hc⟩ := enAt harr (k := k) (by omega)
    injection ha with ha; injection ha with q1 q2; subst q1 q2
    have hm : E[k]'(by omega) ∈ E := List.getElem_mem _
    obtain ⟨g, r1, r2, r3, -, -, -, r7, r8⟩ := h.good _ hm
    have hx := congrArg (fun l : List (Nat × List Nat) => l[k]?) hE
    simp only [List.getElem?_map, List.getElem?_eq_getElem (show k < E.length by omega), Option.map_some, pagesE_get f 6 k hk, Option.some.injEq] at hx
    have hl : (E[k]'(by omega)).l = rep (f k) := congrArg Prod.snd hx
    rw [r1, r2, r3] at hc
    refine ⟨g, hc, ?_⟩
    have := r8.bsA r7
    rw [hl] at this
    exact this
  have HRd : Hid (∀ (k : Nat) W, Below w.heap.size w W → k < 6 → Calls Try.prog 19 #[.pointer (some ⟨B, 0, none⟩), .int .i64 (k : Int)] W (RetPg W (.ok (rep (f k))))) := fun k W hb hk => by
    obtain ⟨hb1, S, hD, hS⟩ := h.disk.below hb
    have := ReadPage_any hD (k : Int)
    rw [hR k hk] at this
    exact this
  clear h hE hR hlen
  go_enter Try.func30, Try.ntmps30
  go_wp2
  go_loopw [5] (fun i wr => ∃ k : Nat, k ≤ 6 ∧ i = .int .i64 (k : Int) ∧ Hid (Below w.heap.size w wr)) (fun i _ => 6 - (intOf i).toNat)
  case atStart => exact ⟨0, by omega, rfl, Below.refl _ _⟩
  case round =>
    obtain ⟨k, hk, rfl, HB⟩ := hrel
    by_cases hlt : k < 6
    · have HR := Lib.hid (HRd.out k wr HB.out hlt)
      go_wp2_with fail
      refine HR.out.mono ?_
      rintro e w3 ⟨hb3, ⟨n, hx, -⟩ | ⟨l, g3, hx, rfl, hg3, hl3, hl4, hK3⟩⟩
      · cases hx
      · injection hx with hx
        subst hx
        have HB3 := Lib.hid (HB.out.trans (hb3.mono HB.out.size))
        obtain ⟨g, hc0, hBs⟩ := HEn.out k hlt
        have hc : w3.cell? ⟨b, o + k * 2 + 1, none⟩ = some (.slice (some ⟨g, 0, none⟩) 512 512) := by
          rw [← hc0]
          exact World.cell?_of_block (w := w) (a := ⟨b, o + k * 2 + 1, none⟩) (HB3.out.block b (World.block_lt_of_cell? _ _ hc0))
        have cv1 : ∀ q, (convert 30 9 (.slice (some ⟨g3, 0, none⟩) 512 512)).run Try.prog (w3.drewN q) = .ok (.string (strN (rep (f k)))) (w3.drewN q) := fun q => (Bs.below (w' := w3.drewN q) (hK3.bsA hl4) ⟨rfl, rfl, rfl, Nat.le_refl _, fun _ _ => rfl⟩).cv 512 512 (by simp [rep])
        have cv2 : ∀ q, (convert 30 9 (.slice (some ⟨g, 0, none⟩) 512 512)).run Try.prog (w3.drewN q) = .ok (.string (strN (rep (f k)))) (w3.drewN q) := fun q => (Bs.below (w' := w3.drewN q) (hBs.below HB3.out) ⟨rfl, rfl, rfl, Nat.le_refl _, fun _ _ => rfl⟩).cv 512 512 (by simp [rep])
        clear hb3 HR hg3 hl3 hl4 hK3 hc0 hBs HB
        go_wp2_with fail
        go_quiet (fail)
        go_wp2
        go_roundw
        case rel => exact ⟨k + 1, by omega, by go_num, HB3.out.trans ⟨rfl, rfl, rfl, Nat.le_refl _, fun _ _ => rfl⟩⟩
        case measure => simp [intOf]; omega
    · go_wp2
      go_ret
      exact ⟨rfl, HB.out⟩
end Go.Proofs.Ythfgjkmfabmipaa

/- Journal: the walk of the law JournalHot. -/
set_option linter.unusedSimpArgs false
set_option linter.unusedVariables false
set_option maxRecDepth 100000
namespace Go.Proofs.Ythfgjkmfabmipaa
open Go.RowKit

section
variable {w0 w : World} {B : Nat} {d : DS} {v : Value} {E : List En}
theorem Has.clear (h : Has w0 w B d v E) (hr : d.room 10) : Calls Try.prog 23 #[.pointer (some ⟨B, 0, none⟩)] w fun e w' => e = .returned (.int .i64 (d.clear.1 : Int)) ∧ Has w0 w' B d.clear.2 v E := by
  obtain ⟨hb1, S, hD, hS⟩ := h.disk
  exact (Clear_any hD (hr.mono (by omega))).mono fun _ _ hr => h.step hD hS hr
theorem Has.fail (h : Has w0 w B d v E) (n : Int) (hn : n ≤ 9223372036854775807) : Calls Try.prog 29 #[.pointer (some ⟨B, 0, none⟩), .int .i64 n] w fun e w' => e = .returned (.int .i64 ((d.fail n).1 : Int)) ∧ Has w0 w' B (d.fail n).2 v E := by
  obtain ⟨hb1, S, hD, hS⟩ := h.disk
  exact (DFail hD n hn).mono fun _ _ hr => h.step hD hS hr
theorem Has.crash (h : Has w0 w B d v E) (l : List Nat) (a : Option Addr) (n cap N : Nat) (hB : Bs N w a l) (hN : N ≤ w.heap.size) (hn : n = l.length) (hnm : n ≤ 1000000000000) : Calls Try.prog 28 #[.pointer (some ⟨B, 0, none⟩), .slice a n cap] w fun e w' => e = .returned (.int .i64 0) ∧ Has w0 w' B (d.crash l) v E := by
  obtain ⟨hb1, S, hD, hS⟩ := h.disk
  exact (DCrash hD l a n cap N hB hN hn hnm).mono fun _ _ hr => h.step hD hS hr
theorem EnGood.in_ {N : Nat} {S : List Nat} {e : En} (h : EnGood N w e) (hD : IsDisk w B S d) : EnIn w S e := by
  obtain ⟨g, h1, h2, h3, h4, h5, h6, h7, h8⟩ := h
  refine ⟨?_, by rw [h2, h6], by rw [h2, h3]; omega, by rw [h3]; omega, fun x hx => ?_⟩
  · rw [h1]; exact h8.bsA h7
  · rw [h1] at hx
    injection hx with hx
    subst hx
    exact ⟨disk_blk hD h8, h8.lt⟩
/-- The entries are saved. -/
theorem Has.save {ea : Option Addr} {ec : Nat} (h : Has w0 w B d (.slice ea 6 ec) E) (hE : E.length = 6) (hr : d.room 100) : Calls Try.prog 22 #[.pointer (some ⟨B, 0, none⟩), .slice ea 6 ec, .int .i64 6] w fun e w' => e = .returned (.int .i64 ((d.save E 6).1 : Int)) ∧ Has w0 w' B (d.save E 6).2 (.slice ea 6 ec) E := by
  obtain ⟨hb1, S, hD, hS⟩ := h.disk
  obtain ⟨_, _, e1, g1, g2, harr⟩ := own_slice h.row
  injection e1 with e1 e2 e3
  subst e1
  refine (Save_any hD E ea 6 ec 6 harr hE.symm (by omega) (fun g hg => ?_) (fun x hx => (h.good x hx).in_ hD) (hr.mono (by omega))).mono fun _ _ hr => h.step hD hS hr
  obtain ⟨b, o, ha, hb, -⟩ := enAt harr (k := 0) (by omega)
  rw [ha] at hg
  injection hg with hg
  subst hg
  have hob : (Value.slice ea 6 ec).ownBlock = some b := by rw [ha]; rfl
  exact ⟨disk_own hD h.row b hob, hb⟩
/-- One older entry is saved. -/
theorem Has.old (h : Has w0 w B d v E) (g : Nat → Nat) (k g2 x : Nat) (hk : k < 6) (hR : Arr w.heap.size w (some ⟨x, 0, none⟩) (cellsE (oldE g k (some ⟨g2, 0, none⟩)))) (hx : Blk w x 63 (cellsE (oldE g k (some ⟨g2, 0, none⟩))).toArray) (hK : Blk w g2 5 (cellsA (rep (g k)))) (hg : g k < 256) (hr : d.room 100) :
    Calls Try.prog 22 #[.pointer (some ⟨B, 0, none⟩), .slice (some ⟨x, 0, none⟩) 1 1, .int .i64 6] w fun e w' => e = .returned (.int .i64 ((d.save (oldE g k none) 6).1 : Int)) ∧ Has w0 w' B (d.save (oldE g k none) 6).2 v E := by
  obtain ⟨hb1, S, hD, hS⟩ := h.disk
  have hrep : ∀ c ∈ rep (g k), c < 256 := by intro c hc; rw [List.eq_of_mem_replicate hc]; exact hg
  have hxS : x ∉ S := by
    obtain ⟨Mv, Md, pv, hD, rfl⟩ := hD
    intro hm
    unfold footD at hm
    simp only [List.mem_cons, Option.mem_toList] at hm
    rcases hm with rfl | rfl | rfl | hm
    · exact Blk.ne_ hD.blk hx (by decide) rfl
    · exact hD.vis.ne_blk hx rfl
    · exact hD.dur.ne_blk hx rfl
    · exact own_ne hD.pend hx (by decide) hm
  have := Save_any hD (oldE g k (some ⟨g2, 0, none⟩)) (some ⟨x, 0, none⟩) 1 1 6 hR rfl (by omega) (fun y hy => by injection hy with hy; subst hy; exact ⟨hxS, hx.lt⟩) (fun e he => by
    rw [List.mem_singleton.1 he]
    refine ⟨hK.bsA hrep, by simp [rep], by simp, by simp, fun y hy => ?_⟩
    injection hy with hy; subst hy
    exact ⟨disk_blk hD hK, hK.lt⟩) (hr.mono (by simp [oldE]))
  rw [oldE_save] at this
  exact this.mono fun _ _ hr => h.step hD hS hr
end

theorem oldK_succ (f g : Nat → Nat) (k : Nat) (hk : k < 3) : (oldK g (DS.begin f) (k + 1)) = ((oldK g (DS.begin f) k).2.save (oldE g k none) 6).2.clear := by
  show thenD _ _ = _
  rw [thenD_ok (oldI_all f g k (by omega)).ok, thenD_ok (oldSave_all f g k hk)]
end Go.Proofs.Ythfgjkmfabmipaa

/- Journal: what the row of entries tells in memory (for JournalHot's hot case). -/
set_option linter.unusedSimpArgs false
set_option linter.unusedVariables false
set_option maxRecDepth 100000
namespace Go.Proofs.Ythfgjkmfabmipaa
open Go.RowKit

theorem rowFacts {w : World} {base N n : Nat} {a : Option Addr} {cap : Nat} {E : List En} {f : Nat → Nat} (h : w.ownsRow base 63 2 (.slice a 6 cap) n (cellsE E)) (hg : ∀ e ∈ E, EnGood N w e) (hE : E.map enX = pagesE f 6) :
    ∃ b o, a = some ⟨b, o, none⟩ ∧ ∀ k, k < 6 → w.cell? ⟨b, o + k * 2, none⟩ = some (.int .i64 (k : Int)) ∧ ∃ g, w.cell? ⟨b, o + k * 2 + 1, none⟩ = some (.slice (some ⟨g, 0, none⟩) 512 512) ∧ Bs w.heap.size w (some ⟨g, 0, none⟩) (rep (f k)) := by
  have hlen : E.length = 6 := by have := congrArg List.length hE; rw [List.length_map, pagesE_len] at this; exact this
  obtain ⟨_, _, e1, g1, g2, harr⟩ := own_slice h
  injection e1 with e1 e2 e3
  subst e1
  obtain ⟨b, o, ha, -⟩ := enAt harr (k := 0) (by omega)
  refine ⟨b, o, ha, fun k hk => ?_⟩
  obtain ⟨b', o', ha', -, hp, hc⟩ := enAt harr (k := k) (by omega)
  rw [ha] at ha'
  injection ha' with ha'; injection ha' with q1 q2; subst q1 q2
  have hm : E[k]'(by omega) ∈ E := List.getElem_mem _
  obtain ⟨g, r1, r2, r3, -, r5, -, r7, r8⟩ := hg _ hm
  have hx := congrArg (fun l : List (Nat × List Nat) => l[k]?) hE
  simp only [List.getElem?_map, List.getElem?_eq_getElem (show k < E.length by omega), Option.map_some, pagesE_get f 6 k hk, Option.some.injEq] at hx
  have hl : (E[k]'(by omega)).l = rep (f k) := congrArg Prod.snd hx
  have hpn : (E[k]'(by omega)).p.toNat = k := congrArg Prod.fst hx
  have hpk : (E[k]'(by omega)).p = (k : Int) := by have := r5.1; omega
  rw [r1, r2, r3] at hc
  rw [hpk] at hp
  refine ⟨hp, g, hc, ?_⟩
  have := r8.bsA r7
  rw [hl] at this
  exact this
theorem rowAt {w W : World} {b o : Nat} {f : Nat → Nat} (hb : Below w.heap.size w W) (h : ∀ k, k < 6 → w.cell? ⟨b, o + k * 2, none⟩ = some (.int .i64 (k : Int)) ∧ ∃ g, w.cell? ⟨b, o + k * 2 + 1, none⟩ = some (.slice (some ⟨g, 0, none⟩) 512 512) ∧ Bs w.heap.size w (some ⟨g, 0, none⟩) (rep (f k))) (k : Nat) (hk : k < 6) :
    W.cell? ⟨b, o + k * 2, none⟩ = some (.int .i64 (k : Int)) ∧ ∃ g, W.cell? ⟨b, o + k * 2 + 1, none⟩ = some (.slice (some ⟨g, 0, none⟩) 512 512) ∧ ∀ q, (convert 30 9 (.slice (some ⟨g, 0, none⟩) 512 512)).run Try.prog (W.drewN q) = .ok (.string (strN (rep (f k)))) (W.drewN q) := by
  obtain ⟨h1, g, h2, h3⟩ := h k hk
  refine ⟨?_, g, ?_, fun q => (Bs.below (w' := W.drewN q) (h3.below hb) ⟨rfl, rfl, rfl, Nat.le_refl _, fun _ _ => rfl⟩).cv 512 512 (by simp [rep])⟩
  · rw [← h1]
    exact World.cell?_of_block (w := w) (a := ⟨b, o + k * 2, none⟩) (hb.block b (World.block_lt_of_cell? _ _ h1))
  · rw [← h2]
    exact World.cell?_of_block (w := w) (a := ⟨b, o + k * 2 + 1, none⟩) (hb.block b (World.block_lt_of_cell? _ _ h2))
end Go.Proofs.Ythfgjkmfabmipaa
