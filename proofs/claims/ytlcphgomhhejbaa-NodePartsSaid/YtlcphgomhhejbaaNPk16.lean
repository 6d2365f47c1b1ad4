/- Several texts of one proof, one behind the other. -/
import Derived.Test.YtlcphgomhhejbaaNPk15
import Derived.Deep.Cut
import Derived.IntWalk
set_option linter.unusedSimpArgs false
set_option linter.unusedVariables false

/- The walk of node.Read. -/
namespace Go.Proofs.Ytlcphgomhhejbaa
open Go.RowKit

/-- What is behind the parts must be zeros, and the node right. -/
noncomputable def tailN (b : List Nat) (kid : Nat) (leaf : Bool) : Option (List Pt × Nat) → Option Rn
  | none => none
  | some (l, q) => if (b.drop q).all (· == 0) && (Rn.mk leaf kid l).ok then some ⟨leaf, kid, l⟩ else none
/-- The node that would be written so. -/
noncomputable def decN (b : List Nat) : Option Rn :=
  if b.length = 512 then
    if valL (cutL b 0 1) = 1 then tailN b 0 true (decs true b 3 (valL (cutL b 1 2)))
    else if valL (cutL b 0 1) = 2 then tailN b (valL (cutL b 3 4)) false (decs false b 7 (valL (cutL b 1 2)))
    else none
  else none
noncomputable def rdNd (b : List Nat) : Nd × Int := match decN b with
  | some x => (x.asN, 0)
  | none => (zeroN, 3)
def RetRd (w : World) (b : List Nat) (e : Ending) (w' : World) : Prop :=
  ∃ m : NB, e = .returned (.tuple #[m.v (rdNd b).1.leaf, .int .i64 (rdNd b).2]) ∧ NAt w' (rdNd b).1 m ∧ m.kl ≤ 100000 ∧ Below w.heap.size w w'

theorem rdNd_no {b : List Nat} (h : decN b = none) : rdNd b = (zeroN, 3) := by unfold rdNd; rw [h]
theorem rdNd_yes {b : List Nat} {x : Rn} (h : decN b = some x) : rdNd b = (x.asN, 0) := by unfold rdNd; rw [h]
theorem asN_leaf (x : Rn) : x.asN.leaf = x.leaf := by
  unfold Rn.asN
  cases x.leaf <;> rfl
theorem RetRd.no {w w' : World} {b : List Nat} (h : decN b = none) (hb : Below w.heap.size w w') : RetRd w b (.returned (.tuple #[.agg #[.bool false, .slice none 0 0, .slice none 0 0, .slice none 0 0], .int .i64 3])) w' :=
  ⟨zeroNB, by rw [rdNd_no h]; rfl, by rw [rdNd_no h]; exact NAt_zero _, by simp [zeroNB], hb⟩
theorem RetRd.yes {w w' : World} {b : List Nat} {x : Rn} {m : NB} (h : decN b = some x) (hn : NAt w' x.asN m) (hk : m.kl ≤ 100000) (hb : Below w.heap.size w w') : RetRd w b (.returned (.tuple #[m.v x.leaf, .int .i64 0])) w' :=
  ⟨m, by rw [rdNd_yes h, asN_leaf], by rw [rdNd_yes h]; exact hn, hk, hb⟩

theorem ok_asN {x : Rn} (h : x.plain) : x.asN.ok = x.ok := by
  have h1 := ok_iff x.asN
  have h2 := asR_asN h
  rw [h2.1] at h1
  unfold Nd.ok Rn.ok
  exact decide_eq_decide.2 (h1.trans ⟨fun h => h.2, fun h => ⟨h2.2, h⟩⟩)
theorem decs_plain {b : List Nat} {st : Nat} : ∀ {i : Nat} {l : List Pt} {q : Nat}, decs false b st i = some (l, q) → ∀ p ∈ l, p.len = 0 ∧ p.data = ⟨#[]⟩
  | 0, l, q, h => by simp [decs] at h; intro p hp; rw [h.1] at hp; simp at hp
  | i + 1, l, q, h => by
    unfold decs at h
    cases h1 : decs false b st i with
    | none => rw [h1] at h; simp at h
    | some r =>
      obtain ⟨l', p'⟩ := r
      rw [h1] at h
      cases h2 : decP false b p' with
      | none => simp [h2] at h
      | some r2 =>
        obtain ⟨x, q'⟩ := r2
        simp [h2] at h
        have hx : x.len = 0 ∧ x.data = ⟨#[]⟩ := by
          unfold decP at h2
          simp only [Bool.false_eq_true, if_false, Bool.false_and] at h2
          split at h2
          · simp at h2
          · split at h2
            · simp at h2
            · simp only [Option.some.injEq, Prod.mk.injEq] at h2
              rw [← h2.1]
              exact ⟨rfl, rfl⟩
        intro p hp
        rw [← h.1] at hp
        rcases List.mem_append.1 hp with hp | hp
        · exact decs_plain h1 p hp
        · simp at hp; subst hp; exact hx

theorem Blk.st4 {w : World} {g : Nat} {t : TypeId} {c0 c1 c2 c3 : Value} (h : Blk w g t #[c0, c1, c2, c3]) (v0 v1 v2 v3 : Value) : Blk (set4 w g v0 v1 v2 v3) g t #[v0, v1, v2, v3] := by
  have := (((h.set_ 0 v0).set_ 1 v1).set_ 2 v2).set_ 3 v3
  unfold set4; simpa using this
theorem Blk.st4_far {w : World} {g b : Nat} {t : TypeId} {cs : Array Value} (h : Blk w g t cs) (hp : g ≠ b) (v0 v1 v2 v3 : Value) : Blk (set4 w b v0 v1 v2 v3) g t cs :=
  (((h.far hp v0).far hp v1).far hp v2).far hp v3
theorem rdr_new (w : World) (o o2 : Obj) (s : ByteArray) : Rdr (((w.alloc o).alloc (.cells #[.string s, .int .i64 0, .bool true] 78)).alloc o2) (w.heap.size + 1) s 0 true := by
  have := (Blk.new (w.alloc o) 78 #[.string s, .int .i64 0, .bool true]).alloc o2
  simp only [World.alloc, Array.size_push] at this ⊢
  exact this
theorem read_blks (w : World) (o o2 : Obj) (T : TypeId) (z : Array Value) : Blk (((w.alloc (.cells z T)).alloc o2).alloc (.cells z T)) w.heap.size T z ∧ Blk (((w.alloc (.cells z T)).alloc o2).alloc (.cells z T)) (w.heap.size + 1 + 1) T z := by
  have h1 := ((Blk.new w T z).alloc o2).alloc (.cells z T)
  have h2 := Blk.new ((w.alloc (.cells z T)).alloc o2) T z
  refine ⟨h1, ?_⟩
  simp only [World.alloc, Array.size_push] at h2 ⊢
  exact h2
theorem set4_size (w : World) (b : Nat) (v0 v1 v2 v3 : Value) : (set4 w b v0 v1 v2 v3).heap.size = w.heap.size := by simp [set4, World.setCell]

set_option maxRecDepth 100000 in
set_option maxHeartbeats 2000000 in
theorem read_len (b : List Nat) (a : Option Addr) (n cap : Nat) (w : World) (hn : n = b.length) (hno : b.length ≠ 512) (hmax : n ≤ 9223372036854775807) :
    Calls Try.prog 17 #[.slice a n cap] w (RetRd w b) := by
  have hd : decN b = none := by unfold decN; rw [if_neg hno]
  have HX : Hid (∀ W, Below w.heap.size w W → RetRd w b (.returned (.tuple #[.agg #[.bool false, .slice none 0 0, .slice none 0 0, .slice none 0 0], .int .i64 3])) W) := fun W hb => RetRd.no hd hb
  have q : ((n : Int) != 512) = true := by simp; omega
  generalize RetRd w b = RR at *
  clear hn hno hd
  go_enter Try.func17, Try.ntmps17
  go_wp2
  refine bodyPost_ret (v := .tuple #[.agg #[.bool false, .slice none 0 0, .slice none 0 0, .slice none 0 0], .int .i64 3]) (by simp [results, Try.results17, go_sem]) rfl (HX.out _ (Below.box _ _))

set_option maxRecDepth 100000 in
set_option maxHeartbeats 4000000 in
theorem read_other (b : List Nat) (a : Option Addr) (cap : Nat) (w : World) (hB : Bs w.heap.size w a b) (hl : b.length = 512) (hcap : 512 ≤ cap) (h1 : valL (cutL b 0 1) ≠ 1) (h2 : valL (cutL b 0 1) ≠ 2) :
    Calls Try.prog 17 #[.slice a 512 cap] w (RetRd w b) := by
  have hst : bytesOf (strN b) = b := bytesOf_strB hB.1
  have hs : (strN b).size = 512 := by rw [strN_size, hl]
  have HCV := Lib.hid (fun W (hb : Below w.heap.size w W) => (hB.below hb).conv 27 5 Try.underlying27 Try.underlying5 9 Try.underlying9 512 cap hl.symm)
  have hcv := HCV.out _ (Below.box w (.cells #[.bool false, .slice none 0 0, .slice none 0 0, .slice none 0 0] 26))
  have HN := fun W (hW : Rdr W (w.heap.size + 1) (strN b) 0 true) => rnumber_any (w.heap.size + 1) (strN b) 0 1 true 1 W rfl hW (by omega) (by omega) (by omega)
  rw [rdN_fit (show 0 + 1 ≤ (strN b).size by omega), hst] at HN
  have HN := Lib.hid HN
  have HNo : Hid (∀ W, Below w.heap.size w W → decN b = none → RetRd w b (.returned (.tuple #[.agg #[.bool false, .slice none 0 0, .slice none 0 0, .slice none 0 0], .int .i64 3])) W) := fun W hb hd => RetRd.no hd hb
  have HYes : Hid (∀ (x : Rn) (m : NB) W, decN b = some x → NAt W x.asN m → m.kl ≤ 100000 → Below w.heap.size w W → RetRd w b (.returned (.tuple #[m.v x.leaf, .int .i64 0])) W) := fun x m W h1 h2 h3 h4 => RetRd.yes h1 h2 h3 h4
  have hd : decN b = none := by unfold decN; rw [if_pos hl, if_neg h1, if_neg h2]
  have HD := Lib.hid hd
  obtain ⟨v, hv⟩ : ∃ v, valL (cutL b 0 1) = v := ⟨_, rfl⟩
  rw [hv] at h1 h2 HN
  have q1 : ((v : Int) == 1) = false := by simp; omega
  have q2 : ((v : Int) == 2) = false := by simp; omega
  clear hd hv
  obtain ⟨s, hss⟩ : ∃ s, strN b = s := ⟨_, rfl⟩
  rw [hss] at hs hst HN hcv
  have HST := Lib.hid hst
  have HS := Lib.hid hs
  clear hB HCV hss hst
  generalize RetRd w b = RR at *
  go_enter Try.func17, Try.ntmps17
  go_wp2_with fail
  refine (HN.out _ ?_).mono ?_
  · exact rdr_new w _ _ s
  rintro e w1 ⟨rfl, hR, hC⟩
  obtain ⟨hb0, hb2⟩ := read_blks w (.cells #[.bool false, .slice none 0 0, .slice none 0 0, .slice none 0 0] 26) (.cells #[.string s, .int .i64 0, .bool true] 78) 26 #[.bool false, .slice none 0 0, .slice none 0 0, .slice none 0 0]
  have hE : Below w.heap.size w w1 := Below.trans ((((Below.refl _ w).alloc (Nat.le_refl _) _).alloc (by simp) _).alloc (by simp; omega) _) (hC.below (by simp; omega) (by simp))
  have B0 := hb0.chg hC (by simp)
  have r0 : w1.cell? ⟨w.heap.size, 0, none⟩ = some (.bool false) := B0.cell 0
  have r1 : w1.cell? ⟨w.heap.size, 1, none⟩ = some (.slice none 0 0) := B0.cell 1
  have r2 : w1.cell? ⟨w.heap.size, 2, none⟩ = some (.slice none 0 0) := B0.cell 2
  have r3 : w1.cell? ⟨w.heap.size, 3, none⟩ = some (.slice none 0 0) := B0.cell 3
  have f0 := B0.frozen 0
  have f1 := B0.frozen 1
  have f2 := B0.frozen 2
  have f3 := B0.frozen 3
  have hlt : w.heap.size < w1.heap.size := B0.lt
  have HFin : Hid (∀ v0 v1 v2 v3, RR (.returned (.tuple #[.agg #[.bool false, .slice none 0 0, .slice none 0 0, .slice none 0 0], .int .i64 3])) (set4 w1 w.heap.size v0 v1 v2 v3)) := fun v0 v1 v2 v3 => HNo.out _ (set4_below hE (Nat.le_refl _) _ _ _ _) HD.out
  clear hR hC hb0 hb2 hE B0
  go_wp2
  refine bodyPost_ret (v := .tuple #[.agg #[.bool false, .slice none 0 0, .slice none 0 0, .slice none 0 0], .int .i64 3]) (by simp [results, Try.results17, go_sem, r0, r1, r2, r3, hlt]) rfl (HFin.out _ _ _ _)
end Go.Proofs.Ytlcphgomhhejbaa

/- The walks of fixed.Put and fixed.Get. -/
namespace Go.Proofs.Ytlcphgomhhejbaa
open Go.RowKit

def byteV (c : Nat) : Value := .int .u8 (c : Int)
/-- The cells with the bytes l from a place on. -/
def putB (cs : Array Value) (at_ : Nat) (l : List Nat) : Array Value := (cs.toList.take at_ ++ (l.map byteV ++ cs.toList.drop (at_ + l.length))).toArray

theorem putB_size (cs : Array Value) (at_ : Nat) (l : List Nat) (h : at_ + l.length ≤ cs.size) : (putB cs at_ l).size = cs.size := by
  simp [putB]; omega
theorem putB_nil (cs : Array Value) (at_ : Nat) : putB cs at_ [] = cs := by
  apply Array.toList_inj.1
  simp [putB]
theorem putB_cons (cs : Array Value) (at_ : Nat) (c : Nat) (l : List Nat) (h : at_ + 1 + l.length ≤ cs.size) : (putB cs (at_ + 1) l).setIfInBounds at_ (byteV c) = putB cs at_ (c :: l) := by
  apply Array.toList_inj.1
  have h1 : at_ < cs.toList.length := by simp; omega
  have h2 : cs.toList.take (at_ + 1) = cs.toList.take at_ ++ [cs.toList[at_]] := List.take_succ_eq_append_getElem h1
  have h3 : (cs.toList.take at_).length = at_ := by rw [List.length_take]; omega
  simp only [putB, List.setIfInBounds_toArray]
  rw [h2, List.append_assoc, List.set_append_right _ _ (by omega)]
  simp only [h3, Nat.sub_self, List.cons_append, List.nil_append, List.set_cons_zero, List.map_cons, List.length_cons]
  rw [show at_ + 1 + l.length = at_ + (l.length + 1) by omega]
theorem putB_get (cs : Array Value) (at_ : Nat) (l : List Nat) (i : Nat) (h : at_ + l.length ≤ cs.size) (hi : i < at_) : (putB cs at_ l)[i]? = cs[i]? := by
  have h3 : (cs.toList.take at_).length = at_ := by rw [List.length_take]; simp; omega
  simp only [putB, List.getElem?_toArray]
  rw [List.getElem?_append_left (by omega), List.getElem?_take, if_pos hi]
  simp

theorem byteV_shr (n k : Nat) : (Value.int .u8 ((n : Int) / 2 ^ (8 * k) % 256)) = byteV (n / 256 ^ k % 256) := by
  unfold byteV
  congr 1
  have h2 : (2 : Nat) ^ (8 * k) = 256 ^ k := by rw [Nat.pow_mul]
  rw [← h2, Int.natCast_emod, Int.natCast_ediv, Int.natCast_pow]
  rfl

/-- A call that hands back nothing has laid bytes in block g. -/
def RetPut (w : World) (g : Nat) (T : TypeId) (cs : Array Value) (o s n : Nat) (e : Ending) (w' : World) : Prop :=
  e = .returned (.tuple #[]) ∧ Blk w' g T (putB cs o (beL s n)) ∧ Chg [g] w w'

set_option maxHeartbeats 1000000 in
theorem Put_any (g o s c n : Nat) (T : TypeId) (cs : Array Value) (w : World) (hB : Blk w g T cs) (ho : o + s ≤ cs.size) (hby : ∀ i, o ≤ i → i < o + s → ∃ d : Int, cs[i]? = some (.int .u8 d)) (hs : s ≤ 7) (hn : n < 9223372036854775808) :
    Calls Try.prog 64 #[.slice (some ⟨g, o, none⟩) s c, .int .i64 (n : Int)] w (RetPut w g T cs o s n) := by
  have HB := Lib.hid hB
  have HBy := Lib.hid hby
  clear hB hby
  have HP : ∀ k, k < s → Hid ((putB cs (o + (s - k)) (beL k n)).setIfInBounds (o + (s - 1 - k)) (byteV (n / 256 ^ k % 256)) = putB cs (o + (s - (k + 1))) (beL (k + 1) n)) := by
    intro k hk
    have := putB_cons cs (o + (s - 1 - k)) (n / 256 ^ k % 256) (beL k n) (by rw [beL_len]; omega)
    rw [show o + (s - 1 - k) + 1 = o + (s - k) by omega] at this
    rw [beL_cons, show o + (s - (k + 1)) = o + (s - 1 - k) by omega]
    exact this
  have HG : ∀ k, k < s → Hid (∃ d : Int, (putB cs (o + (s - k)) (beL k n))[o + (s - 1 - k)]? = some (.int .u8 d)) := by
    intro k hk
    show ∃ d : Int, _
    rw [putB_get cs _ _ _ (by rw [beL_len]; omega) (by omega)]
    exact HBy.out _ (by omega) (by omega)
  go_enter Try.func64, Try.ntmps64
  go_wp2
  go_loopw [7] (fun iv wr => ∃ k : Nat, k ≤ s ∧ iv = .int .i64 k ∧ Hid (Blk wr g T (putB cs (o + (s - k)) (beL k n))) ∧ Chg [g] w wr) (fun iv _ => s - (intOf iv).toNat)
  case atStart => exact ⟨0, by omega, rfl, by rw [show beL 0 n = [] from rfl, putB_nil]; exact HB, Chg.refl _ _⟩
  case round =>
    obtain ⟨k, hk, rfl, HBr, hb⟩ := hrel
    by_cases hlt : k < s
    · obtain ⟨d, hd⟩ := (HG k hlt).out
      have e1 := (HBr.out.cell (o + (s - 1 - k))).trans hd
      have e2 := HBr.out.frozen (o + (s - 1 - k))
      have e3 := HBr.out.lt
      have hset := HBr.out.set_ (o + (s - 1 - k)) (byteV (n / 256 ^ k % 256))
      rw [(HP k hlt).out] at hset
      have HN := Lib.hid hset
      have HC : Hid (Chg [g] w (wr.setCell ⟨g, o + (s - 1 - k), none⟩ (byteV (n / 256 ^ k % 256)))) := hb.setCell (.inl (by simp)) _
      clear hset hd HP HG
      have a1 : ((s : Int) - 1 - (k : Int)) = ((s - 1 - k : Nat) : Int) := by omega
      have hv := byteV_shr n k
      have HV := Lib.hid hv
      clear hv
      go_wp2
      go_roundw
      case rel => exact ⟨k + 1, by omega, by go_num, by rw [HV.out]; exact HN.out, by rw [HV.out]; exact HC.out⟩
      case measure => simp [intOf]; omega
    · obtain rfl : k = s := by omega
      go_wp2
      refine bodyPost_end (v := .tuple #[]) (results_none rfl _ _ _) rfl ⟨rfl, ?_, hb⟩
      have := HBr.out
      rw [Nat.sub_self, Nat.add_zero] at this
      exact this
end Go.Proofs.Ytlcphgomhhejbaa

/- The disk's methods that look, and those that set a number. -/
namespace Go.Proofs.Ytlcphgomhhejbaa
open Go.RowKit

def DS.lenI (d : DS) (f : Int) : Int := if f = 0 then (d.vis.len 0 : Int) else if f = 1 then (d.vis.len 1 : Int) else 0

theorem fileWays (f : Int) : f = 0 ∨ f = 1 ∨ isFileB f = false := by
  unfold isFileB
  by_cases h : f = 0
  · exact .inl h
  · by_cases h1 : f = 1
    · exact .inr (.inl h1)
    · right; right
      simp only [Bool.and_eq_false_iff, decide_eq_false_iff_not]
      omega

/-- The methods of a disk that is nil, or that no call made. -/
def NoDisk (w : World) (v : Value) : Prop := v = .pointer none ∨ ∃ B, v = .pointer (some ⟨B, 0, none⟩) ∧ w.cell? ⟨B, 0, none⟩ = some (.pointer none)
/-! Those that set a number -/
theorem row_set_quota (B : Nat) (d : DS) (Mv Md : Nat) (pv : Value) (q : Nat) : (rowD B d Mv Md pv).setIfInBounds 1 (.int .i64 (q : Int)) = rowD B { d with quota := q } Mv Md pv := rfl
theorem row_set_left (B : Nat) (d : DS) (Mv Md : Nat) (pv : Value) (l : Option Nat) : (rowD B d Mv Md pv).setIfInBounds 10 (.int .i64 (leftI l)) = rowD B { d with left := l } Mv Md pv := rfl
theorem row_set_calls (B : Nat) (d : DS) (Mv Md : Nat) (pv : Value) (l : Nat) : (rowD B d Mv Md pv).setIfInBounds 9 (.int .i64 (l : Int)) = rowD B { d with calls := l } Mv Md pv := rfl
theorem row_set_down (B : Nat) (d : DS) (Mv Md : Nat) (pv : Value) (b : Bool) : (rowD B d Mv Md pv).setIfInBounds 11 (.bool b) = rowD B { d with down := b } Mv Md pv := rfl
theorem row_set_pend (B : Nat) (d : DS) (Mv Md : Nat) (pv pv' : Value) (p : List Wr) : (rowD B d Mv Md pv).setIfInBounds 8 pv' = rowD B { d with pend := p } Mv Md pv' := rfl

end Go.Proofs.Ytlcphgomhhejbaa

/- fits, keeps, put, clone. -/
namespace Go.Proofs.Ytlcphgomhhejbaa
set_option linter.unusedSimpArgs false
open Go.RowKit

end Go.Proofs.Ytlcphgomhhejbaa
