/- Several texts of one proof, one behind the other. -/
import Derived.Test.YtpcgommdlgmknaaNPk16
import Derived.OpenShut
import Derived.Lib.SmallJoins
import Derived.IntWalk

/- A node that comes in as an argument. -/
namespace Go.Proofs.Ytpcgommdlgmknaa
open Go.RowKit Go.ChangeShapes Go.WideShapes Go.Deep Go.Joins

theorem cellsOf_at {α : Type} (f : α → List Value) (z : Nat) (hz : 0 < z) (hf : ∀ x, (f x).length = z) : ∀ (l : List α) (i : Nat) (v : Value), (cellsOf f l)[i]? = some v → ∃ y, l[i / z]? = some y ∧ (f y)[i % z]? = some v
  | [], i, v, h => by simp [cellsOf] at h
  | x :: r, i, v, h => by
    have e : cellsOf f (x :: r) = f x ++ cellsOf f r := rfl
    rw [e] at h
    by_cases hi : i < z
    · rw [List.getElem?_append_left (by rw [hf]; exact hi)] at h
      exact ⟨x, by rw [Nat.div_eq_of_lt hi]; rfl, by rw [Nat.mod_eq_of_lt hi]; exact h⟩
    · rw [List.getElem?_append_right (by rw [hf]; omega), hf] at h
      obtain ⟨y, h1, h2⟩ := cellsOf_at f z hz hf r (i - z) v h
      have e1 : i = (i - z) + z := by omega
      refine ⟨y, ?_, ?_⟩
      · rw [e1, Nat.add_div_right _ hz]; exact h1
      · rw [e1, Nat.add_mod_right]; exact h2

/-- A row of values that came in, element by element. -/
theorem row_of {α : Type} (f : α → List Value) (z : Nat) (hz : 0 < z) (hf : ∀ x, (f x).length = z) (Q : α → Prop) (w : World) (x : Addr) (len : Nat)
    (hex : ∀ i : Fin len, ∃ y, Q y ∧ ∀ (j : Nat) (v : Value), (f y)[j]? = some v → w.cell? ((x.add (i.1 * z)).add j) = some v) :
    ∃ L : List α, L.length = len ∧ Arr w.heap.size w (some x) (cellsOf f L) ∧ ∀ y ∈ L, Q y := by
  obtain ⟨g, hg⟩ := Classical.axiomOfChoice hex
  refine ⟨List.ofFn g, by simp, ?_, ?_⟩
  · by_cases h0 : len = 0
    · left; subst h0; simp [cellsOf]
    · right
      obtain ⟨b, o, spot⟩ := x
      have hlen0 : 0 < (f (g ⟨0, by omega⟩)).length := by rw [hf]; exact hz
      have hc0 := (hg ⟨0, by omega⟩).2 0 _ (List.getElem?_eq_getElem hlen0)
      have hspot : spot = none := by
        have := World.cell?_spot hc0
        simpa [Addr.add] using this
      subst hspot
      have hblk := World.block_lt_of_cell? _ _ hc0
      refine ⟨b, o, rfl, by simpa [Addr.add] using hblk, fun i v hv => ?_⟩
      obtain ⟨y, h1, h2⟩ := cellsOf_at f z hz hf _ i v hv
      rw [List.getElem?_ofFn] at h1
      split at h1
      · rename_i hlt
        simp only [Option.some.injEq] at h1
        subst h1
        have hh := (hg ⟨i / z, hlt⟩).2 _ v h2
        have e1 : ((⟨b, o, none⟩ : Addr).add (i / z * z)).add (i % z) = ⟨b, o + i, none⟩ := by
          have : i / z * z + i % z = i := Nat.div_add_mod' i z
          simp only [Addr.add]
          split <;> split <;> simp_all <;> omega
        rw [e1] at hh
        exact hh
      · cases h1
  · intro y hy
    rw [List.mem_ofFn] at hy
    obtain ⟨i, rfl⟩ := hy
    exact (hg i).1

/-- What the walk is told of a node that came in. -/
structure NIn (w : World) (n : Nd) (m : NB) : Prop where
  hk : m.kl = n.keys.length
  hc : m.cl = n.cells.length
  hd : m.dl = n.kids.length
  kcap : m.kl ≤ m.kc
  ccap : m.cl ≤ m.cc
  dcap : m.dl ≤ m.dc
  kmax : m.kl ≤ 9223372036854775807
  cmax : m.cl ≤ 9223372036854775807
  dmax : m.dl ≤ 9223372036854775807
  karr : Arr w.heap.size w m.ka (cellsS n.keys)
  carr : Arr w.heap.size w m.ca (cellsC n.cells)
  darr : Arr w.heap.size w m.da (cellsI n.kids)
  kfair : ∀ k ∈ n.keys, k.size ≤ 9223372036854775807
  cfair : ∀ c ∈ n.cells, c.data.size ≤ 9223372036854775807 ∧ (-9223372036854775808 ≤ c.len ∧ c.len ≤ 9223372036854775807) ∧ (-9223372036854775808 ≤ c.page ∧ c.page ≤ 9223372036854775807)
  dfair : ∀ p ∈ n.kids, -9223372036854775808 ≤ p ∧ p ≤ 9223372036854775807
theorem NIn.later {w w' : World} {n : Nd} {m : NB} (h : NIn w n m) (hb : Below w.heap.size w w') : NIn w' n m :=
  ⟨h.hk, h.hc, h.hd, h.kcap, h.ccap, h.dcap, h.kmax, h.cmax, h.dmax, h.karr.later (N := 0) hb, h.carr.later (N := 0) hb, h.darr.later (N := 0) hb, h.kfair, h.cfair, h.dfair⟩

set_option maxRecDepth 100000 in
theorem trod_strs {H : Type} {enc : TypeId × Value → H} {w : World} {fuel : Nat} {cs : List Value} {x : DataW H × List MemPlace}
    (h : DataW.trod enc Try.prog w 0 (fun _ => true) true fuel 22 cs = some x) :
    ∃ (a : Option Addr) (len cap : Nat) (L : List ByteArray), cs = [.slice a len cap] ∧ L.length = len ∧ len ≤ cap ∧ cap ≤ 9223372036854775807 ∧ Arr w.heap.size w a (cellsS L) ∧ ∀ s ∈ L, s.size ≤ 9223372036854775807 := by
  rcases open_slice Try.underlying22 h with ⟨hcs, _⟩ | ⟨x, l, c, m, n, D, Pl, hcs, _, hl, hm, hmm, _, hi⟩
  · exact ⟨none, 0, 0, [], hcs, rfl, by omega, by omega, .inl rfl, by simp⟩
  · have hmc : m = c := by simpa using hmm
    have hC : Try.prog.cellsOf 9 = 1 := by kernel_rfl
    unfold maxLen at hm
    obtain ⟨L, h1, h2, h3⟩ := row_of (fun s : ByteArray => [Value.string s]) 1 (by omega) (fun _ => rfl) (fun s => s.size ≤ 9223372036854775807) w x l (fun i => by
      obtain ⟨cs', hc', ht'⟩ := hi i.1 (by have := i.2; omega)
      rw [hC] at hc'
      obtain ⟨_, hlen, hat⟩ := World.cells?_some hc'
      obtain ⟨s, e0, -, w0⟩ := DataW.trod_string Try.underlying9 ht'
      unfold maxLen at w0
      subst e0
      exact ⟨s, w0, fun j v hj => by rw [hat j (by have := (List.getElem?_eq_some_iff.1 hj).1; simpa using this)]; exact hj⟩)
    exact ⟨some x, l, c, L, hcs, h1, hl, by omega, h2, h3⟩

set_option maxRecDepth 100000 in
theorem trod_cells {H : Type} {enc : TypeId × Value → H} {w : World} {fuel : Nat} {cs : List Value} {x : DataW H × List MemPlace}
    (h : DataW.trod enc Try.prog w 0 (fun _ => true) true fuel 23 cs = some x) :
    ∃ (a : Option Addr) (len cap : Nat) (L : List Cl), cs = [.slice a len cap] ∧ L.length = len ∧ len ≤ cap ∧ cap ≤ 9223372036854775807 ∧ Arr w.heap.size w a (cellsC L) ∧
      ∀ c ∈ L, c.data.size ≤ 9223372036854775807 ∧ (-9223372036854775808 ≤ c.len ∧ c.len ≤ 9223372036854775807) ∧ (-9223372036854775808 ≤ c.page ∧ c.page ≤ 9223372036854775807) := by
  rcases open_slice Try.underlying23 h with ⟨hcs, _⟩ | ⟨x, l, c, m, n, D, Pl, hcs, _, hl, hm, hmm, _, hi⟩
  · exact ⟨none, 0, 0, [], hcs, rfl, by omega, by omega, .inl rfl, by simp⟩
  · have hmc : m = c := by simpa using hmm
    have hC : Try.prog.cellsOf 63 = 3 := by kernel_rfl
    unfold maxLen at hm
    obtain ⟨L, h1, h2, h3⟩ := row_of (fun c : Cl => [Value.int .i64 c.len, .string c.data, .int .i64 c.page]) 3 (by omega) (fun _ => rfl) (fun c => c.data.size ≤ 9223372036854775807 ∧ (-9223372036854775808 ≤ c.len ∧ c.len ≤ 9223372036854775807) ∧ (-9223372036854775808 ≤ c.page ∧ c.page ≤ 9223372036854775807)) w x l (fun i => by
      obtain ⟨cs', hc', ht'⟩ := hi i.1 (by have := i.2; omega)
      rw [hC] at hc'
      obtain ⟨_, hlen, hat⟩ := World.cells?_some hc'
      obtain ⟨y0, y1, y2, n', _, _, h0, h1, h2⟩ := trod_struct3 Try.underlying63 ht'
      match cs', hlen with
      | [v0, v1, v2], _ =>
        have g0 : DataW.trod enc Try.prog w 0 (fun _ => true) true n' 3 [v0] = some y0 := h0
        have g1 : DataW.trod enc Try.prog w 0 (fun _ => true) true n' 9 [v1] = some y1 := h1
        have g2 : DataW.trod enc Try.prog w 0 (fun _ => true) true n' 3 [v2] = some y2 := h2
        obtain ⟨z, e0, -, w0⟩ := DataW.trod_int Try.underlying3 g0
        obtain ⟨s, e1, -, w1⟩ := DataW.trod_string Try.underlying9 g1
        obtain ⟨p, e2, -, w2⟩ := DataW.trod_int Try.underlying3 g2
        simp only [List.cons.injEq, and_true] at e0 e1 e2
        subst e0 e1 e2
        unfold maxLen at w1
        exact ⟨⟨z, s, p⟩, ⟨w1, bd_i64 w0, bd_i64 w2⟩, fun j v hj => by rw [hat j (by have := (List.getElem?_eq_some_iff.1 hj).1; simpa using this)]; exact hj⟩)
    exact ⟨some x, l, c, L, hcs, h1, hl, by omega, h2, h3⟩

set_option maxRecDepth 100000 in
theorem trod_nums {H : Type} {enc : TypeId × Value → H} {w : World} {fuel : Nat} {cs : List Value} {x : DataW H × List MemPlace}
    (h : DataW.trod enc Try.prog w 0 (fun _ => true) true fuel 24 cs = some x) :
    ∃ (a : Option Addr) (len cap : Nat) (L : List Int), cs = [.slice a len cap] ∧ L.length = len ∧ len ≤ cap ∧ cap ≤ 9223372036854775807 ∧ Arr w.heap.size w a (cellsI L) ∧ ∀ p ∈ L, -9223372036854775808 ≤ p ∧ p ≤ 9223372036854775807 := by
  rcases open_slice Try.underlying24 h with ⟨hcs, _⟩ | ⟨x, l, c, m, n, D, Pl, hcs, _, hl, hm, hmm, _, hi⟩
  · exact ⟨none, 0, 0, [], hcs, rfl, by omega, by omega, .inl rfl, by simp⟩
  · have hmc : m = c := by simpa using hmm
    have hC : Try.prog.cellsOf 3 = 1 := by kernel_rfl
    unfold maxLen at hm
    obtain ⟨L, h1, h2, h3⟩ := row_of (fun n : Int => [Value.int .i64 n]) 1 (by omega) (fun _ => rfl) (fun p => -9223372036854775808 ≤ p ∧ p ≤ 9223372036854775807) w x l (fun i => by
      obtain ⟨cs', hc', ht'⟩ := hi i.1 (by have := i.2; omega)
      rw [hC] at hc'
      obtain ⟨_, hlen, hat⟩ := World.cells?_some hc'
      obtain ⟨s, e0, -, w0⟩ := DataW.trod_int Try.underlying3 ht'
      subst e0
      exact ⟨s, bd_i64 w0, fun j v hj => by rw [hat j (by have := (List.getElem?_eq_some_iff.1 hj).1; simpa using this)]; exact hj⟩)
    exact ⟨some x, l, c, L, hcs, h1, hl, by omega, h2, h3⟩

set_option maxRecDepth 100000 in
theorem open_node {H : Type} {enc : TypeId × Value → H} {w : World} {r : Reach} {b0 : Nat} {v : Value} {d : DataW H} {p : List MemPlace} (hv : Value.okWide Try.prog w r b0 26 v) (h : DataW.Trod enc Try.prog w 0 (fun _ => true) true 26 v d p) :
    ∃ (n : Nd) (m : NB), v = m.v n.leaf ∧ NIn w n m := by
  obtain ⟨cs, rfl, _⟩ := okWide_struct Try.underlying26 hv
  obtain ⟨fuel, hf⟩ := h
  have hf2 : DataW.trod enc Try.prog w 0 (fun _ => true) true fuel 26 cs.toList = some (d, p) := hf
  obtain ⟨xs, n, _, hx, hl, hlen, hfin⟩ := DataW.trod_struct Try.underlying26 hf2
  have hC : Try.prog.cellsOf 26 = 4 := by kernel_rfl
  rw [hC] at hl
  obtain ⟨cl, hcl⟩ : ∃ cl, cs.toList = cl := ⟨_, rfl⟩
  have hcs : cs = cl.toArray := by rw [← hcl]
  rw [hcl] at hl hfin
  subst hcs
  match cl, hl with
  | [v0, v1, v2, v3], _ =>
    match xs, hlen with
    | [y0, y1, y2, y3], _ =>
      have g0 : DataW.trod enc Try.prog w 0 (fun _ => true) true n 4 [v0] = some y0 := hfin 0 _ rfl
      have g1 : DataW.trod enc Try.prog w 0 (fun _ => true) true n 22 [v1] = some y1 := hfin 1 _ rfl
      have g2 : DataW.trod enc Try.prog w 0 (fun _ => true) true n 23 [v2] = some y2 := hfin 2 _ rfl
      have g3 : DataW.trod enc Try.prog w 0 (fun _ => true) true n 24 [v3] = some y3 := hfin 3 _ rfl
      obtain ⟨bl, e0, -⟩ := DataW.trod_bool Try.underlying4 g0
      obtain ⟨ka, kl, kc, ks, e1, k1, k2, k3, k4, k5⟩ := trod_strs g1
      obtain ⟨ca, cl, cc, cs, e2, c1, c2, c3, c4, c5⟩ := trod_cells g2
      obtain ⟨da, dl, dc, ps, e3, d1, d2, d3, d4, d5⟩ := trod_nums g3
      simp only [List.cons.injEq, and_true] at e0 e1 e2 e3
      subst e0 e1 e2 e3
      exact ⟨⟨bl, ks, cs, ps⟩, ⟨ka, kl, kc, ca, cl, cc, da, dl, dc⟩, rfl, ⟨k1.symm, c1.symm, d1.symm, k2, c2, d2, by simp only; omega, by simp only; omega, by simp only; omega, k4, c4, d4, k5, c5, d5⟩⟩
end Go.Proofs.Ytpcgommdlgmknaa

/- The walk of the law's Great. -/
namespace Go.Proofs.Ytpcgommdlgmknaa
open Go.RowKit

/-- A node that is not too great. -/
structure Fits (n : Nd) : Prop where
  kn : n.keys.length ≤ 60
  ks : ∀ k ∈ n.keys, k.size ≤ 200
  cn : n.cells.length ≤ 60
  cs : ∀ c ∈ n.cells, c.data.size ≤ 300
  dn : n.kids.length ≤ 80
theorem NIn.at_ {w : World} {n : Nd} {m : NB} (h : NIn w n m) (f : Fits n) : NAt w n m := by
  have h1 := h.hk
  have h2 := h.hc
  have h3 := h.hd
  have f1 := f.kn
  have f2 := f.cn
  have f3 := f.dn
  exact ⟨h.hk, h.hc, h.hd, h.kcap, h.ccap, h.dcap, by omega, by omega, by omega, h.karr, h.carr, h.darr, fun k hk => by have := f.ks k hk; omega, fun c hc => ⟨by have := f.cs c hc; omega, (h.cfair c hc).2⟩, h.dfair⟩
def RetGreat (w : World) (n : Nd) (e : Ending) (w' : World) : Prop := ∃ r : Bool, e = .returned (.bool r) ∧ (r = false → Fits n) ∧ Below w.heap.size w w'

def UpS {α : Type} (f : α → Nat) (b : Nat) (l : List α) (k : Nat) : Prop := ∀ x ∈ l.take k, f x ≤ b
theorem UpS.succ {α : Type} {f : α → Nat} {b : Nat} {l : List α} {k : Nat} (h : UpS f b l k) (hk : k < l.length) (hx : f l[k] ≤ b) : UpS f b l (k + 1) := by
  intro x hx2
  rw [List.take_succ_eq_append_getElem hk] at hx2
  rcases List.mem_append.1 hx2 with h1 | h1
  · exact h x h1
  · simp at h1; subst h1; exact hx

set_option maxRecDepth 100000 in
set_option maxHeartbeats 2000000 in
theorem NGreat_any (n : Nd) (m : NB) (w : World) (h : NIn w n m) :
    Calls Try.prog 8 #[m.v n.leaf] w (RetGreat w n) := by
  have hbx := Below.box w (.cells #[.bool n.leaf, .slice m.ka m.kl m.kc, .slice m.ca m.cl m.cc, .slice m.da m.dl m.dc] 26)
  have HKA := Lib.hid (h.later hbx).karr
  have HCA := Lib.hid (h.later hbx).carr
  have HK := Lib.hid h.hk
  have HC := Lib.hid h.hc
  have HD := Lib.hid h.hd
  have kmax := h.kmax
  have cmax := h.cmax
  have dmax := h.dmax
  have HKF := Lib.hid h.kfair
  have HCF := Lib.hid h.cfair
  have HY : Hid (RetGreat w n (.returned (.bool true)) _) := ⟨true, rfl, by simp, hbx⟩
  have HF : Hid (∀ r, (r = false → Fits n) → RetGreat w n (.returned (.bool r)) _) := fun r hr => ⟨r, rfl, hr, hbx⟩
  clear hbx h
  obtain ⟨ka, kl, kc, ca, cl, cc, da, dl, dc⟩ := m
  obtain ⟨leaf, ks, cs, ps⟩ := n
  simp only at *
  generalize hRR : RetGreat w ⟨leaf, ks, cs, ps⟩ = RR at *
  clear hRR
  go_enter Try.func8, Try.ntmps8
  go_wp2_with fail
  go_loop [3] (fun i => ∃ k : Nat, k ≤ kl ∧ i = .int .i64 k ∧ Hid (UpS ByteArray.size 200 ks k) ∧ (0 < k → kl ≤ 60)) (fun i => kl - (intOf i).toNat)
  case atStart => exact ⟨0, by omega, rfl, fun x hx => by simp at hx, by omega⟩
  case round =>
    obtain ⟨k, hk, rfl, HI, h60⟩ := hrel
    by_cases hlt : k < kl
    · have hkl : k < ks.length := by have := HK.out; omega
      obtain ⟨b, o, rfl, hbN, c0⟩ := strAt HKA.out hkl
      have hfs := HKF.out _ (List.getElem_mem hkl)
      have HST : Hid (ks[k].size ≤ 200 → UpS ByteArray.size 200 ks (k + 1)) := fun h => HI.out.succ hkl h
      generalize ks[k]'hkl = y at *
      by_cases h6 : 60 < kl
      · have q : decide ((60 : Int) < (kl : Int)) = true := by simp; omega
        clear h60
        go_wp2
        exact HY.out
      · have q : decide ((60 : Int) < (kl : Int)) = false := by simp; omega
        by_cases h2 : 200 < y.size
        · have q2 : decide ((200 : Int) < (y.size : Int)) = true := by simp; omega
          clear h60
          go_wp2
          exact HY.out
        · have q2 : decide ((200 : Int) < (y.size : Int)) = false := by simp; omega
          have HST2 := Lib.hid (HST.out (by omega))
          clear h60 HST
          go_wp2
          go_round
          case rel => exact ⟨k + 1, by omega, by go_num, HST2, by omega⟩
          case measure => simp [intOf]; omega
    · have HKS : Hid (∀ x ∈ ks, x.size ≤ 200) := by
        have := HI.out
        unfold UpS at this
        rw [List.take_of_length_le (by have := HK.out; omega)] at this
        exact this
      have hkn : kl ≤ 60 := by
        rcases Nat.eq_zero_or_pos kl with h0 | h0
        · omega
        · exact h60 (by omega)
      clear h60
      go_wp2_with fail
      go_loop [4] (fun i => ∃ k : Nat, k ≤ cl ∧ i = .int .i64 k ∧ Hid (UpS (fun c : Cl => c.data.size) 300 cs k) ∧ (0 < k → cl ≤ 60)) (fun i => cl - (intOf i).toNat)
      case atStart => exact ⟨0, by omega, rfl, fun x hx => by simp at hx, by omega⟩
      case round =>
        obtain ⟨j, hj, rfl, HI2, h60⟩ := hrel
        by_cases hlt2 : j < cl
        · have hjl : j < cs.length := by have := HC.out; omega
          obtain ⟨b, o, rfl, hbN, c0, c1, c2⟩ := cellAt HCA.out hjl
          have hfs := (HCF.out _ (List.getElem_mem hjl)).1
          have HST : Hid (cs[j].data.size ≤ 300 → UpS (fun c : Cl => c.data.size) 300 cs (j + 1)) := fun h => HI2.out.succ hjl h
          generalize cs[j]'hjl = y at *
          obtain ⟨yl, yd, yp⟩ := y
          simp only at *
          by_cases h6 : 60 < cl
          · have q : decide ((60 : Int) < (cl : Int)) = true := by simp; omega
            clear h60
            go_wp2
            exact HY.out
          · have q : decide ((60 : Int) < (cl : Int)) = false := by simp; omega
            by_cases h2 : 300 < yd.size
            · have q2 : decide ((300 : Int) < (yd.size : Int)) = true := by simp; omega
              clear h60
              go_wp2
              exact HY.out
            · have q2 : decide ((300 : Int) < (yd.size : Int)) = false := by simp; omega
              have HST2 := Lib.hid (HST.out (by omega))
              clear h60 HST
              go_wp2
              go_round
              case rel => exact ⟨j + 1, by omega, by go_num, HST2, by omega⟩
              case measure => simp [intOf]; omega
        · have HCS : Hid (∀ x ∈ cs, x.data.size ≤ 300) := by
            have := HI2.out
            unfold UpS at this
            rw [List.take_of_length_le (by have := HC.out; omega)] at this
            exact this
          have hcn : cl ≤ 60 := by
            rcases Nat.eq_zero_or_pos cl with h0 | h0
            · omega
            · exact h60 (by omega)
          have HE := Lib.hid (HF.out (decide ((80 : Int) < (dl : Int))) (fun h => ⟨by have := HK.out; simp only; omega, HKS.out, by have := HC.out; simp only; omega, HCS.out, by have := HD.out; simp at h; simp only; omega⟩))
          clear h60
          go_wp2
          exact HE.out
end Go.Proofs.Ytpcgommdlgmknaa

/- The walk of the law NodeBack. -/
namespace Go.Proofs.Ytpcgommdlgmknaa
open Go.RowKit

theorem Bs.later {w w' : World} {a : Option Addr} {l : List Nat} (h : Bs w.heap.size w a l) (hb : Below w.heap.size w w') : Bs w'.heap.size w' a l := (h.below hb).mono hb.size
theorem writeN_ok {n : Nd} (h : n.ok = true) (h5 : (encN n.asR).length ≤ 512) : writeN n = (pageN n.asR, 0) := by unfold writeN; rw [h, if_pos rfl, if_pos h5]
theorem writeN_long {n : Nd} (h : n.ok = true) (h5 : ¬ (encN n.asR).length ≤ 512) : writeN n = ([], 2) := by unfold writeN; rw [h, if_pos rfl, if_neg h5]
theorem writeN_no {n : Nd} (h : n.ok = false) : writeN n = ([], 3) := by unfold writeN; rw [h]; rfl
/-- What was read is a right node of at most a page. -/
theorem read_write {b : List Nat} {x : Rn} (hb : ∀ c ∈ b, c < 256) (h : decN b = some x) : writeN x.asN = (b, 0) := by
  obtain ⟨h1, h2, h3⟩ := page_decN hb h
  have h4 := asR_asN h1.plain
  have h5 : x.asN.ok = true := by rw [ok_asN h1.plain]; exact Rn.ok_yes h1
  rw [writeN_ok h5 (by rw [h4.1]; exact h2), h4.1, h3]

set_option maxRecDepth 100000 in
set_option maxHeartbeats 8000000 in
theorem nodeBack_walk (n : Nd) (m : NB) (a : Option Addr) (len cap : Nat) (z : List Int) (w : World) (hin : NIn w n m) (hr : IsRow .u8 w a len cap z) :
    Calls Try.prog 6 #[m.v n.leaf, .slice a len cap] w fun e w' => e = .returned (.bool true) ∧ Below w.heap.size w w' := by
  obtain ⟨b, rfl, hbs, hlc, hcm⟩ := hr.bs
  have hbx := Below.box w (.cells #[.bool n.leaf, .slice m.ka m.kl m.kc, .slice m.ca m.cl m.cc, .slice m.da m.dl m.dc] 26)
  have HGr := Lib.hid (NGreat_any n m _ (hin.later hbx))
  have HAl := Lib.hid alive_any10
  have HIn := Lib.hid hin
  have HBs := Lib.hid hbs
  have HBx := Lib.hid hbx
  have hblk0 := Blk.new w 26 #[.bool n.leaf, .slice m.ka m.kl m.kc, .slice m.ca m.cl m.cc, .slice m.da m.dl m.dc]
  have HBlk0 := Lib.hid hblk0
  obtain ⟨lf, hlf⟩ : ∃ lf, n.leaf = lf := ⟨_, rfl⟩
  rw [hlf] at HGr HBx HBlk0 ⊢
  have HLf := Lib.hid hlf
  clear hin hr hbs hbx hblk0 hlf
  obtain ⟨ka, kl, kc, ca, cl, cc, da, dl, dc⟩ := m
  simp only at *
  go_enter Try.func6, Try.ntmps6
  go_wp2_with fail
  refine HGr.out.mono ?_
  rintro e w1 ⟨r, rfl, hfit, hb1⟩
  have L01 : Later _ w1 := hb1
  have HB1 : Hid (Below w.heap.size w w1) := HBx.out.trans (Below.mono L01 HBx.out.size)
  cases r with
  | true =>
    clear hfit hb1 L01
    go_wp2_with fail
    refine (HAl.out _).mono ?_
    rintro e w2 ⟨rfl, hb2⟩
    go_wp2
    go_ret
    exact ⟨rfl, HB1.out.trans (Below.mono hb2 HB1.out.size)⟩
  | false =>
    have HF := Lib.hid (hfit rfl)
    have HNA := Lib.hid (HIn.out.at_ HF.out)
    by_cases h600 : 600 < b.length
    · have q : decide ((600 : Int) < (b.length : Int)) = true := by simp; omega
      clear hfit hb1 L01
      go_wp2_with fail
      refine (HAl.out _).mono ?_
      rintro e w2 ⟨rfl, hb2⟩
      go_wp2
      go_ret
      exact ⟨rfl, HB1.out.trans (Below.mono hb2 HB1.out.size)⟩
    · have q : decide ((600 : Int) < (b.length : Int)) = false := by simp; omega
      have HBk1 : Hid (Blk w1 w.heap.size 26 #[.bool lf, .slice ka kl kc, .slice ca cl cc, .slice da dl dc]) := HBlk0.out.bel L01 HBlk0.out.lt
      have hkl : kl ≤ 60 := by have := HF.out.kn; have := HNA.out.hk; simp only at this; omega
      clear hfit hb1 L01
      have x0 : w1.cell? ⟨w.heap.size, 0, none⟩ = some (.bool lf) := Blk.cell HBk1.out 0
      have x1 : w1.cell? ⟨w.heap.size, 1, none⟩ = some (.slice ka kl kc) := Blk.cell HBk1.out 1
      have x2 : w1.cell? ⟨w.heap.size, 2, none⟩ = some (.slice ca cl cc) := Blk.cell HBk1.out 2
      have x3 : w1.cell? ⟨w.heap.size, 3, none⟩ = some (.slice da dl dc) := Blk.cell HBk1.out 3
      have xlt : w.heap.size < w1.heap.size := Blk.lt HBk1.out
      have HW := fun X (hb : Below w.heap.size w X) => NWrite_any n ⟨ka, kl, kc, ca, cl, cc, da, dl, dc⟩ X (HNA.out.later hb) (by simp only; omega)
      rw [HLf.out] at HW
      have HRt := fun X (hb : Below w.heap.size w X) => NRight_any n ⟨ka, kl, kc, ca, cl, cc, da, dl, dc⟩ X (HNA.out.later hb)
      rw [HLf.out] at HRt
      have HRt := Lib.hid HRt
      have HSz := fun X (hb : Below w.heap.size w X) => NSize_any n ⟨ka, kl, kc, ca, cl, cc, da, dl, dc⟩ X (HNA.out.later hb) (by simp only; omega)
      rw [HLf.out] at HSz
      have HRd := Lib.hid (fun X (hb : Below w.heap.size w X) => NRead_any b a b.length cap X (HBs.out.later hb) rfl hlc (by omega))
      cases hok : n.ok with
      | false =>
        rw [writeN_no hok] at HW
        have HW := Lib.hid HW
        rw [hok] at HRt
        have HSz := Lib.hid HSz
        clear hok
        go_wp2_with fail
        refine (HW.out w1 HB1.out).mono ?_
        rintro e w2 ⟨a2, c2, rfl, _, _, _, L12⟩
        have HB2 : Hid (Below w.heap.size w w2) := HB1.out.trans (Below.mono L12 HB1.out.size)
        have HBk2 := Lib.hid (HBk1.out.bel L12 HBk1.out.lt)
        clear L12 x0 x1 x2 x3 xlt
        cases hdec : decN b with
        | none =>
          have HRd2 := HRd.out w2 HB2.out
          have hrd : rdNd b = (zeroN, 3) := rdNd_no hdec
          have HRD := Lib.hid hrd
          clear hrd hdec
          go_wp2_with fail
          refine HRd2.mono ?_
          rintro e w5 ⟨m5, rfl, hN5, hm5, L5⟩
          rw [HRD.out] at hN5 ⊢
          rw [show (((zeroN, (3 : Int)) : Nd × Int).1).leaf = false from rfl]
          replace hN5 : NAt w5 zeroN m5 := hN5
          have HB5 : Hid (Below w.heap.size w w5) := HB2.out.trans (Below.mono L5 HB2.out.size)
          have L56 : Later w5 (w5.alloc (.cells #[.bool false, .slice m5.ka m5.kl m5.kc, .slice m5.ca m5.cl m5.cc, .slice m5.da m5.dl m5.dc] 26)) := Below.box _ _
          have HW6 := NWrite_any zeroN m5 _ (hN5.later L56) (by omega)
          rw [zeroN_write] at HW6
          rw [show zeroN.leaf = false from rfl] at HW6
          have HW6 := Lib.hid HW6
          have HB6 : Hid (Below w.heap.size w _) := HB5.out.trans (Below.mono L56 HB5.out.size)
          have HBk6 := Lib.hid ((HBk2.out.bel L5 HBk2.out.lt).alloc (.cells #[.bool false, .slice m5.ka m5.kl m5.kc, .slice m5.ca m5.cl m5.cc, .slice m5.da m5.dl m5.dc] 26))
          clear HRd2 hN5 L5 L56
          go_wp2_with fail
          refine HW6.out.mono ?_
          rintro e w7 ⟨a7, c7, rfl, hc7, hm7, hbs7, L67⟩
          have HB7 : Hid (Below w.heap.size w w7) := HB6.out.trans (Below.mono L67 HB6.out.size)
          have HBk7 := Lib.hid (HBk6.out.bel L67 HBk6.out.lt)
          have HBs7 := Lib.hid hbs7
          clear L67 hbs7 HW6 HB6 HBk6
          go_wp2_with fail
          refine (HAl.out _).mono ?_
          rintro e w8 ⟨rfl, L78⟩
          have HB8 : Hid (Below w.heap.size w w8) := HB7.out.trans (Below.mono L78 HB7.out.size)
          have HBk8 := Lib.hid (HBk7.out.bel L78 HBk7.out.lt)
          have HBs8 := Lib.hid (HBs7.out.later L78)
          have x0 : w8.cell? ⟨w.heap.size, 0, none⟩ = some (.bool lf) := Blk.cell HBk8.out 0
          have x1 : w8.cell? ⟨w.heap.size, 1, none⟩ = some (.slice ka kl kc) := Blk.cell HBk8.out 1
          have x2 : w8.cell? ⟨w.heap.size, 2, none⟩ = some (.slice ca cl cc) := Blk.cell HBk8.out 2
          have x3 : w8.cell? ⟨w.heap.size, 3, none⟩ = some (.slice da dl dc) := Blk.cell HBk8.out 3
          have xlt : w.heap.size < w8.heap.size := Blk.lt HBk8.out
          clear L78 HBk7 HBs7
          go_wp2_with fail
          refine (HRt.out w8 HB8.out).mono ?_
          rintro e w9 ⟨rfl, L89⟩
          have HB9 : Hid (Below w.heap.size w w9) := HB8.out.trans (Below.mono L89 HB8.out.size)
          have HBk9 := Lib.hid (HBk8.out.bel L89 HBk8.out.lt)
          have HBs9 := Lib.hid (HBs8.out.later L89)
          clear L89
          go_wp2
          go_ret
          exact ⟨rfl, HB9.out⟩
        | some x =>
          have HRd2 := HRd.out w2 HB2.out
          have hrd : rdNd b = (x.asN, 0) := rdNd_yes hdec
          have HWr : Hid (writeN x.asN = (b, 0)) := read_write HBs.out.1 hdec
          have HRD := Lib.hid hrd
          clear hrd hdec
          go_wp2_with fail
          refine HRd2.mono ?_
          rintro e w5 ⟨m5, rfl, hN5, hm5, L5⟩
          rw [HRD.out] at hN5 ⊢
          rw [show (((x.asN, (0 : Int)) : Nd × Int).1).leaf = x.asN.leaf from rfl]
          replace hN5 : NAt w5 x.asN m5 := hN5
          have HB5 : Hid (Below w.heap.size w w5) := HB2.out.trans (Below.mono L5 HB2.out.size)
          have L56 : Later w5 (w5.alloc (.cells #[.bool x.asN.leaf, .slice m5.ka m5.kl m5.kc, .slice m5.ca m5.cl m5.cc, .slice m5.da m5.dl m5.dc] 26)) := Below.box _ _
          have HW6 := NWrite_any x.asN m5 _ (hN5.later L56) (by omega)
          rw [HWr.out] at HW6
          have HW6 := Lib.hid HW6
          have HB6 : Hid (Below w.heap.size w _) := HB5.out.trans (Below.mono L56 HB5.out.size)
          have HBk6 := Lib.hid ((HBk2.out.bel L5 HBk2.out.lt).alloc (.cells #[.bool x.asN.leaf, .slice m5.ka m5.kl m5.kc, .slice m5.ca m5.cl m5.cc, .slice m5.da m5.dl m5.dc] 26))
          clear HRd2 hN5 L5 L56
          go_wp2_with fail
          refine HW6.out.mono ?_
          rintro e w7 ⟨a7, c7, rfl, hc7, hm7, hbs7, L67⟩
          have HB7 : Hid (Below w.heap.size w w7) := HB6.out.trans (Below.mono L67 HB6.out.size)
          have HBk7 := Lib.hid (HBk6.out.bel L67 HBk6.out.lt)
          have HBs7 := Lib.hid hbs7
          clear L67 hbs7 HW6 HB6 HBk6
          go_wp2_with fail
          refine (HAl.out _).mono ?_
          rintro e w8 ⟨rfl, L78⟩
          have HB8 : Hid (Below w.heap.size w w8) := HB7.out.trans (Below.mono L78 HB7.out.size)
          have HBk8 := Lib.hid (HBk7.out.bel L78 HBk7.out.lt)
          have HBs8 := Lib.hid (HBs7.out.later L78)
          have x0 : w8.cell? ⟨w.heap.size, 0, none⟩ = some (.bool lf) := Blk.cell HBk8.out 0
          have x1 : w8.cell? ⟨w.heap.size, 1, none⟩ = some (.slice ka kl kc) := Blk.cell HBk8.out 1
          have x2 : w8.cell? ⟨w.heap.size, 2, none⟩ = some (.slice ca cl cc) := Blk.cell HBk8.out 2
          have x3 : w8.cell? ⟨w.heap.size, 3, none⟩ = some (.slice da dl dc) := Blk.cell HBk8.out 3
          have xlt : w.heap.size < w8.heap.size := Blk.lt HBk8.out
          clear L78 HBk7 HBs7
          go_wp2_with fail
          refine (HRt.out w8 HB8.out).mono ?_
          rintro e w9 ⟨rfl, L89⟩
          have HB9 : Hid (Below w.heap.size w w9) := HB8.out.trans (Below.mono L89 HB8.out.size)
          have HBk9 := Lib.hid (HBk8.out.bel L89 HBk8.out.lt)
          have HBs9 := Lib.hid (HBs8.out.later L89)
          clear L89
          have cv1 := HBs9.out.conv 27 5 Try.underlying27 Try.underlying5 9 Try.underlying9 b.length c7 rfl
          have cv2 := (HBs.out.later HB9.out).conv 27 5 Try.underlying27 Try.underlying5 9 Try.underlying9 b.length cap rfl
          go_wp2
          go_ret
          exact ⟨rfl, HB9.out⟩
      | true =>
        rw [hok] at HRt HSz
        by_cases h5 : (encN n.asR).length ≤ 512
        · rw [writeN_ok hok h5] at HW
          have hrd : rdNd (pageN n.asR) = (n, 0) := by rw [rdNd_yes (decN_page (Nd.ok_true hok).asR h5), (asN_asR (Nd.ok_true hok).shaped).1]
          have hpl := pageN_len h5
          have HW := Lib.hid HW
          rw [if_pos rfl] at HSz
          generalize (encN n.asR).length = E at HSz h5
          have HSz := Lib.hid HSz
          have q5 : decide ((E : Int) ≤ 512) = true := by simp; omega
          have HRDn := Lib.hid hrd
          have HPl := Lib.hid hpl
          clear hok hrd hpl
          go_wp2_with fail
          refine (HW.out w1 HB1.out).mono ?_
          rintro e w2 ⟨a2, c2, rfl, hcap2, hcm2, hbs2, L12⟩
          rw [show (((pageN n.asR, (0 : Int)) : List Nat × Int).1).length = 512 from HPl.out] at hcap2 ⊢
          have HB2 : Hid (Below w.heap.size w w2) := HB1.out.trans (Below.mono L12 HB1.out.size)
          have HBk2 := Lib.hid (HBk1.out.bel L12 HBk1.out.lt)
          have HRd1 := Lib.hid (NRead_any (pageN n.asR) a2 512 c2 w2 hbs2 HPl.out.symm hcap2 (by omega))
          clear L12 x0 x1 x2 x3 xlt hbs2
          go_wp2_with fail
          refine HRd1.out.mono ?_
          rintro e w3 ⟨m3, rfl, hN3, hm3, L23⟩
          rw [HRDn.out] at hN3 ⊢
          rw [show (((n, (0 : Int)) : Nd × Int).1).leaf = lf from HLf.out]
          replace hN3 : NAt w3 n m3 := hN3
          have HB3 : Hid (Below w.heap.size w w3) := HB2.out.trans (Below.mono L23 HB2.out.size)
          have L34 : Later w3 (w3.alloc (.cells #[.bool lf, .slice m3.ka m3.kl m3.kc, .slice m3.ca m3.cl m3.cc, .slice m3.da m3.dl m3.dc] 26)) := Below.box _ _
          have HB34 : Hid (Below w.heap.size w _) := HB3.out.trans (Below.mono L34 HB3.out.size)
          have HBk3 := Lib.hid (HBk2.out.bel L23 HBk2.out.lt)
          have HBk34 := Lib.hid (HBk3.out.alloc (.cells #[.bool lf, .slice m3.ka m3.kl m3.kc, .slice m3.ca m3.cl m3.cc, .slice m3.da m3.dl m3.dc] 26))
          have HSm := NSame_any n n m3 ⟨ka, kl, kc, ca, cl, cc, da, dl, dc⟩ _ (hN3.later L34) (HNA.out.later HB34.out)
          rw [decide_eq_true rfl, HLf.out] at HSm
          have HSm := Lib.hid HSm
          have x0 : w3.cell? ⟨w.heap.size, 0, none⟩ = some (.bool lf) := Blk.cell HBk3.out 0
          have x1 : w3.cell? ⟨w.heap.size, 1, none⟩ = some (.slice ka kl kc) := Blk.cell HBk3.out 1
          have x2 : w3.cell? ⟨w.heap.size, 2, none⟩ = some (.slice ca cl cc) := Blk.cell HBk3.out 2
          have x3 : w3.cell? ⟨w.heap.size, 3, none⟩ = some (.slice da dl dc) := Blk.cell HBk3.out 3
          have xlt : w.heap.size < w3.heap.size := Blk.lt HBk3.out
          clear hN3 L23 L34 HRd1
          go_wp2_with fail
          refine HSm.out.mono ?_
          rintro e w4 ⟨rfl, L4⟩
          have HB4 : Hid (Below w.heap.size w w4) := HB34.out.trans (Below.mono L4 HB34.out.size)
          have HBk4 := Lib.hid (HBk34.out.bel L4 HBk34.out.lt)
          clear L4 x0 x1 x2 x3 xlt HSm
          cases hdec : decN b with
          | none =>
            have HRd2 := HRd.out w4 HB4.out
            have hrd : rdNd b = (zeroN, 3) := rdNd_no hdec
            have HRD := Lib.hid hrd
            clear hrd hdec
            go_wp2_with fail
            refine HRd2.mono ?_
            rintro e w5 ⟨m5, rfl, hN5, hm5, L5⟩
            rw [HRD.out] at hN5 ⊢
            rw [show (((zeroN, (3 : Int)) : Nd × Int).1).leaf = false from rfl]
            replace hN5 : NAt w5 zeroN m5 := hN5
            have HB5 : Hid (Below w.heap.size w w5) := HB4.out.trans (Below.mono L5 HB4.out.size)
            have L56 : Later w5 (w5.alloc (.cells #[.bool false, .slice m5.ka m5.kl m5.kc, .slice m5.ca m5.cl m5.cc, .slice m5.da m5.dl m5.dc] 26)) := Below.box _ _
            have HW6 := NWrite_any zeroN m5 _ (hN5.later L56) (by omega)
            rw [zeroN_write] at HW6
            rw [show zeroN.leaf = false from rfl] at HW6
            have HW6 := Lib.hid HW6
            have HB6 : Hid (Below w.heap.size w _) := HB5.out.trans (Below.mono L56 HB5.out.size)
            have HBk6 := Lib.hid ((HBk4.out.bel L5 HBk4.out.lt).alloc (.cells #[.bool false, .slice m5.ka m5.kl m5.kc, .slice m5.ca m5.cl m5.cc, .slice m5.da m5.dl m5.dc] 26))
            clear HRd2 hN5 L5 L56
            go_wp2_with fail
            refine HW6.out.mono ?_
            rintro e w7 ⟨a7, c7, rfl, hc7, hm7, hbs7, L67⟩
            have HB7 : Hid (Below w.heap.size w w7) := HB6.out.trans (Below.mono L67 HB6.out.size)
            have HBk7 := Lib.hid (HBk6.out.bel L67 HBk6.out.lt)
            have HBs7 := Lib.hid hbs7
            clear L67 hbs7 HW6 HB6 HBk6
            go_wp2_with fail
            refine (HAl.out _).mono ?_
            rintro e w8 ⟨rfl, L78⟩
            have HB8 : Hid (Below w.heap.size w w8) := HB7.out.trans (Below.mono L78 HB7.out.size)
            have HBk8 := Lib.hid (HBk7.out.bel L78 HBk7.out.lt)
            have HBs8 := Lib.hid (HBs7.out.later L78)
            have x0 : w8.cell? ⟨w.heap.size, 0, none⟩ = some (.bool lf) := Blk.cell HBk8.out 0
            have x1 : w8.cell? ⟨w.heap.size, 1, none⟩ = some (.slice ka kl kc) := Blk.cell HBk8.out 1
            have x2 : w8.cell? ⟨w.heap.size, 2, none⟩ = some (.slice ca cl cc) := Blk.cell HBk8.out 2
            have x3 : w8.cell? ⟨w.heap.size, 3, none⟩ = some (.slice da dl dc) := Blk.cell HBk8.out 3
            have xlt : w.heap.size < w8.heap.size := Blk.lt HBk8.out
            clear L78 HBk7 HBs7
            go_wp2_with fail
            refine (HRt.out w8 HB8.out).mono ?_
            rintro e w9 ⟨rfl, L89⟩
            have HB9 : Hid (Below w.heap.size w w9) := HB8.out.trans (Below.mono L89 HB8.out.size)
            have HBk9 := Lib.hid (HBk8.out.bel L89 HBk8.out.lt)
            have HBs9 := Lib.hid (HBs8.out.later L89)
            clear L89
            have x0 : w9.cell? ⟨w.heap.size, 0, none⟩ = some (.bool lf) := Blk.cell HBk9.out 0
            have x1 : w9.cell? ⟨w.heap.size, 1, none⟩ = some (.slice ka kl kc) := Blk.cell HBk9.out 1
            have x2 : w9.cell? ⟨w.heap.size, 2, none⟩ = some (.slice ca cl cc) := Blk.cell HBk9.out 2
            have x3 : w9.cell? ⟨w.heap.size, 3, none⟩ = some (.slice da dl dc) := Blk.cell HBk9.out 3
            have xlt : w.heap.size < w9.heap.size := Blk.lt HBk9.out
            go_wp2_with fail
            refine (HSz.out w9 HB9.out).mono ?_
            rintro e w10 ⟨rfl, L9⟩
            have HB10 : Hid (Below w.heap.size w w10) := HB9.out.trans (Below.mono L9 HB9.out.size)
            have HBs10 := Lib.hid (HBs9.out.later L9)
            clear L9
            go_wp2
            go_ret
            exact ⟨rfl, HB10.out⟩
          | some x =>
            have HRd2 := HRd.out w4 HB4.out
            have hrd : rdNd b = (x.asN, 0) := rdNd_yes hdec
            have HWr : Hid (writeN x.asN = (b, 0)) := read_write HBs.out.1 hdec
            have HRD := Lib.hid hrd
            clear hrd hdec
            go_wp2_with fail
            refine HRd2.mono ?_
            rintro e w5 ⟨m5, rfl, hN5, hm5, L5⟩
            rw [HRD.out] at hN5 ⊢
            rw [show (((x.asN, (0 : Int)) : Nd × Int).1).leaf = x.asN.leaf from rfl]
            replace hN5 : NAt w5 x.asN m5 := hN5
            have HB5 : Hid (Below w.heap.size w w5) := HB4.out.trans (Below.mono L5 HB4.out.size)
            have L56 : Later w5 (w5.alloc (.cells #[.bool x.asN.leaf, .slice m5.ka m5.kl m5.kc, .slice m5.ca m5.cl m5.cc, .slice m5.da m5.dl m5.dc] 26)) := Below.box _ _
            have HW6 := NWrite_any x.asN m5 _ (hN5.later L56) (by omega)
            rw [HWr.out] at HW6
            have HW6 := Lib.hid HW6
            have HB6 : Hid (Below w.heap.size w _) := HB5.out.trans (Below.mono L56 HB5.out.size)
            have HBk6 := Lib.hid ((HBk4.out.bel L5 HBk4.out.lt).alloc (.cells #[.bool x.asN.leaf, .slice m5.ka m5.kl m5.kc, .slice m5.ca m5.cl m5.cc, .slice m5.da m5.dl m5.dc] 26))
            clear HRd2 hN5 L5 L56
            go_wp2_with fail
            refine HW6.out.mono ?_
            rintro e w7 ⟨a7, c7, rfl, hc7, hm7, hbs7, L67⟩
            have HB7 : Hid (Below w.heap.size w w7) := HB6.out.trans (Below.mono L67 HB6.out.size)
            have HBk7 := Lib.hid (HBk6.out.bel L67 HBk6.out.lt)
            have HBs7 := Lib.hid hbs7
            clear L67 hbs7 HW6 HB6 HBk6
            go_wp2_with fail
            refine (HAl.out _).mono ?_
            rintro e w8 ⟨rfl, L78⟩
            have HB8 : Hid (Below w.heap.size w w8) := HB7.out.trans (Below.mono L78 HB7.out.size)
            have HBk8 := Lib.hid (HBk7.out.bel L78 HBk7.out.lt)
            have HBs8 := Lib.hid (HBs7.out.later L78)
            have x0 : w8.cell? ⟨w.heap.size, 0, none⟩ = some (.bool lf) := Blk.cell HBk8.out 0
            have x1 : w8.cell? ⟨w.heap.size, 1, none⟩ = some (.slice ka kl kc) := Blk.cell HBk8.out 1
            have x2 : w8.cell? ⟨w.heap.size, 2, none⟩ = some (.slice ca cl cc) := Blk.cell HBk8.out 2
            have x3 : w8.cell? ⟨w.heap.size, 3, none⟩ = some (.slice da dl dc) := Blk.cell HBk8.out 3
            have xlt : w.heap.size < w8.heap.size := Blk.lt HBk8.out
            clear L78 HBk7 HBs7
            go_wp2_with fail
            refine (HRt.out w8 HB8.out).mono ?_
            rintro e w9 ⟨rfl, L89⟩
            have HB9 : Hid (Below w.heap.size w w9) := HB8.out.trans (Below.mono L89 HB8.out.size)
            have HBk9 := Lib.hid (HBk8.out.bel L89 HBk8.out.lt)
            have HBs9 := Lib.hid (HBs8.out.later L89)
            clear L89
            have x0 : w9.cell? ⟨w.heap.size, 0, none⟩ = some (.bool lf) := Blk.cell HBk9.out 0
            have x1 : w9.cell? ⟨w.heap.size, 1, none⟩ = some (.slice ka kl kc) := Blk.cell HBk9.out 1
            have x2 : w9.cell? ⟨w.heap.size, 2, none⟩ = some (.slice ca cl cc) := Blk.cell HBk9.out 2
            have x3 : w9.cell? ⟨w.heap.size, 3, none⟩ = some (.slice da dl dc) := Blk.cell HBk9.out 3
            have xlt : w.heap.size < w9.heap.size := Blk.lt HBk9.out
            go_wp2_with fail
            refine (HSz.out w9 HB9.out).mono ?_
            rintro e w10 ⟨rfl, L9⟩
            have HB10 : Hid (Below w.heap.size w w10) := HB9.out.trans (Below.mono L9 HB9.out.size)
            have HBs10 := Lib.hid (HBs9.out.later L9)
            clear L9
            have cv1 := HBs10.out.conv 27 5 Try.underlying27 Try.underlying5 9 Try.underlying9 b.length c7 rfl
            have cv2 := (HBs.out.later HB10.out).conv 27 5 Try.underlying27 Try.underlying5 9 Try.underlying9 b.length cap rfl
            go_wp2
            go_ret
            exact ⟨rfl, HB10.out⟩
        · rw [writeN_long hok h5] at HW
          have HW := Lib.hid HW
          rw [if_pos rfl] at HSz
          generalize (encN n.asR).length = E at HSz h5
          have HSz := Lib.hid HSz
          have q5 : decide ((E : Int) ≤ 512) = false := by simp; omega
          clear hok
          go_wp2_with fail
          refine (HW.out w1 HB1.out).mono ?_
          rintro e w2 ⟨a2, c2, rfl, _, _, _, L12⟩
          have HB2 : Hid (Below w.heap.size w w2) := HB1.out.trans (Below.mono L12 HB1.out.size)
          have HBk2 := Lib.hid (HBk1.out.bel L12 HBk1.out.lt)
          clear L12 x0 x1 x2 x3 xlt
          cases hdec : decN b with
          | none =>
            have HRd2 := HRd.out w2 HB2.out
            have hrd : rdNd b = (zeroN, 3) := rdNd_no hdec
            have HRD := Lib.hid hrd
            clear hrd hdec
            go_wp2_with fail
            refine HRd2.mono ?_
            rintro e w5 ⟨m5, rfl, hN5, hm5, L5⟩
            rw [HRD.out] at hN5 ⊢
            rw [show (((zeroN, (3 : Int)) : Nd × Int).1).leaf = false from rfl]
            replace hN5 : NAt w5 zeroN m5 := hN5
            have HB5 : Hid (Below w.heap.size w w5) := HB2.out.trans (Below.mono L5 HB2.out.size)
            have L56 : Later w5 (w5.alloc (.cells #[.bool false, .slice m5.ka m5.kl m5.kc, .slice m5.ca m5.cl m5.cc, .slice m5.da m5.dl m5.dc] 26)) := Below.box _ _
            have HW6 := NWrite_any zeroN m5 _ (hN5.later L56) (by omega)
            rw [zeroN_write] at HW6
            rw [show zeroN.leaf = false from rfl] at HW6
            have HW6 := Lib.hid HW6
            have HB6 : Hid (Below w.heap.size w _) := HB5.out.trans (Below.mono L56 HB5.out.size)
            have HBk6 := Lib.hid ((HBk2.out.bel L5 HBk2.out.lt).alloc (.cells #[.bool false, .slice m5.ka m5.kl m5.kc, .slice m5.ca m5.cl m5.cc, .slice m5.da m5.dl m5.dc] 26))
            clear HRd2 hN5 L5 L56
            go_wp2_with fail
            refine HW6.out.mono ?_
            rintro e w7 ⟨a7, c7, rfl, hc7, hm7, hbs7, L67⟩
            have HB7 : Hid (Below w.heap.size w w7) := HB6.out.trans (Below.mono L67 HB6.out.size)
            have HBk7 := Lib.hid (HBk6.out.bel L67 HBk6.out.lt)
            have HBs7 := Lib.hid hbs7
            clear L67 hbs7 HW6 HB6 HBk6
            go_wp2_with fail
            refine (HAl.out _).mono ?_
            rintro e w8 ⟨rfl, L78⟩
            have HB8 : Hid (Below w.heap.size w w8) := HB7.out.trans (Below.mono L78 HB7.out.size)
            have HBk8 := Lib.hid (HBk7.out.bel L78 HBk7.out.lt)
            have HBs8 := Lib.hid (HBs7.out.later L78)
            have x0 : w8.cell? ⟨w.heap.size, 0, none⟩ = some (.bool lf) := Blk.cell HBk8.out 0
            have x1 : w8.cell? ⟨w.heap.size, 1, none⟩ = some (.slice ka kl kc) := Blk.cell HBk8.out 1
            have x2 : w8.cell? ⟨w.heap.size, 2, none⟩ = some (.slice ca cl cc) := Blk.cell HBk8.out 2
            have x3 : w8.cell? ⟨w.heap.size, 3, none⟩ = some (.slice da dl dc) := Blk.cell HBk8.out 3
            have xlt : w.heap.size < w8.heap.size := Blk.lt HBk8.out
            clear L78 HBk7 HBs7
            go_wp2_with fail
            refine (HRt.out w8 HB8.out).mono ?_
            rintro e w9 ⟨rfl, L89⟩
            have HB9 : Hid (Below w.heap.size w w9) := HB8.out.trans (Below.mono L89 HB8.out.size)
            have HBk9 := Lib.hid (HBk8.out.bel L89 HBk8.out.lt)
            have HBs9 := Lib.hid (HBs8.out.later L89)
            clear L89
            have x0 : w9.cell? ⟨w.heap.size, 0, none⟩ = some (.bool lf) := Blk.cell HBk9.out 0
            have x1 : w9.cell? ⟨w.heap.size, 1, none⟩ = some (.slice ka kl kc) := Blk.cell HBk9.out 1
            have x2 : w9.cell? ⟨w.heap.size, 2, none⟩ = some (.slice ca cl cc) := Blk.cell HBk9.out 2
            have x3 : w9.cell? ⟨w.heap.size, 3, none⟩ = some (.slice da dl dc) := Blk.cell HBk9.out 3
            have xlt : w.heap.size < w9.heap.size := Blk.lt HBk9.out
            go_wp2_with fail
            refine (HSz.out w9 HB9.out).mono ?_
            rintro e w10 ⟨rfl, L9⟩
            have HB10 : Hid (Below w.heap.size w w10) := HB9.out.trans (Below.mono L9 HB9.out.size)
            have HBs10 := Lib.hid (HBs9.out.later L9)
            clear L9
            go_wp2
            go_ret
            exact ⟨rfl, HB10.out⟩
          | some x =>
            have HRd2 := HRd.out w2 HB2.out
            have hrd : rdNd b = (x.asN, 0) := rdNd_yes hdec
            have HWr : Hid (writeN x.asN = (b, 0)) := read_write HBs.out.1 hdec
            have HRD := Lib.hid hrd
            clear hrd hdec
            go_wp2_with fail
            refine HRd2.mono ?_
            rintro e w5 ⟨m5, rfl, hN5, hm5, L5⟩
            rw [HRD.out] at hN5 ⊢
            rw [show (((x.asN, (0 : Int)) : Nd × Int).1).leaf = x.asN.leaf from rfl]
            replace hN5 : NAt w5 x.asN m5 := hN5
            have HB5 : Hid (Below w.heap.size w w5) := HB2.out.trans (Below.mono L5 HB2.out.size)
            have L56 : Later w5 (w5.alloc (.cells #[.bool x.asN.leaf, .slice m5.ka m5.kl m5.kc, .slice m5.ca m5.cl m5.cc, .slice m5.da m5.dl m5.dc] 26)) := Below.box _ _
            have HW6 := NWrite_any x.asN m5 _ (hN5.later L56) (by omega)
            rw [HWr.out] at HW6
            have HW6 := Lib.hid HW6
            have HB6 : Hid (Below w.heap.size w _) := HB5.out.trans (Below.mono L56 HB5.out.size)
            have HBk6 := Lib.hid ((HBk2.out.bel L5 HBk2.out.lt).alloc (.cells #[.bool x.asN.leaf, .slice m5.ka m5.kl m5.kc, .slice m5.ca m5.cl m5.cc, .slice m5.da m5.dl m5.dc] 26))
            clear HRd2 hN5 L5 L56
            go_wp2_with fail
            refine HW6.out.mono ?_
            rintro e w7 ⟨a7, c7, rfl, hc7, hm7, hbs7, L67⟩
            have HB7 : Hid (Below w.heap.size w w7) := HB6.out.trans (Below.mono L67 HB6.out.size)
            have HBk7 := Lib.hid (HBk6.out.bel L67 HBk6.out.lt)
            have HBs7 := Lib.hid hbs7
            clear L67 hbs7 HW6 HB6 HBk6
            go_wp2_with fail
            refine (HAl.out _).mono ?_
            rintro e w8 ⟨rfl, L78⟩
            have HB8 : Hid (Below w.heap.size w w8) := HB7.out.trans (Below.mono L78 HB7.out.size)
            have HBk8 := Lib.hid (HBk7.out.bel L78 HBk7.out.lt)
            have HBs8 := Lib.hid (HBs7.out.later L78)
            have x0 : w8.cell? ⟨w.heap.size, 0, none⟩ = some (.bool lf) := Blk.cell HBk8.out 0
            have x1 : w8.cell? ⟨w.heap.size, 1, none⟩ = some (.slice ka kl kc) := Blk.cell HBk8.out 1
            have x2 : w8.cell? ⟨w.heap.size, 2, none⟩ = some (.slice ca cl cc) := Blk.cell HBk8.out 2
            have x3 : w8.cell? ⟨w.heap.size, 3, none⟩ = some (.slice da dl dc) := Blk.cell HBk8.out 3
            have xlt : w.heap.size < w8.heap.size := Blk.lt HBk8.out
            clear L78 HBk7 HBs7
            go_wp2_with fail
            refine (HRt.out w8 HB8.out).mono ?_
            rintro e w9 ⟨rfl, L89⟩
            have HB9 : Hid (Below w.heap.size w w9) := HB8.out.trans (Below.mono L89 HB8.out.size)
            have HBk9 := Lib.hid (HBk8.out.bel L89 HBk8.out.lt)
            have HBs9 := Lib.hid (HBs8.out.later L89)
            clear L89
            have x0 : w9.cell? ⟨w.heap.size, 0, none⟩ = some (.bool lf) := Blk.cell HBk9.out 0
            have x1 : w9.cell? ⟨w.heap.size, 1, none⟩ = some (.slice ka kl kc) := Blk.cell HBk9.out 1
            have x2 : w9.cell? ⟨w.heap.size, 2, none⟩ = some (.slice ca cl cc) := Blk.cell HBk9.out 2
            have x3 : w9.cell? ⟨w.heap.size, 3, none⟩ = some (.slice da dl dc) := Blk.cell HBk9.out 3
            have xlt : w.heap.size < w9.heap.size := Blk.lt HBk9.out
            go_wp2_with fail
            refine (HSz.out w9 HB9.out).mono ?_
            rintro e w10 ⟨rfl, L9⟩
            have HB10 : Hid (Below w.heap.size w w10) := HB9.out.trans (Below.mono L9 HB9.out.size)
            have HBs10 := Lib.hid (HBs9.out.later L9)
            clear L9
            have cv1 := HBs10.out.conv 27 5 Try.underlying27 Try.underlying5 9 Try.underlying9 b.length c7 rfl
            have cv2 := (HBs.out.later HB10.out).conv 27 5 Try.underlying27 Try.underlying5 9 Try.underlying9 b.length cap rfl
            go_wp2
            go_ret
            exact ⟨rfl, HB10.out⟩
end Go.Proofs.Ytpcgommdlgmknaa

/- The walk of the law's As, where the node has not one thing for each key. -/
namespace Go.Proofs.Ytpcgommdlgmknaa
open Go.RowKit

def RetAs (w : World) (n : Nd) (e : Ending) (w' : World) : Prop :=
  ∃ (x : Rn) (mb : RB), e = .returned (.tuple #[mb.v x.leaf x.kid, .bool n.shaped]) ∧ (n.shaped = true → x = n.asR) ∧ RAt w' x mb ∧ Below w.heap.size w w'

theorem as_blks (w : World) (o : Obj) (T : TypeId) (z z' : Array Value) : Blk (((w.alloc o).alloc (.cells z T)).alloc (.cells z' T)) (w.heap.size + 1) T z ∧ Blk (((w.alloc o).alloc (.cells z T)).alloc (.cells z' T)) (w.heap.size + 1 + 1) T z' := by
  have h1 := Blk.new (w.alloc o) T z
  have h2 := Blk.new ((w.alloc o).alloc (.cells z T)) T z'
  simp only [World.alloc, Array.size_push] at h1 h2 ⊢
  exact ⟨Blk.alloc h1 _, h2⟩

theorem RAt_empty (w : World) (leaf : Bool) (kid : Int) (hk : -9223372036854775808 ≤ kid ∧ kid ≤ 9223372036854775807) : RAt w ⟨leaf, kid, []⟩ ⟨none, 0, 0⟩ :=
  ⟨rfl, by simp, by simp, .inl rfl, hk, by simp⟩

set_option maxRecDepth 100000 in
set_option maxHeartbeats 2000000 in
theorem as_no (n : Nd) (m : NB) (w : World) (h : NAt w n m) (hs : n.shaped = false) :
    Calls Try.prog 10 #[m.v n.leaf] w (RetAs w n) := by
  have HX : Hid (∀ W, Below w.heap.size w W → RetAs w n (.returned (.tuple #[.agg #[.bool n.leaf, .int .i64 0, .slice none 0 0], .bool false])) W) := fun W hb =>
    ⟨⟨n.leaf, 0, []⟩, ⟨none, 0, 0⟩, by rw [hs], by rw [hs]; simp, RAt_empty _ _ _ (by omega), hb⟩
  have hk := h.hk
  have hc := h.hc
  have hd := h.hd
  have kmax := h.kmax
  have cmax := h.cmax
  have dmax := h.dmax
  clear h
  obtain ⟨ka, kl, kc, ca, cl, cc, da, dl, dc⟩ := m
  obtain ⟨leaf, ks, cs, ps⟩ := n
  have hways : (leaf = true ∧ (cl ≠ kl ∨ (cl = kl ∧ 0 < dl))) ∨ (leaf = false ∧ (dl ≠ kl + 1 ∨ (dl = kl + 1 ∧ 0 < cl))) := by
    unfold Nd.shaped at hs
    simp only at hs hk hc hd
    cases leaf with
    | true =>
      simp only [if_true, decide_eq_false_iff_not] at hs
      left; refine ⟨rfl, ?_⟩; omega
    | false =>
      simp only [Bool.false_eq_true, if_false, decide_eq_false_iff_not] at hs
      right; refine ⟨rfl, ?_⟩; omega
  simp only at *
  clear hk hc hd hs
  generalize hRR : RetAs w ⟨leaf, ks, cs, ps⟩ = RR at *
  clear hRR
  rcases hways with ⟨rfl, h1 | ⟨h1, h2⟩⟩ | ⟨rfl, h1 | ⟨h1, h2⟩⟩
  · have q1 : ((cl : Int) != (kl : Int)) = true := by simp; omega
    go_enter Try.func10, Try.ntmps10
    go_wp2
    refine bodyPost_ret (v := .tuple #[.agg #[.bool true, .int .i64 0, .slice none 0 0], .bool false]) (by simp [results, Try.results10, go_sem]) rfl (HX.out _ ?_)
    exact (((Below.refl _ w).alloc (Nat.le_refl _) _).alloc (by simp) _).alloc (by simp; omega) _
  · have q1 : ((cl : Int) != (kl : Int)) = false := by simp; omega
    go_enter Try.func10, Try.ntmps10
    go_wp2
    refine bodyPost_ret (v := .tuple #[.agg #[.bool true, .int .i64 0, .slice none 0 0], .bool false]) (by simp [results, Try.results10, go_sem]) rfl (HX.out _ ?_)
    exact (((Below.refl _ w).alloc (Nat.le_refl _) _).alloc (by simp) _).alloc (by simp; omega) _
  · have q1 : ((dl : Int) != (kl : Int) + 1) = true := by simp; omega
    go_enter Try.func10, Try.ntmps10
    go_wp2
    refine bodyPost_ret (v := .tuple #[.agg #[.bool false, .int .i64 0, .slice none 0 0], .bool false]) (by simp [results, Try.results10, go_sem]) rfl (HX.out _ ?_)
    exact (((Below.refl _ w).alloc (Nat.le_refl _) _).alloc (by simp) _).alloc (by simp; omega) _
  · have q1 : ((dl : Int) != (kl : Int) + 1) = false := by simp; omega
    go_enter Try.func10, Try.ntmps10
    go_wp2
    refine bodyPost_ret (v := .tuple #[.agg #[.bool false, .int .i64 0, .slice none 0 0], .bool false]) (by simp [results, Try.results10, go_sem]) rfl (HX.out _ ?_)
    exact (((Below.refl _ w).alloc (Nat.le_refl _) _).alloc (by simp) _).alloc (by simp; omega) _
end Go.Proofs.Ytpcgommdlgmknaa

/- The walk of the law's As, of a leaf. -/
namespace Go.Proofs.Ytpcgommdlgmknaa
open Go.RowKit

/-- The world's last block holds something else. -/
theorem chg_alloc2 (w : World) (T : TypeId) (a b : Array Value) : Chg [w.heap.size] (w.alloc (.cells a T)).drew (w.alloc (.cells b T)).drew := by
  refine ⟨rfl, rfl, rfl, by simp, fun k hk hn => ?_⟩
  have hk2 : k < w.heap.size := by
    have h1 : (w.alloc (.cells a T)).drew.heap.size = w.heap.size + 1 := by simp
    rw [h1] at hk
    simp only [List.mem_singleton] at hn
    omega
  exact (Below.heap_alloc w _ k hk2).trans (Below.heap_alloc w _ k hk2).symm

theorem info_part : (Try.prog.info? 65).map (fun i => (i.zero, i.size, i.bytes)) = some (some (.agg #[.string ⟨#[]⟩, .int .i64 0, .string ⟨#[]⟩, .int .i64 0]), 4, 48) := by kernel_rfl
theorem asR_fair {w : World} {n : Nd} {m : NB} (h : NAt w n m) (hs : n.shaped = true) : ∀ p ∈ n.asR.l, p.fair := by
  intro p hp
  obtain ⟨i, hi⟩ := List.getElem?_of_mem hp
  cases hl : n.leaf with
  | true =>
    obtain ⟨h1, h2⟩ := (part_leaf hs hl).2.2 i p hi
    have hk := h.kfair _ (List.mem_of_getElem? h1)
    have hc := h.cfair _ (List.mem_of_getElem? h2)
    exact ⟨hk, hc.1, hc.2.1, hc.2.2⟩
  | false =>
    obtain ⟨h1, h2, h3, h4⟩ := (part_inner hs hl).2.2.2 i p hi
    have hk := h.kfair _ (List.mem_of_getElem? h1)
    have hd := h.dfair _ (List.mem_of_getElem? h2)
    exact ⟨hk, by rw [h4]; simp [ByteArray.size], by omega, hd⟩
theorem asR_kidfair {w : World} {n : Nd} {m : NB} (h : NAt w n m) (hs : n.shaped = true) : -9223372036854775808 ≤ n.asR.kid ∧ n.asR.kid ≤ 9223372036854775807 := by
  cases hl : n.leaf with
  | true => unfold Nd.asR; rw [hl]; simp
  | false => exact h.dfair _ (List.mem_of_getElem? (part_inner hs hl).2.2.1)

/-- Where the loop stands. -/
structure AsInvleaf (w wr : World) (ka : Option Addr) (kl kc : Nat) (ca : Option Addr) (cl cc : Nat) (da : Option Addr) (dl dc : Nat) (kid : Int) (l : List Pt) (k : Nat) (la : Option Addr) (lc : Nat) : Prop where
  box : Blk wr w.heap.size 26 #[.bool true, .slice ka kl kc, .slice ca cl cc, .slice da dl dc]
  res : Blk wr (w.heap.size + 1) 32 #[.bool false, .int .i64 0, .slice none 0 0]
  out : Blk wr (w.heap.size + 1 + 1) 32 #[.bool true, .int .i64 kid, .slice la k lc]
  row : wr.ownsRow (w.heap.size + 1 + 1 + 1) 65 4 (.slice la k lc) k (cellsP (l.take k))
  bel : Below w.heap.size w wr

set_option maxRecDepth 100000 in
set_option maxHeartbeats 4000000 in
theorem as_leaf (n : Nd) (m : NB) (w : World) (h : NAt w n m) (hl : n.leaf = true) (hs : n.shaped = true) (hbig : m.kl ≤ 100000000) :
    Calls Try.prog 10 #[m.v true] w (RetAs w n) := by
  obtain ⟨iP, hiP, hzP, hsP, hbP⟩ := info_parts info_part
  have HX : Hid (∀ (la : Option Addr) (lc : Nat) W, m.kl ≤ lc → lc ≤ 9223372036854775807 → Arr W.heap.size W la (cellsP n.asR.l) → Below w.heap.size w W → RetAs w n (.returned (.tuple #[.agg #[.bool true, .int .i64 n.asR.kid, .slice la m.kl lc], .bool true])) W) := by
    intro la lc W h1 h2 h3 hb
    refine ⟨n.asR, ⟨la, m.kl, lc⟩, by rw [hs, asR_leaf, hl], fun _ => rfl, ⟨?_, h1, h.kmax, h3, ?_, ?_⟩, hb⟩
    · rw [asR_len hs]; exact h.hk
    · exact asR_kidfair h hs
    · exact asR_fair h hs
  have HLen : Hid (n.asR.l.length = m.kl) := by
    show _ = _
    rw [asR_len hs, h.hk]
  have HAt := Lib.hid (part_leaf hs hl)
  have HKA := Lib.hid h.karr
  have HCA := Lib.hid h.carr
  have HKF := Lib.hid (asR_fair h hs)
  have hsh := hs
  unfold Nd.shaped at hsh
  rw [hl] at hsh
  have hc := h.hc
  have hd := h.hd
  have hk := h.hk
  simp only [if_true, decide_eq_true_eq] at hsh
  have e1 : m.cl = m.kl := by omega
  have e2 : m.dl = 0 := by omega
  have hlR := asR_leaf n
  rw [hl] at hlR
  obtain ⟨R, hR⟩ : ∃ R, n.asR = R := ⟨_, rfl⟩
  rw [hR] at HX HLen HAt hlR HKF
  have hkid : R.kid = 0 := by rw [← hR]; unfold Nd.asR; rw [hl]; rfl
  obtain ⟨kid, hkd⟩ : ∃ kid, R.kid = kid := ⟨_, rfl⟩
  rw [hkd] at HX hkid
  
  clear hR hkd hsh hc hd hk hs h
  obtain ⟨ka, kl, kc, ca, cl, cc, da, dl, dc⟩ := m
  simp only at *
  obtain rfl : kl = cl := e1.symm
  subst e2 hkid
  generalize hRR : RetAs w n = RR at *
  clear hRR
  have HB0 : Hid (Below w.heap.size w (((w.alloc (.cells #[.bool true, .slice ka kl kc, .slice ca kl cc, .slice da 0 dc] 26)).alloc (.cells #[.bool false, .int .i64 0, .slice none 0 0] 32)).alloc (.cells #[.bool true, .int .i64 0, .slice none 0 0] 32))) := (((Below.refl _ w).alloc (Nat.le_refl _) _).alloc (by simp) _).alloc (by simp; omega) _
  have HI0 : Hid (AsInvleaf w (((w.alloc (.cells #[.bool true, .slice ka kl kc, .slice ca kl cc, .slice da 0 dc] 26)).alloc (.cells #[.bool false, .int .i64 0, .slice none 0 0] 32)).alloc (.cells #[.bool true, .int .i64 0, .slice none 0 0] 32)) ka kl kc ca kl cc da 0 dc 0 R.l 0 none 0) :=
    ⟨((Blk.new w _ _).alloc _).alloc _, (as_blks w _ _ _ _).1, (as_blks w _ _ _ _).2, World.ownsRow_nil _ _ _ _, HB0.out⟩
  clear HB0
  have q1 : ((kl : Int) != (kl : Int)) = false := by simp
  go_enter Try.func10, Try.ntmps10
  go_wp2_with fail
  go_loopw [5] (fun i wr => ∃ (k : Nat) (la : Option Addr) (lc : Nat), k ≤ kl ∧ i = .int .i64 k ∧ Hid (AsInvleaf w wr ka kl kc ca kl cc da 0 dc 0 R.l k la lc)) (fun i _ => kl - (intOf i).toNat)
  case atStart => exact ⟨0, none, 0, by omega, rfl, HI0⟩
  case round =>
    obtain ⟨k, la, lc, hk, rfl, HI⟩ := hrel
    have b0 : wr.cell? ⟨w.heap.size, 0, none⟩ = some (.bool true) := HI.out.box.cell 0
    have b1 : wr.cell? ⟨w.heap.size, 1, none⟩ = some (.slice ka kl kc) := HI.out.box.cell 1
    have hwlt : w.heap.size + 1 + 1 < wr.heap.size := HI.out.out.lt
    have hwlt0 : w.heap.size < wr.heap.size := by omega
    by_cases hlt : k < kl
    · have hkl : k < R.l.length := by have := HLen.out; omega
      have hx := List.getElem?_eq_getElem hkl
      have HXk := Lib.hid hx
      obtain ⟨hk1, hc1⟩ := HAt.out.2.2 k _ hx
      have hfr := HKF.out _ (List.getElem_mem hkl)
      obtain ⟨hkkl, hkke⟩ := List.getElem?_eq_some_iff.1 hk1
      obtain ⟨hccl, hcce⟩ := List.getElem?_eq_some_iff.1 hc1
      obtain ⟨b, o, rfl, hb, c0⟩ := strAt HKA.out hkkl
      obtain ⟨b2, o2, rfl, hb2, c1, c2, c3⟩ := cellAt HCA.out hccl
      rw [hkke] at c0
      rw [hcce] at c1 c2 c3
      clear hx hk1 hc1 hkke hcce hkkl hccl
      obtain ⟨⟨xk, xl, xd, xp⟩, hxx⟩ : ∃ x, R.l[k] = x := ⟨_, rfl⟩
      rw [hxx] at c0 c1 c2 c3 HXk hfr
      unfold Pt.fair at hfr
      simp only at c0 c1 c2 c3 hfr
      clear hxx
      obtain ⟨f1, f2, f3, f4⟩ := hfr
      have c0 := (HI.out.bel.cell (p := ⟨b, o + k, none⟩) hb).trans c0
      have D : Hid (∀ W, Chg [wr.heap.size] (wr.alloc (.cells #[.string xk, .int .i64 0, .string ⟨#[]⟩, .int .i64 0] 65)).drew W → W.cell? ⟨w.heap.size, 2, none⟩ = some (.slice (some ⟨b2, o2, none⟩) kl cc) ∧ W.cell? ⟨b2, o2 + k * 3, none⟩ = some (.int .i64 xl) ∧ W.cell? ⟨b2, o2 + k * 3 + 1, none⟩ = some (.string xd) ∧ W.cell? ⟨b2, o2 + k * 3 + 2, none⟩ = some (.int .i64 xp)) := by
        intro W hW
        have hW2 : Below wr.heap.size wr W := ((Below.refl _ wr).alloc (Nat.le_refl _) _).trans (hW.undrew.below (by simp) (by simp))
        have hW3 := HI.out.bel.trans (hW2.mono HI.out.bel.size)
        exact ⟨(HI.out.box.bel hW2 HI.out.box.lt).cell 2, (hW3.cell (p := ⟨b2, o2 + k * 3, none⟩) hb2).trans c1, (hW3.cell (p := ⟨b2, o2 + k * 3 + 1, none⟩) hb2).trans c2, (hW3.cell (p := ⟨b2, o2 + k * 3 + 2, none⟩) hb2).trans c3⟩
      clear c1 c2 c3
      have d0 : ∀ W, Chg [wr.heap.size] (wr.alloc (.cells #[.string xk, .int .i64 0, .string ⟨#[]⟩, .int .i64 0] 65)).drew W → W.cell? ⟨w.heap.size, 2, none⟩ = some (.slice (some ⟨b2, o2, none⟩) kl cc) := fun W h => (D.out W h).1
      have d1 : ∀ W, Chg [wr.heap.size] (wr.alloc (.cells #[.string xk, .int .i64 0, .string ⟨#[]⟩, .int .i64 0] 65)).drew W → W.cell? ⟨b2, o2 + k * 3, none⟩ = some (.int .i64 xl) := fun W h => (D.out W h).2.1
      have d2 : ∀ W, Chg [wr.heap.size] (wr.alloc (.cells #[.string xk, .int .i64 0, .string ⟨#[]⟩, .int .i64 0] 65)).drew W → W.cell? ⟨b2, o2 + k * 3 + 1, none⟩ = some (.string xd) := fun W h => (D.out W h).2.2.1
      have d3 : ∀ W, Chg [wr.heap.size] (wr.alloc (.cells #[.string xk, .int .i64 0, .string ⟨#[]⟩, .int .i64 0] 65)).drew W → W.cell? ⟨b2, o2 + k * 3 + 2, none⟩ = some (.int .i64 xp) := fun W h => (D.out W h).2.2.2
      go_wp2_with fail
      refine wp_region_ordS [wr.heap.size] [(0, true), (1, true), (2, true), (3, true), (4, true), (5, true), (6, true), (7, true), (8, true), (9, true), (10, true), (11, true), (12, true), (13, true), (14, true), (15, true), (16, true), (17, true), (18, true), (19, false), (20, true), (21, false), (22, true), (23, false)] (by kernel_rfl) (by kernel_rfl) (by kernel_rfl) (by kernel_rfl) ?_
      repeat (first | (refine wpO_F (v := ?_) rfl (by rfl) (fun w' hL => ?_) ?_; rotate_left; (solve | (go_simp; with_reducible rfl) | go_simp); try simp only [Act.put, List.setIfInBounds_toArray, List.set_cons_zero, List.set_cons_succ]) | (refine wpO_G' (Chg.refl _) rfl (by rfl) ?_; try simp only [Act.put, List.setIfInBounds_toArray, List.set_cons_zero, List.set_cons_succ]))
      refine wpO_C rfl (by rfl) ?_
      go_simp
      refine ⟨chg_alloc2 _ _ _ _, ?_⟩
      try simp only [Act.put, List.setIfInBounds_toArray, List.set_cons_zero, List.set_cons_succ]
      repeat (first | (refine wpO_F (v := ?_) rfl (by rfl) (fun w' hL => ?_) ?_; rotate_left; (solve | (go_simp; with_reducible rfl) | go_simp); try simp only [Act.put, List.setIfInBounds_toArray, List.set_cons_zero, List.set_cons_succ]) | (refine wpO_G' (Chg.refl _) rfl (by rfl) ?_; try simp only [Act.put, List.setIfInBounds_toArray, List.set_cons_zero, List.set_cons_succ]))
      refine wpO_C rfl (by rfl) ?_
      go_simp
      refine ⟨chg_alloc2 _ _ _ _, ?_⟩
      try simp only [Act.put, List.setIfInBounds_toArray, List.set_cons_zero, List.set_cons_succ]
      repeat (first | (refine wpO_F (v := ?_) rfl (by rfl) (fun w' hL => ?_) ?_; rotate_left; (solve | (go_simp; with_reducible rfl) | go_simp); try simp only [Act.put, List.setIfInBounds_toArray, List.set_cons_zero, List.set_cons_succ]) | (refine wpO_G' (Chg.refl _) rfl (by rfl) ?_; try simp only [Act.put, List.setIfInBounds_toArray, List.set_cons_zero, List.set_cons_succ]))
      refine wpO_C rfl (by rfl) ?_
      go_simp
      refine ⟨chg_alloc2 _ _ _ _, ?_⟩
      try simp only [Act.put, List.setIfInBounds_toArray, List.set_cons_zero, List.set_cons_succ]
      refine wpO_nil ?_
      clear d0 d1 d2 d3
      obtain ⟨X, hX⟩ : ∃ X, (wr.alloc (.cells #[.string xk, .int .i64 xl, .string xd, .int .i64 xp] 65)).drew = X := ⟨_, rfl⟩
      have HXB : Hid (Below wr.heap.size wr X) := by rw [← hX]; exact ((Below.refl _ wr).alloc (Nat.le_refl _) _).drew
      have hPb : Blk X wr.heap.size 65 #[.string xk, .int .i64 xl, .string xd, .int .i64 xp] := by rw [← hX]; exact (Blk.new wr _ _).drew
      have HRow : Hid (X.ownsRow (w.heap.size + 1 + 1 + 1) 65 4 (.slice la k lc) k (cellsP (R.l.take k))) := by rw [← hX]; exact World.ownsRow.alloc HI.out.row _
      rw [hX]
      clear hX
      have z0 : X.cell? ⟨wr.heap.size, 0, none⟩ = some _ := hPb.cell 0
      have z1 : X.cell? ⟨wr.heap.size, 1, none⟩ = some _ := hPb.cell 1
      have z2 : X.cell? ⟨wr.heap.size, 2, none⟩ = some _ := hPb.cell 2
      have z3 : X.cell? ⟨wr.heap.size, 3, none⟩ = some _ := hPb.cell 3
      have y2 : X.cell? ⟨w.heap.size + 1 + 1, 2, none⟩ = some (.slice la k lc) := (HI.out.out.bel HXB.out hwlt).cell 2
      have hXs : wr.heap.size < X.heap.size := hPb.lt
      have hbs : w.heap.size + 1 + 1 + 1 ≤ X.heap.size := by omega
      have HNew : Hid (∀ x6 (la2 : Option Addr) (lc2 : Nat), x6.ownsRow (w.heap.size + 1 + 1 + 1) 65 4 (.slice la2 (k + 1) lc2) (k + 1) (cellsP (R.l.take k) ++ [.string xk, .int .i64 xl, .string xd, .int .i64 xp]) → Below (w.heap.size + 1 + 1 + 1) X x6 →
          AsInvleaf w (x6.setCell ⟨w.heap.size + 1 + 1, 2, none⟩ (.slice la2 (k + 1) lc2)) (some ⟨b, o, none⟩) kl kc (some ⟨b2, o2, none⟩) kl cc da 0 dc 0 R.l (k + 1) la2 lc2 ∧ x6.cell? ⟨w.heap.size + 1 + 1, 2, none⟩ = some (.slice la k lc) ∧ x6.frozen? ⟨w.heap.size + 1 + 1, 2, none⟩ = false ∧ w.heap.size + 1 + 1 < x6.heap.size) := by
        intro x6 la2 lc2 hk6 hb6
        have o1 := (HI.out.out.bel HXB.out hwlt).bel hb6 (Nat.lt_succ_self _)
        have o2 := (HI.out.box.bel HXB.out hwlt0).bel hb6 (by omega)
        have o3 := (HI.out.res.bel HXB.out (by omega)).bel hb6 (by omega)
        refine ⟨⟨o2.far (by omega) _, o3.far (by omega) _, ?_, ?_, ?_⟩, o1.cell 2, o1.frozen 2, o1.lt⟩
        · have := o1.set_ 2 (.slice la2 (k + 1) lc2)
          simpa using this
        · have e : cellsP (R.l.take (k + 1)) = cellsP (R.l.take k) ++ [.string xk, .int .i64 xl, .string xd, .int .i64 xp] := by
            rw [List.take_add_one, HXk.out]
            exact cellsOf_snoc _ _ _
          rw [e]
          exact ownsRow_setCell_below hk6 (Nat.lt_succ_self _) _
        · exact Below.setCell (HI.out.bel.trans ((HXB.out.mono HI.out.bel.size).trans (hb6.mono (by omega)))) (by show w.heap.size ≤ w.heap.size + 1 + 1; omega) _
      clear hPb HXB
      go_wp2_with (at_builtin; refine wpList_appN rfl (.tmp 101) (.tmp 103) 30 rfl (w.heap.size + 1 + 1 + 1) 65 iP (.agg #[.string ⟨#[]⟩, .int .i64 0, .string ⟨#[]⟩, .int .i64 0]) 4 48 Try.underlying30 hiP hzP rfl hsP (by omega) hbP (by omega) (.slice la k lc) k _ [.string xk, .int .i64 xl, .string xd, .int .i64 xp] X HRow.out rfl _ rfl rfl (by simp [Value.oneCell']) rfl (by omega) hbs ?_; intro v6 x6 hk6 hb6 hs6; obtain ⟨la2, lc2, rfl, _, _, _⟩ := own_slice hk6; obtain ⟨hInv, u1, u2, u3⟩ := HNew.out x6 la2 lc2 hk6 hb6; have HInv := Lib.hid hInv; clear hInv hk6 hb6 y2 z0 z1 z2 z3)
      go_roundw
      case rel => exact ⟨k + 1, la2, lc2, by omega, by go_num, HInv⟩
      case measure => simp [intOf]; omega
    · have hkk : k = kl := by omega
      subst hkk
      obtain ⟨_, _, e1, g1, g2, harr⟩ := own_slice HI.out.row
      simp only [Value.slice.injEq, true_and] at e1
      obtain ⟨rfl, rfl⟩ := e1
      have hfar := own_far HI.out.row
      rw [List.take_of_length_le (by have := HLen.out; omega)] at harr hfar
      have r0 : wr.cell? ⟨w.heap.size + 1, 0, none⟩ = some (.bool false) := HI.out.res.cell 0
      have r1 : wr.cell? ⟨w.heap.size + 1, 1, none⟩ = some (.int .i64 0) := HI.out.res.cell 1
      have r2 : wr.cell? ⟨w.heap.size + 1, 2, none⟩ = some (.slice none 0 0) := HI.out.res.cell 2
      have f0 := HI.out.res.frozen 0
      have f1 := HI.out.res.frozen 1
      have f2 := HI.out.res.frozen 2
      have o0 : wr.cell? ⟨w.heap.size + 1 + 1, 0, none⟩ = some (.bool true) := HI.out.out.cell 0
      have o1 : wr.cell? ⟨w.heap.size + 1 + 1, 1, none⟩ = some (.int .i64 0) := HI.out.out.cell 1
      have o2 : wr.cell? ⟨w.heap.size + 1 + 1, 2, none⟩ = some (.slice la k lc) := HI.out.out.cell 2
      have hwlt1 : w.heap.size + 1 < wr.heap.size := by omega
      have HFin : Hid (∀ v0 v1 v2, RR (.returned (.tuple #[.agg #[.bool true, .int .i64 0, .slice la k lc], .bool true])) (((wr.setCell ⟨w.heap.size + 1, 0, none⟩ v0).setCell ⟨w.heap.size + 1, 1, none⟩ v1).setCell ⟨w.heap.size + 1, 2, none⟩ v2)) := by
        intro v0 v1 v2
        have hlt2 : w.heap.size + 1 < w.heap.size + 1 + 1 + 1 := by omega
        refine HX.out la lc _ g1 g2 (((harr.set_far hfar hlt2).set_far hfar hlt2).set_far hfar hlt2) ?_
        refine Below.setCell (Below.setCell (Below.setCell HI.out.bel ?_ _) ?_ _) ?_ _ <;> exact Nat.le_succ _
      clear harr hfar
      go_wp2
      refine bodyPost_ret (v := .tuple #[.agg #[.bool true, .int .i64 0, .slice la k lc], .bool true]) (by simp [results, Try.results10, go_sem, r0, r1, r2, hwlt1]) rfl (HFin.out _ _ _)
end Go.Proofs.Ytpcgommdlgmknaa
