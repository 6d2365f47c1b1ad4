/- Several texts of one proof, one behind the other. -/
import Derived.Test.YtpcgommdlgmknaaNPk16
import Derived.OpenShut
import Derived.Lib.SmallJoins

/- A node that comes in as an argument. -/
namespace Go.Proofs.Ytpcgommdlgmknaa
open Go.RowKit Go.ChangeShapes Go.WideShapes Go.Deep Go.Joins

theorem cellsOf_at {α : Type} (f : α → List Value) (z : Nat) (hz : 0 < z) (hf : ∀ x, (f x).length = z) : ∀ (l : List α) (i : Nat) (v : Value), (cellsOf f l)[i]? = some v → ∃ y, l[i / z]? = some y ∧ (f y)[i % z]? = some v
  | [], i, v, h => by simp [cellsOf] at h
  | x :: r, i, v, h => by
    have e : cellsOf f (x :: r) = f x ++ cellsOf f r := rfl
    rw [e] at h
    by_cases hi : i < z
    · rw [List.getElem?_append_left (by rw [hf]; exact hi)] at h
      exact ⟨x, by rw [Nat.div_eq_of_lt hi]; rfl, by rw [Nat.mod_eq_of_lt hi]; exact h⟩
    · rw [List.getElem?_append_right (by rw [hf]; omega), hf] at h
      obtain ⟨y, h1, h2⟩ := cellsOf_at f z hz hf r (i - z) v h
      have e1 : i = (i - z) + z := by omega
      refine ⟨y, ?_, ?_⟩
      · rw [e1, Nat.add_div_right _ hz]; exact h1
      · rw [e1, Nat.add_mod_right]; exact h2

/-- A row of values that came in, element by element. -/
theorem row_of {α : Type} (f : α → List Value) (z : Nat) (hz : 0 < z) (hf : ∀ x, (f x).length = z) (Q : α → Prop) (w : World) (x : Addr) (len : Nat)
    (hex : ∀ i : Fin len, ∃ y, Q y ∧ ∀ (j : Nat) (v : Value), (f y)[j]? = some v → w.cell? ((x.add (i.1 * z)).add j) = some v) :
    ∃ L : List α, L.length = len ∧ Arr w.heap.size w (some x) (cellsOf f L) ∧ ∀ y ∈ L, Q y := by
  obtain ⟨g, hg⟩ := Classical.axiomOfChoice hex
  refine ⟨List.ofFn g, by simp, ?_, ?_⟩
  · by_cases h0 : len = 0
    · left; subst h0; simp [cellsOf]
    · right
      obtain ⟨b, o, spot⟩ := x
      have hlen0 : 0 < (f (g ⟨0, by omega⟩)).length := by rw [hf]; exact hz
      have hc0 := (hg ⟨0, by omega⟩).2 0 _ (List.getElem?_eq_getElem hlen0)
      have hspot : spot = none := by
        have := World.cell?_spot hc0
        simpa [Addr.add] using this
      subst hspot
      have hblk := World.block_lt_of_cell? _ _ hc0
      refine ⟨b, o, rfl, by simpa [Addr.add] using hblk, fun i v hv => ?_⟩
      obtain ⟨y, h1, h2⟩ := cellsOf_at f z hz hf _ i v hv
      rw [List.getElem?_ofFn] at h1
      split at h1
      · rename_i hlt
        simp only [Option.some.injEq] at h1
        subst h1
        have hh := (hg ⟨i / z, hlt⟩).2 _ v h2
        have e1 : ((⟨b, o, none⟩ : Addr).add (i / z * z)).add (i % z) = ⟨b, o + i, none⟩ := by
          have : i / z * z + i % z = i := Nat.div_add_mod' i z
          simp only [Addr.add]
          split <;> split <;> simp_all <;> omega
        rw [e1] at hh
        exact hh
      · cases h1
  · intro y hy
    rw [List.mem_ofFn] at hy
    obtain ⟨i, rfl⟩ := hy
    exact (hg i).1

/-- What the walk is told of a node that came in. -/
structure NIn (w : World) (n : Nd) (m : NB) : Prop where
  hk : m.kl = n.keys.length
  hc : m.cl = n.cells.length
  hd : m.dl = n.kids.length
  kcap : m.kl ≤ m.kc
  ccap : m.cl ≤ m.cc
  dcap : m.dl ≤ m.dc
  kmax : m.kl ≤ 9223372036854775807
  cmax : m.cl ≤ 9223372036854775807
  dmax : m.dl ≤ 9223372036854775807
  karr : Arr w.heap.size w m.ka (cellsS n.keys)
  carr : Arr w.heap.size w m.ca (cellsC n.cells)
  darr : Arr w.heap.size w m.da (cellsI n.kids)
  kfair : ∀ k ∈ n.keys, k.size ≤ 9223372036854775807
  cfair : ∀ c ∈ n.cells, c.data.size ≤ 9223372036854775807 ∧ (-9223372036854775808 ≤ c.len ∧ c.len ≤ 9223372036854775807) ∧ (-9223372036854775808 ≤ c.page ∧ c.page ≤ 9223372036854775807)
  dfair : ∀ p ∈ n.kids, -9223372036854775808 ≤ p ∧ p ≤ 9223372036854775807
theorem NIn.later {w w' : World} {n : Nd} {m : NB} (h : NIn w n m) (hb : Below w.heap.size w w') : NIn w' n m :=
  ⟨h.hk, h.hc, h.hd, h.kcap, h.ccap, h.dcap, h.kmax, h.cmax, h.dmax, h.karr.later (N := 0) hb, h.carr.later (N := 0) hb, h.darr.later (N := 0) hb, h.kfair, h.cfair, h.dfair⟩

set_option maxRecDepth 100000 in
theorem trod_strs {H : Type} {enc : TypeId × Value → H} {w : World} {fuel : Nat} {cs : List Value} {x : DataW H × List MemPlace}
    (h : DataW.trod enc Try.prog w 0 (fun _ => true) true fuel 22 cs = some x) :
    ∃ (a : Option Addr) (len cap : Nat) (L : List ByteArray), cs = [.slice a len cap] ∧ L.length = len ∧ len ≤ cap ∧ cap ≤ 9223372036854775807 ∧ Arr w.heap.size w a (cellsS L) ∧ ∀ s ∈ L, s.size ≤ 9223372036854775807 := by
  rcases open_slice Try.underlying22 h with ⟨hcs, _⟩ | ⟨x, l, c, m, n, D, Pl, hcs, _, hl, hm, hmm, _, hi⟩
  · exact ⟨none, 0, 0, [], hcs, rfl, by omega, by omega, .inl rfl, by simp⟩
  · have hmc : m = c := by simpa using hmm
    have hC : Try.prog.cellsOf 9 = 1 := by kernel_rfl
    unfold maxLen at hm
    obtain ⟨L, h1, h2, h3⟩ := row_of (fun s : ByteArray => [Value.string s]) 1 (by omega) (fun _ => rfl) (fun s => s.size ≤ 9223372036854775807) w x l (fun i => by
      obtain ⟨cs', hc', ht'⟩ := hi i.1 (by have := i.2; omega)
      rw [hC] at hc'
      obtain ⟨_, hlen, hat⟩ := World.cells?_some hc'
      obtain ⟨s, e0, -, w0⟩ := DataW.trod_string Try.underlying9 ht'
      unfold maxLen at w0
      subst e0
      exact ⟨s, w0, fun j v hj => by rw [hat j (by have := (List.getElem?_eq_some_iff.1 hj).1; simpa using this)]; exact hj⟩)
    exact ⟨some x, l, c, L, hcs, h1, hl, by omega, h2, h3⟩

set_option maxRecDepth 100000 in
theorem trod_cells {H : Type} {enc : TypeId × Value → H} {w : World} {fuel : Nat} {cs : List Value} {x : DataW H × List MemPlace}
    (h : DataW.trod enc Try.prog w 0 (fun _ => true) true fuel 23 cs = some x) :
    ∃ (a : Option Addr) (len cap : Nat) (L : List Cl), cs = [.slice a len cap] ∧ L.length = len ∧ len ≤ cap ∧ cap ≤ 9223372036854775807 ∧ Arr w.heap.size w a (cellsC L) ∧
      ∀ c ∈ L, c.data.size ≤ 9223372036854775807 ∧ (-9223372036854775808 ≤ c.len ∧ c.len ≤ 9223372036854775807) ∧ (-9223372036854775808 ≤ c.page ∧ c.page ≤ 9223372036854775807) := by
  rcases open_slice Try.underlying23 h with ⟨hcs, _⟩ | ⟨x, l, c, m, n, D, Pl, hcs, _, hl, hm, hmm, _, hi⟩
  · exact ⟨none, 0, 0, [], hcs, rfl, by omega, by omega, .inl rfl, by simp⟩
  · have hmc : m = c := by simpa using hmm
    have hC : Try.prog.cellsOf 63 = 3 := by kernel_rfl
    unfold maxLen at hm
    obtain ⟨L, h1, h2, h3⟩ := row_of (fun c : Cl => [Value.int .i64 c.len, .string c.data, .int .i64 c.page]) 3 (by omega) (fun _ => rfl) (fun c => c.data.size ≤ 9223372036854775807 ∧ (-9223372036854775808 ≤ c.len ∧ c.len ≤ 9223372036854775807) ∧ (-9223372036854775808 ≤ c.page ∧ c.page ≤ 9223372036854775807)) w x l (fun i => by
      obtain ⟨cs', hc', ht'⟩ := hi i.1 (by have := i.2; omega)
      rw [hC] at hc'
      obtain ⟨_, hlen, hat⟩ := World.cells?_some hc'
      obtain ⟨y0, y1, y2, n', _, _, h0, h1, h2⟩ := trod_struct3 Try.underlying63 ht'
      match cs', hlen with
      | [v0, v1, v2], _ =>
        have g0 : DataW.trod enc Try.prog w 0 (fun _ => true) true n' 3 [v0] = some y0 := h0
        have g1 : DataW.trod enc Try.prog w 0 (fun _ => true) true n' 9 [v1] = some y1 := h1
        have g2 : DataW.trod enc Try.prog w 0 (fun _ => true) true n' 3 [v2] = some y2 := h2
        obtain ⟨z, e0, -, w0⟩ := DataW.trod_int Try.underlying3 g0
        obtain ⟨s, e1, -, w1⟩ := DataW.trod_string Try.underlying9 g1
        obtain ⟨p, e2, -, w2⟩ := DataW.trod_int Try.underlying3 g2
        simp only [List.cons.injEq, and_true] at e0 e1 e2
        subst e0 e1 e2
        unfold maxLen at w1
        exact ⟨⟨z, s, p⟩, ⟨w1, bd_i64 w0, bd_i64 w2⟩, fun j v hj => by rw [hat j (by have := (List.getElem?_eq_some_iff.1 hj).1; simpa using this)]; exact hj⟩)
    exact ⟨some x, l, c, L, hcs, h1, hl, by omega, h2, h3⟩

set_option maxRecDepth 100000 in
theorem trod_nums {H : Type} {enc : TypeId × Value → H} {w : World} {fuel : Nat} {cs : List Value} {x : DataW H × List MemPlace}
    (h : DataW.trod enc Try.prog w 0 (fun _ => true) true fuel 24 cs = some x) :
    ∃ (a : Option Addr) (len cap : Nat) (L : List Int), cs = [.slice a len cap] ∧ L.length = len ∧ len ≤ cap ∧ cap ≤ 9223372036854775807 ∧ Arr w.heap.size w a (cellsI L) ∧ ∀ p ∈ L, -9223372036854775808 ≤ p ∧ p ≤ 9223372036854775807 := by
  rcases open_slice Try.underlying24 h with ⟨hcs, _⟩ | ⟨x, l, c, m, n, D, Pl, hcs, _, hl, hm, hmm, _, hi⟩
  · exact ⟨none, 0, 0, [], hcs, rfl, by omega, by omega, .inl rfl, by simp⟩
  · have hmc : m = c := by simpa using hmm
    have hC : Try.prog.cellsOf 3 = 1 := by kernel_rfl
    unfold maxLen at hm
    obtain ⟨L, h1, h2, h3⟩ := row_of (fun n : Int => [Value.int .i64 n]) 1 (by omega) (fun _ => rfl) (fun p => -9223372036854775808 ≤ p ∧ p ≤ 9223372036854775807) w x l (fun i => by
      obtain ⟨cs', hc', ht'⟩ := hi i.1 (by have := i.2; omega)
      rw [hC] at hc'
      obtain ⟨_, hlen, hat⟩ := World.cells?_some hc'
      obtain ⟨s, e0, -, w0⟩ := DataW.trod_int Try.underlying3 ht'
      subst e0
      exact ⟨s, bd_i64 w0, fun j v hj => by rw [hat j (by have := (List.getElem?_eq_some_iff.1 hj).1; simpa using this)]; exact hj⟩)
    exact ⟨some x, l, c, L, hcs, h1, hl, by omega, h2, h3⟩

set_option maxRecDepth 100000 in
theorem open_node {H : Type} {enc : TypeId × Value → H} {w : World} {r : Reach} {b0 : Nat} {v : Value} {d : DataW H} {p : List MemPlace} (hv : Value.okWide Try.prog w r b0 26 v) (h : DataW.Trod enc Try.prog w 0 (fun _ => true) true 26 v d p) :
    ∃ (n : Nd) (m : NB), v = m.v n.leaf ∧ NIn w n m := by
  obtain ⟨cs, rfl, _⟩ := okWide_struct Try.underlying26 hv
  obtain ⟨fuel, hf⟩ := h
  have hf2 : DataW.trod enc Try.prog w 0 (fun _ => true) true fuel 26 cs.toList = some (d, p) := hf
  obtain ⟨xs, n, _, hx, hl, hlen, hfin⟩ := DataW.trod_struct Try.underlying26 hf2
  have hC : Try.prog.cellsOf 26 = 4 := by kernel_rfl
  rw [hC] at hl
  obtain ⟨cl, hcl⟩ : ∃ cl, cs.toList = cl := ⟨_, rfl⟩
  have hcs : cs = cl.toArray := by rw [← hcl]
  rw [hcl] at hl hfin
  subst hcs
  match cl, hl with
  | [v0, v1, v2, v3], _ =>
    match xs, hlen with
    | [y0, y1, y2, y3], _ =>
      have g0 : DataW.trod enc Try.prog w 0 (fun _ => true) true n 4 [v0] = some y0 := hfin 0 _ rfl
      have g1 : DataW.trod enc Try.prog w 0 (fun _ => true) true n 22 [v1] = some y1 := hfin 1 _ rfl
      have g2 : DataW.trod enc Try.prog w 0 (fun _ => true) true n 23 [v2] = some y2 := hfin 2 _ rfl
      have g3 : DataW.trod enc Try.prog w 0 (fun _ => true) true n 24 [v3] = some y3 := hfin 3 _ rfl
      obtain ⟨bl, e0, -⟩ := DataW.trod_bool Try.underlying4 g0
      obtain ⟨ka, kl, kc, ks, e1, k1, k2, k3, k4, k5⟩ := trod_strs g1
      obtain ⟨ca, cl, cc, cs, e2, c1, c2, c3, c4, c5⟩ := trod_cells g2
      obtain ⟨da, dl, dc, ps, e3, d1, d2, d3, d4, d5⟩ := trod_nums g3
      simp only [List.cons.injEq, and_true] at e0 e1 e2 e3
      subst e0 e1 e2 e3
      exact ⟨⟨bl, ks, cs, ps⟩, ⟨ka, kl, kc, ca, cl, cc, da, dl, dc⟩, rfl, ⟨k1.symm, c1.symm, d1.symm, k2, c2, d2, by simp only; omega, by simp only; omega, by simp only; omega, k4, c4, d4, k5, c5, d5⟩⟩
end Go.Proofs.Ytpcgommdlgmknaa

/- The walk of the law's Great. -/
namespace Go.Proofs.Ytpcgommdlgmknaa
open Go.RowKit

/-- A node that is not too great. -/
structure Fits (n : Nd) : Prop where
  kn : n.keys.length ≤ 60
  ks : ∀ k ∈ n.keys, k.size ≤ 200
  cn : n.cells.length ≤ 60
  cs : ∀ c ∈ n.cells, c.data.size ≤ 300
  dn : n.kids.length ≤ 80
theorem NIn.at_ {w : World} {n : Nd} {m : NB} (h : NIn w n m) (f : Fits n) : NAt w n m := by
  have h1 := h.hk
  have h2 := h.hc
  have h3 := h.hd
  have f1 := f.kn
  have f2 := f.cn
  have f3 := f.dn
  exact ⟨h.hk, h.hc, h.hd, h.kcap, h.ccap, h.dcap, by omega, by omega, by omega, h.karr, h.carr, h.darr, fun k hk => by have := f.ks k hk; omega, fun c hc => ⟨by have := f.cs c hc; omega, (h.cfair c hc).2⟩, h.dfair⟩
def RetGreat (w : World) (n : Nd) (e : Ending) (w' : World) : Prop := ∃ r : Bool, e = .returned (.bool r) ∧ (r = false → Fits n) ∧ Below w.heap.size w w'

def UpS {α : Type} (f : α → Nat) (b : Nat) (l : List α) (k : Nat) : Prop := ∀ x ∈ l.take k, f x ≤ b
theorem UpS.succ {α : Type} {f : α → Nat} {b : Nat} {l : List α} {k : Nat} (h : UpS f b l k) (hk : k < l.length) (hx : f l[k] ≤ b) : UpS f b l (k + 1) := by
  intro x hx2
  rw [List.take_succ_eq_append_getElem hk] at hx2
  rcases List.mem_append.1 hx2 with h1 | h1
  · exact h x h1
  · simp at h1; subst h1; exact hx

set_option maxRecDepth 100000 in
set_option maxHeartbeats 2000000 in
theorem NGreat_any (n : Nd) (m : NB) (w : World) (h : NIn w n m) :
    Calls Try.prog 8 #[m.v n.leaf] w (RetGreat w n) := by
  have hbx := Below.box w (.cells #[.bool n.leaf, .slice m.ka m.kl m.kc, .slice m.ca m.cl m.cc, .slice m.da m.dl m.dc] 26)
  have HKA := Lib.hid (h.later hbx).karr
  have HCA := Lib.hid (h.later hbx).carr
  have HK := Lib.hid h.hk
  have HC := Lib.hid h.hc
  have HD := Lib.hid h.hd
  have kmax := h.kmax
  have cmax := h.cmax
  have dmax := h.dmax
  have HKF := Lib.hid h.kfair
  have HCF := Lib.hid h.cfair
  have HY : Hid (RetGreat w n (.returned (.bool true)) _) := ⟨true, rfl, by simp, hbx⟩
  have HF : Hid (∀ r, (r = false → Fits n) → RetGreat w n (.returned (.bool r)) _) := fun r hr => ⟨r, rfl, hr, hbx⟩
  clear hbx h
  obtain ⟨ka, kl, kc, ca, cl, cc, da, dl, dc⟩ := m
  obtain ⟨leaf, ks, cs, ps⟩ := n
  simp only at *
  generalize hRR : RetGreat w ⟨leaf, ks, cs, ps⟩ = RR at *
  clear hRR
  go_enter Try.func8, Try.ntmps8
  go_wp2_with fail
  go_loop [3] (fun i => ∃ k : Nat, k ≤ kl ∧ i = .int .i64 k ∧ Hid (UpS ByteArray.size 200 ks k) ∧ (0 < k → kl ≤ 60)) (fun i => kl - (intOf i).toNat)
  case atStart => exact ⟨0, by omega, rfl, fun x hx => by simp at hx, by omega⟩
  case round =>
    obtain ⟨k, hk, rfl, HI, h60⟩ := hrel
    by_cases hlt : k < kl
    · have hkl : k < ks.length := by have := HK.out; omega
      obtain ⟨b, o, rfl, hbN, c0⟩ := strAt HKA.out hkl
      have hfs := HKF.out _ (List.getElem_mem hkl)
      have HST : Hid (ks[k].size ≤ 200 → UpS ByteArray.size 200 ks (k + 1)) := fun h => HI.out.succ hkl h
      generalize ks[k]'hkl = y at *
      by_cases h6 : 60 < kl
      · have q : decide ((60 : Int) < (kl : Int)) = true := by simp; omega
        clear h60
        go_wp2
        exact HY.out
      · have q : decide ((60 : Int) < (kl : Int)) = false := by simp; omega
        by_cases h2 : 200 < y.size
        · have q2 : decide ((200 : Int) < (y.size : Int)) = true := by simp; omega
          clear h60
          go_wp2
          exact HY.out
        · have q2 : decide ((200 : Int) < (y.size : Int)) = false := by simp; omega
          have HST2 := Lib.hid (HST.out (by omega))
          clear h60 HST
          go_wp2
          go_round
          case rel => exact ⟨k + 1, by omega, by go_num, HST2, by omega⟩
          case measure => simp [intOf]; omega
    · have HKS : Hid (∀ x ∈ ks, x.size ≤ 200) := by
        have := HI.out
        unfold UpS at this
        rw [List.take_of_length_le (by have := HK.out; omega)] at this
        exact this
      have hkn : kl ≤ 60 := by
        rcases Nat.eq_zero_or_pos kl with h0 | h0
        · omega
        · exact h60 (by omega)
      clear h60
      go_wp2_with fail
      go_loop [4] (fun i => ∃ k : Nat, k ≤ cl ∧ i = .int .i64 k ∧ Hid (UpS (fun c : Cl => c.data.size) 300 cs k) ∧ (0 < k → cl ≤ 60)) (fun i => cl - (intOf i).toNat)
      case atStart => exact ⟨0, by omega, rfl, fun x hx => by simp at hx, by omega⟩
      case round =>
        obtain ⟨j, hj, rfl, HI2, h60⟩ := hrel
        by_cases hlt2 : j < cl
        · have hjl : j < cs.length := by have := HC.out; omega
          obtain ⟨b, o, rfl, hbN, c0, c1, c2⟩ := cellAt HCA.out hjl
          have hfs := (HCF.out _ (List.getElem_mem hjl)).1
          have HST : Hid (cs[j].data.size ≤ 300 → UpS (fun c : Cl => c.data.size) 300 cs (j + 1)) := fun h => HI2.out.succ hjl h
          generalize cs[j]'hjl = y at *
          obtain ⟨yl, yd, yp⟩ := y
          simp only at *
          by_cases h6 : 60 < cl
          · have q : decide ((60 : Int) < (cl : Int)) = true := by simp; omega
            clear h60
            go_wp2
            exact HY.out
          · have q : decide ((60 : Int) < (cl : Int)) = false := by simp; omega
            by_cases h2 : 300 < yd.size
            · have q2 : decide ((300 : Int) < (yd.size : Int)) = true := by simp; omega
              clear h60
              go_wp2
              exact HY.out
            · have q2 : decide ((300 : Int) < (yd.size : Int)) = false := by simp; omega
              have HST2 := Lib.hid (HST.out (by omega))
              clear h60 HST
              go_wp2
              go_round
              case rel => exact ⟨j + 1, by omega, by go_num, HST2, by omega⟩
              case measure => simp [intOf]; omega
        · have HCS : Hid (∀ x ∈ cs, x.data.size ≤ 300) := by
            have := HI2.out
            unfold UpS at this
            rw [List.take_of_length_le (by have := HC.out; omega)] at this
            exact this
          have hcn : cl ≤ 60 := by
            rcases Nat.eq_zero_or_pos cl with h0 | h0
            · omega
            · exact h60 (by omega)
          have HE := Lib.hid (HF.out (decide ((80 : Int) < (dl : Int))) (fun h => ⟨by have := HK.out; simp only; omega, HKS.out, by have := HC.out; simp only; omega, HCS.out, by have := HD.out; simp at h; simp only; omega⟩))
          clear h60
          go_wp2
          exact HE.out
end Go.Proofs.Ytpcgommdlgmknaa

/- The walk of the law NodeBack. -/
namespace Go.Proofs.Ytpcgommdlgmknaa
open Go.RowKit

theorem Bs.later {w w' : World} {a : Option Addr} {l : List Nat} (h : Bs w.heap.size w a l) (hb : Below w.heap.size w w') : Bs w'.heap.size w' a l := (h.below hb).mono hb.size
theorem writeN_ok {n : Nd} (h : n.ok = true) (h5 : (encN n.asR).length ≤ 512) : writeN n = (pageN n.asR, 0) := by unfold writeN; rw [h, if_pos rfl, if_pos h5]
theorem writeN_long {n : Nd} (h : n.ok = true) (h5 : ¬ (encN n.asR).length ≤ 512) : writeN n = ([], 2) := by unfold writeN; rw [h, if_pos rfl, if_neg h5]
theorem writeN_no {n : Nd} (h : n.ok = false) : writeN n = ([], 3) := by unfold writeN; rw [h]; rfl
/-- What was read is a right node of at most a page. -/
theorem read_write {b : List Nat} {x : Rn} (hb : ∀ c ∈ b, c < 256) (h : decN b = some x) : writeN x.asN = (b, 0) := by
  obtain ⟨h1, h2, h3⟩ := page_decN hb h
  have h4 := asR_asN h1.plain
  have h5 : x.asN.ok = true := by rw [ok_asN h1.plain]; exact Rn.ok_yes h1
  rw [writeN_ok h5 (by rw [h4.1]; exact h2), h4.1, h3]

set_option maxRecDepth 100000 in
set_option maxHeartbeats 8000000 in
theorem nodeBack_walk (n : Nd) (m : NB) (a : Option Addr) (len cap : Nat) (z : List Int) (w : World) (hin : NIn w n m) (hr : IsRow .u8 w a len cap z) :
    Calls Try.prog 6 #[m.v n.leaf, .slice a len cap] w fun e w' => e = .returned (.bool true) ∧ Below w.heap.size w w' := by
  obtain ⟨b, rfl, hbs, hlc, hcm⟩ := hr.bs
  have hbx := Below.box w (.cells #[.bool n.leaf, .slice m.ka m.kl m.kc, .slice m.ca m.cl m.cc, .slice m.da m.dl m.dc] 26)
  have HGr := Lib.hid (NGreat_any n m _ (hin.later hbx))
  have HAl := Lib.hid alive_any10
  have HIn := Lib.hid hin
  have HBs := Lib.hid hbs
  have HBx := Lib.hid hbx
  have hblk0 := Blk.new w 26 #[.bool n.leaf, .slice m.ka m.kl m.kc, .slice m.ca m.cl m.cc, .slice m.da m.dl m.dc]
  have HBlk0 := Lib.hid hblk0
  obtain ⟨lf, hlf⟩ : ∃ lf, n.leaf = lf := ⟨_, rfl⟩
  rw [hlf] at HGr HBx HBlk0 ⊢
  have HLf := Lib.hid hlf
  clear hin hr hbs hbx hblk0 hlf
  obtain ⟨ka, kl, kc, ca, cl, cc, da, dl, dc⟩ := m
  simp only at *
  go_enter Try.func6, Try.ntmps6
  go_wp2_with fail
  refine HGr.out.mono ?_
  rintro e w1 ⟨r, rfl, hfit, hb1⟩
  have L01 : Later _ w1 := hb1
  have HB1 : Hid (Below w.heap.size w w1) := HBx.out.trans (Below.mono L01 HBx.out.size)
  cases r with
  | true =>
    clear hfit hb1 L01
    go_wp2_with fail
    refine (HAl.out _).mono ?_
    rintro e w2 ⟨rfl, hb2⟩
    go_wp2
    go_ret
    exact ⟨rfl, HB1.out.trans (Below.mono hb2 HB1.out.size)⟩
  | false =>
    have HF := Lib.hid (hfit rfl)
    have HNA := Lib.hid (HIn.out.at_ HF.out)
    by_cases h600 : 600 < b.length
    · have q : decide ((600 : Int) < (b.length : Int)) = true := by simp; omega
      clear hfit hb1 L01
      go_wp2_with fail
      refine (HAl.out _).mono ?_
      rintro e w2 ⟨rfl, hb2⟩
      go_wp2
      go_ret
      exact ⟨rfl, HB1.out.trans (Below.mono hb2 HB1.out.size)⟩
    · have q : decide ((600 : Int) < (b.length : Int)) = false := by simp; omega
      have HBk1 : Hid (Blk w1 w.heap.size 26 #[.bool lf, .slice ka kl kc, .slice ca cl cc, .slice da dl dc]) := HBlk0.out.bel L01 HBlk0.out.lt
      have hkl : kl ≤ 60 := by have := HF.out.kn; have := HNA.out.hk; simp only at this; omega
      clear hfit hb1 L01
      have x0 : w1.cell? ⟨w.heap.size, 0, none⟩ = some (.bool lf) := Blk.cell HBk1.out 0
      have x1 : w1.cell? ⟨w.heap.size, 1, none⟩ = some (.slice ka kl kc) := Blk.cell HBk1.out 1
      have x2 : w1.cell? ⟨w.heap.size, 2, none⟩ = some (.slice ca cl cc) := Blk.cell HBk1.out 2
      have x3 : w1.cell? ⟨w.heap.size, 3, none⟩ = some (.slice da dl dc) := Blk.cell HBk1.out 3
      have xlt : w.heap.size < w1.heap.size := Blk.lt HBk1.out
      have HW := fun X (hb : Below w.heap.size w X) => NWrite_any n ⟨ka, kl, kc, ca, cl, cc, da, dl, dc⟩ X (HNA.out.later hb) (by simp only; omega)
      rw [HLf.out] at HW
      have HRt := fun X (hb : Below w.heap.size w X) => NRight_any n ⟨ka, kl, kc, ca, cl, cc, da, dl, dc⟩ X (HNA.out.later hb)
      rw [HLf.out] at HRt
      have HRt := Lib.hid HRt
      have HSz := fun X (hb : Below w.heap.size w X) => NSize_any n ⟨ka, kl, kc, ca, cl, cc, da, dl, dc⟩ X (HNA.out.later hb) (by simp only; omega)
      rw [HLf.out] at HSz
      have HRd := Lib.hid (fun X (hb : Below w.heap.size w X) => NRead_any b a b.length cap X (HBs.out.later hb) rfl hlc (by omega))
      cases hok : n.ok with
      | false =>
        rw [writeN_no hok] at HW
        have HW := Lib.hid HW
        rw [hok] at HRt
        have HSz := Lib.hid HSz
        clear hok
        go_wp2_with fail
        refine (HW.out w1 HB1.out).mono ?_
        rintro e w2 ⟨a2, c2, rfl, _, _, _, L12⟩
        have HB2 : Hid (Below w.heap.size w w2) := HB1.out.trans (Below.mono L12 HB1.out.size)
        have HBk2 := Lib.hid (HBk1.out.bel L12 HBk1.out.lt)
        clear L12 x0 x1 x2 x3 xlt
        cases hdec : decN b with
        | none =>
          have HRd2 := HRd.out w2 HB2.out
          have hrd : rdNd b = (zeroN, 3) := rdNd_no hdec
          have HRD := Lib.hid hrd
          clear hrd hdec
          go_wp2_with fail
          refine HRd2.mono ?_
          rintro e w5 ⟨m5, rfl, hN5, hm5, L5⟩
          rw [HRD.out] at hN5 ⊢
          rw [show (((zeroN, (3 : Int)) : Nd × Int).1).leaf = false from rfl]
          replace hN5 : NAt w5 zeroN m5 := hN5
          have HB5 : Hid (Below w.heap.size w w5) := HB2.out.trans (Below.mono L5 HB2.out.size)
          have L56 : Later w5 (w5.alloc (.cells #[.bool false, .slice m5.ka m5.kl m5.kc, .slice m5.ca m5.cl m5.cc, .slice m5.da m5.dl m5.dc] 26)) := Below.box _ _
          have HW6 := NWrite_any zeroN m5 _ (hN5.later L56) (by omega)
          rw [zeroN_write] at HW6
          rw [show zeroN.leaf = false from rfl] at HW6
          have HW6 := Lib.hid HW6
          have HB6 : Hid (Below w.heap.size w _) := HB5.out.trans (Below.mono L56 HB5.out.size)
          have HBk6 := Lib.hid ((HBk2.out.bel L5 HBk2.out.lt).alloc (.cells #[.bool false, .slice m5.ka m5.kl m5.kc, .slice m5.ca m5.cl m5.cc, .slice m5.da m5.dl m5.dc] 26))
          clear HRd2 hN5 L5 L56
          go_wp2_with fail
          refine HW6.out.mono ?_
          rintro e w7 ⟨a7, c7, rfl, hc7, hm7, hbs7, L67⟩
          have HB7 : Hid (Below w.heap.size w w7) := HB6.out.trans (Below.mono L67 HB6.out.size)
          have HBk7 := Lib.hid (HBk6.out.bel L67 HBk6.out.lt)
          have HBs7 := Lib.hid hbs7
          clear L67 hbs7 HW6 HB6 HBk6
          go_wp2_with fail
          refine (HAl.out _).mono ?_
          rintro e w8 ⟨rfl, L78⟩
          have HB8 : Hid (Below w.heap.size w w8) := HB7.out.trans (Below.mono L78 HB7.out.size)
          have HBk8 := Lib.hid (HBk7.out.bel L78 HBk7.out.lt)
          have HBs8 := Lib.hid (HBs7.out.later L78)
          have x0 : w8.cell? ⟨w.heap.size, 0, none⟩ = some (.bool lf) := Blk.cell HBk8.out 0
          have x1 : w8.cell? ⟨w.heap.size, 1, none⟩ = some (.slice ka kl kc) := Blk.cell HBk8.out 1
          have x2 : w8.cell? ⟨w.heap.size, 2, none⟩ = some (.slice ca cl cc) := Blk.cell HBk8.out 2
          have x3 : w8.cell? ⟨w.heap.size, 3, none⟩ = some (.slice da dl dc) := Blk.cell HBk8.out 3
          have xlt : w.heap.size < w8.heap.size := Blk.lt HBk8.out
          clear L78 HBk7 HBs7
          go_wp2_with fail
          refine (HRt.out w8 HB8.out).mono ?_
          rintro e w9 ⟨rfl, L89⟩
          have HB9 : Hid (Below w.heap.size w w9) := HB8.out.trans (Below.mono L89 HB8.out.size)
          have HBk9 := Lib.hid (HBk8.out.bel L89 HBk8.out.lt)
          have HBs9 := Lib.hid (HBs8.out.later L89)
          clear L89
          go_wp2
          go_ret
          exact ⟨rfl, HB9.out⟩
        | some x =>
          have HRd2 := HRd.out w2 HB2.out
          have hrd : rdNd b = (x.asN, 0) := rdNd_yes hdec
          have HWr : Hid (writeN x.asN = (b, 0)) := read_write HBs.out.1 hdec
          have HRD := Lib.hid hrd
          clear hrd hdec
          go_wp2_with fail
          refine HRd2.mono ?_
          rintro e w5 ⟨m5, rfl, hN5, hm5, L5⟩
          rw [HRD.out] at hN5 ⊢
          rw [show (((x.asN, (0 : Int)) : Nd × Int).1).leaf = x.asN.leaf from rfl]
          replace hN5 : NAt w5 x.asN m5 := hN5
          have HB5 : Hid (Below w.heap.size w w5) := HB2.out.trans (Below.mono L5 HB2.out.size)
          have L56 : Later w5 (w5.alloc (.cells #[.bool x.asN.leaf, .slice m5.ka m5.kl m5.kc, .slice m5.ca m5.cl m5.cc, .slice m5.da m5.dl m5.dc] 26)) := Below.box _ _
          have HW6 := NWrite_any x.asN m5 _ (hN5.later L56) (by omega)
          rw [HWr.out] at HW6
          have HW6 := Lib.hid HW6
          have HB6 : Hid (Below w.heap.size w _) := HB5.out.trans (Below.mono L56 HB5.out.size)
          have HBk6 := Lib.hid ((HBk2.out.bel L5 HBk2.out.lt).alloc (.cells #[.bool x.asN.leaf, .slice m5.ka m5.kl m5.kc, .slice m5.ca m5.cl m5.cc, .slice m5.da m5.dl m5.dc] 26))
          clear HRd2 hN5 L5 L56
          go_wp2_with fail
          refine HW6.out.mono ?_
          rintro e w7 ⟨a7, c7, rfl, hc7, hm7, hbs7, L67⟩
          have HB7 : Hid (Below w.heap.size w w7) := HB6.out.trans (Below.mono L67 HB6.out.size)
          have HBk7 := Lib.hid (HBk6.out.bel L67 HBk6.out.lt)
          have HBs7 := Lib.hid hbs7
          clear L67 hbs7 HW6 HB6 HBk6
          go_wp2_with fail
          refine (HAl.out _).mono ?_
          rintro e w8 ⟨rfl, L78⟩
          have HB8 : Hid (Below w.heap.size w w8) := HB7.out.trans (Below.mono L78 HB7.out.size)
          have HBk8 := Lib.hid (HBk7.out.bel L78 HBk7.out.lt)
          have HBs8 := Lib.hid (HBs7.out.later L78)
          have x0 : w8.cell? ⟨w.heap.size, 0, none⟩ = some (.bool lf) := Blk.cell HBk8.out 0
          have x1 : w8.cell? ⟨w.heap.size, 1, none⟩ = some (.slice ka kl kc) := Blk.cell HBk8.out 1
          have x2 : w8.cell? ⟨w.heap.size, 2, none⟩ = some (.slice ca cl cc) := Blk.cell HBk8.out 2
          have x3 : w8.cell? ⟨w.heap.size, 3, none⟩ = some (.slice da dl dc) := Blk.cell HBk8.out 3
          have xlt : w.heap.size < w8.heap.size := Blk.lt HBk8.out
          clear L78 HBk7 HBs7
          go_wp2_with fail
          refine (HRt.out w8 HB8.out).mono ?_
          rintro e w9 ⟨rfl, L89⟩
          have HB9 : Hid (Below w.heap.size w w9) := HB8.out.trans (Below.mono L89 HB8.out.size)
          have HBk9 := Lib.hid (HBk8.out.bel L89 HBk8.out.lt)
          have HBs9 := Lib.hid (HBs8.out.later L89)
          clear L89
          have cv1 := HBs9.out.conv 27 5 Try.underlying27 Try.underlying5 9 Try.underlying9 b.length c7 rfl
          have cv2 := (HBs.out.later HB9.out).conv 27 5 Try.underlying27 Try.underlying5 9 Try.underlying9 b.length cap rfl
          go_wp2
          go_ret
          exact ⟨rfl, HB9.out⟩
      | true =>
        rw [hok] at HRt HSz
        by_cases h5 : (encN n.asR).length ≤ 512
        · rw [writeN_ok hok h5] at HW
          have hrd : rdNd (pageN n.asR) = (n, 0) := by rw [rdNd_yes (decN_page (Nd.ok_true hok).asR h5), (asN_asR (Nd.ok_true hok).shaped).1]
          have hpl := pageN_len h5
          have HW := Lib.hid HW
          rw [if_pos rfl] at HSz
          generalize (encN n.asR).length = E at HSz h5
          have HSz := Lib.hid HSz
          have q5 : decide ((E : Int) ≤ 512) = true := by simp; omega
          have HRDn := Lib.hid hrd
          have HPl := Lib.hid hpl
          clear hok hrd hpl
          go_wp2_with fail
          refine (HW.out w1 HB1.out).mono ?_
          rintro e w2 ⟨a2, c2, rfl, hcap2, hcm2, hbs2, L12⟩
          rw [show (((pageN n.asR, (0 : Int)) : List Nat × Int).1).length = 512 from HPl.out] at hcap2 ⊢
          have HB2 : Hid (Below w.heap.size w w2) := HB1.out.trans (Below.mono L12 HB1.out.size)
          have HBk2 := Lib.hid (HBk1.out.bel L12 HBk1.out.lt)
          have HRd1 := Lib.hid (NRead_any (pageN n.asR) a2 512 c2 w2 hbs2 HPl.out.symm hcap2 (by omega))
          clear L12 x0 x1 x2 x3 xlt hbs2
          go_wp2_with fail
          refine HRd1.out.mono ?_
          rintro e w3 ⟨m3, rfl, hN3, hm3, L23⟩
          rw [HRDn.out] at hN3 ⊢
          rw [show (((n, (0 : Int)) : Nd × Int).1).leaf = lf from HLf.out]
          replace hN3 : NAt w3 n m3 := hN3
          have HB3 : Hid (Below w.heap.size w w3) := HB2.out.trans (Below.mono L23 HB2.out.size)
          have L34 : Later w3 (w3.alloc (.cells #[.bool lf, .slice m3.ka m3.kl m3.kc, .slice m3.ca m3.cl m3.cc, .slice m3.da m3.dl m3.dc] 26)) := Below.box _ _
          have HB34 : Hid (Below w.heap.size w _) := HB3.out.trans (Below.mono L34 HB3.out.size)
          have HBk3 := Lib.hid (HBk2.out.bel L23 HBk2.out.lt)
          have HBk34 := Lib.hid (HBk3.out.alloc (.cells #[.bool lf, .slice m3.ka m3.kl m3.kc, .slice m3.ca m3.cl m3.cc, .slice m3.da m3.dl m3.dc] 26))
          have HSm := NSame_any n n m3 ⟨ka, kl, kc, ca, cl, cc, da, dl, dc⟩ _ (hN3.later L34) (HNA.out.later HB34.out)
          rw [decide_eq_true rfl, HLf.out] at HSm
          have HSm := Lib.hid HSm
          have x0 : w3.cell? ⟨w.heap.size, 0, none⟩ = some (.bool lf) := Blk.cell HBk3.out 0
          have x1 : w3.cell? ⟨w.heap.size, 1, none⟩ = some (.slice ka kl kc) := Blk.cell HBk3.out 1
          have x2 : w3.cell? ⟨w.heap.size, 2, none⟩ = some (.slice ca cl cc) := Blk.cell HBk3.out 2
          have x3 : w3.cell? ⟨w.heap.size, 3, none⟩ = some (.slice da dl dc) := Blk.cell HBk3.out 3
          have xlt : w.heap.size < w3.heap.size := Blk.lt HBk3.out
          clear hN3 L23 L34 HRd1
          go_wp2_with fail
          refine HSm.out.mono ?_
          rintro e w4 ⟨rfl, L4⟩
          have HB4 : Hid (Below w.heap.size w w4) := HB34.out.trans (Below.mono L4 HB34.out.size)
          have HBk4 := Lib.hid (HBk34.out.bel L4 HBk34.out.lt)
          clear L4 x0 x1 x2 x3 xlt HSm
          cases hdec : decN b with
          | none =>
            have HRd2 := HRd.out w4 HB4.out
            have hrd : rdNd b = (zeroN, 3) := rdNd_no hdec
            have HRD := Lib.hid hrd
            clear hrd hdec
            go_wp2_with fail
            refine HRd2.mono ?_
            rintro e w5 ⟨m5, rfl, hN5, hm5, L5⟩
            rw [HRD.out] at hN5 ⊢
            rw [show (((zeroN, (3 : Int)) : Nd × Int).1).leaf = false from rfl]
            replace hN5 : NAt w5 zeroN m5 := hN5
            have HB5 : Hid (Below w.heap.size w w5) := HB4.out.trans (Below.mono L5 HB4.out.size)
            have L56 : Later w5 (w5.alloc (.cells #[.bool false, .slice m5.ka m5.kl m5.kc, .slice m5.ca m5.cl m5.cc, .slice m5.da m5.dl m5.dc] 26)) := Below.box _ _
            have HW6 := NWrite_any zeroN m5 _ (hN5.later L56) (by omega)
            rw [zeroN_write] at HW6
            rw [show zeroN.leaf = false from rfl] at HW6
            have HW6 := Lib.hid HW6
            have HB6 : Hid (Below w.heap.size w _) := HB5.out.trans (Below.mono L56 HB5.out.size)
            have HBk6 := Lib.hid ((HBk4.out.bel L5 HBk4.out.lt).alloc (.cells #[.bool false, .slice m5.ka m5.kl m5.kc, .slice m5.ca m5.cl m5.cc, .slice m5.da m5.dl m5.dc] 26))
            clear HRd2 hN5 L5 L56
            go_wp2_with fail
            refine HW6.out.mono ?_
            rintro e w7 ⟨a7, c7, rfl, hc7, hm7, hbs7, L67⟩
            have HB7 : Hid (Below w.heap.size w w7) := HB6.out.trans (Below.mono L67 HB6.out.size)
            have HBk7 := Lib.hid (HBk6.out.bel L67 HBk6.out.lt)
            have HBs7 := Lib.hid hbs7
            clear L67 hbs7 HW6 HB6 HBk6
            go_wp2_with fail
            refine (HAl.out _).mono ?_
            rintro e w8 ⟨rfl, L78⟩
            have HB8 : Hid (Below w.heap.size w w8) := HB7.out.trans (Below.mono L78 HB7.out.size)
            have HBk8 := Lib.hid (HBk7.out.bel L78 HBk7.out.lt)
            have HBs8 := Lib.hid (HBs7.out.later L78)
            have x0 : w8.cell? ⟨w.heap.size, 0, none⟩ = some (.bool lf) := Blk.cell HBk8.out 0
            have x1 : w8.cell? ⟨w.heap.size, 1, none⟩ = some (.slice ka kl kc) := Blk.cell HBk8.out 1
            have x2 : w8.cell? ⟨w.heap.size, 2, none⟩ = some (.slice ca cl cc) := Blk.cell HBk8.out 2
            have x3 : w8.cell? ⟨w.heap.size, 3, none⟩ = some (.slice da dl dc) := Blk.cell HBk8.out 3
            have xlt : w.heap.size < w8.heap.size := Blk.lt HBk8.out
            clear L78 HBk7 HBs7
            go_wp2_with fail
            refine (HRt.out w8 HB8.out).mono ?_
            rintro e w9 ⟨rfl, L89⟩
            have HB9 : Hid (Below w.heap.size w w9) := HB8.out.trans (Below.mono L89 HB8.out.size)
            have HBk9 := Lib.hid (HBk8.out.bel L89 HBk8.out.lt)
            have HBs9 := Lib.hid (HBs8.out.later L89)
            clear L89
            have x0 : w9.cell? ⟨w.heap.size, 0, none⟩ = some (.bool lf) := Blk.cell HBk9.out 0
            have x1 : w9.cell? ⟨w.heap.size, 1, none⟩ = some (.slice ka kl kc) := Blk.cell HBk9.out 1
            have x2 : w9.cell? ⟨w.heap.size, 2, none⟩ = some (.slice ca cl cc) := Blk.cell HBk9.out 2
            have x3 : w9.cell? ⟨w.heap.size, 3, none⟩ = some (.slice da dl dc) := Blk.cell HBk9.out 3
            have xlt : w.heap.size < w9.heap.size := Blk.lt HBk9.out
            go_wp2_with fail
            refine (HSz.out w9 HB9.out).mono ?_
            rintro e w10 ⟨rfl, L9⟩
            have HB10 : Hid (Below w.heap.size w w10) := HB9.out.trans (Below.mono L9 HB9.out.size)
            have HBs10 := Lib.hid (HBs9.out.later L9)
            clear L9
            go_wp2
            go_ret
            exact ⟨rfl, HB10.out⟩
          | some x =>
            have HRd2 := HRd.out w4 HB4.out
            have hrd : rdNd b = (x.asN, 0) := rdNd_yes hdec
            have HWr : Hid (writeN x.asN = (b, 0)) := read_write HBs.out.1 hdec
            have HRD := Lib.hid hrd
            clear hrd hdec
            go_wp2_with fail
            refine HRd2.mono ?_
            rintro e w5 ⟨m5, rfl, hN5, hm5, L5⟩
            rw [HRD.out] at hN5 ⊢
            rw [show (((x.asN, (0 : Int)) : Nd × Int).1).leaf = x.asN.leaf from rfl]
            replace hN5 : NAt w5 x.asN m5 := hN5
            have HB5 : Hid (Below w.heap.size w w5) := HB4.out.trans (Below.mono L5 HB4.out.size)
            have L56 : Later w5 (w5.alloc (.cells #[.bool x.asN.leaf, .slice m5.ka m5.kl m5.kc, .slice m5.ca m5.cl m5.cc, .slice m5.da m5.dl m5.dc] 26)) := Below.box _ _
            have HW6 := NWrite_any x.asN m5 _ (hN5.later L56) (by omega)
            rw [HWr.out] at HW6
            have HW6 := Lib.hid HW6
            have HB6 : Hid (Below w.heap.size w _) := HB5.out.trans (Below.mono L56 HB5.out.size)
            have HBk6 := Lib.hid ((HBk4.out.bel L5 HBk4.out.lt).alloc (.cells #[.bool x.asN.leaf, .slice m5.ka m5.kl m5.kc, .slice m5.ca m5.cl m5.cc, .slice m5.da m5.dl m5.dc] 26))
            clear HRd2 hN5 L5 L56
            go_wp2_with fail
            refine HW6.out.mono ?_
            rintro e w7 ⟨a7, c7, rfl, hc7, hm7, hbs7, L67⟩
            have HB7 : Hid (Below w.heap.size w w7) := HB6.out.trans (Below.mono L67 HB6.out.size)
            have HBk7 := Lib.hid (HBk6.out.bel L67 HBk6.out.lt)
            have HBs7 := Lib.hid hbs7
            clear L67 hbs7 HW6 HB6 HBk6
            go_wp2_with fail
            refine (HAl.out _).mono ?_
            rintro e w8 ⟨rfl, L78⟩
            have HB8 : Hid (Below w.heap.size w w8) := HB7.out.trans (Below.mono L78 HB7.out.size)
            have HBk8 := Lib.hid (HBk7.out.bel L78 HBk7.out.lt)
            have HBs8 := Lib.hid (HBs7.out.later L78)
            have x0 : w8.cell? ⟨w.heap.size, 0, none⟩ = some (.bool lf) := Blk.cell HBk8.out 0
            have x1 : w8.cell? ⟨w.heap.size, 1, none⟩ = some (.slice ka kl kc) := Blk.cell HBk8.out 1
            have x2 : w8.cell? ⟨w.heap.size, 2, none⟩ = some (.slice ca cl cc) := Blk.cell HBk8.out 2
            have x3 : w8.cell? ⟨w.heap.size, 3, none⟩ = some (.slice da dl dc) := Blk.cell HBk8.out 3
            have xlt : w.heap.size < w8.heap.size := Blk.lt HBk8.out
            clear L78 HBk7 HBs7
            go_wp2_with fail
            refine (HRt.out w8 HB8.out).mono ?_
            rintro e w9 ⟨rfl, L89⟩
            have HB9 : Hid (Below w.heap.size w w9) := HB8.out.trans (Below.mono L89 HB8.out.size)
            have HBk9 := Lib.hid (HBk8.out.bel L89 HBk8.out.lt)
            have HBs9 := Lib.hid (HBs8.out.later L89)
            clear L89
            have x0 : w9.cell? ⟨w.heap.size, 0, none⟩ = some (.bool lf) := Blk.cell HBk9.out 0
            have x1 : w9.cell? ⟨w.heap.size, 1, none⟩ = some (.slice ka kl kc) := Blk.cell HBk9.out 1
            have x2 : w9.cell? ⟨w.heap.size, 2, none⟩ = some (.slice ca cl cc) := Blk.cell HBk9.out 2
            have x3 : w9.cell? ⟨w.heap.size, 3, none⟩ = some (.slice da dl dc) := Blk.cell HBk9.out 3
            have xlt : w.heap.size < w9.heap.size := Blk.lt HBk9.out
            go_wp2_with fail
            refine (HSz.out w9 HB9.out).mono ?_
            rintro e w10 ⟨rfl, L9⟩
            have HB10 : Hid (Below w.heap.size w w10) := HB9.out.trans (Below.mono L9 HB9.out.size)
            have HBs10 := Lib.hid (HBs9.out.later L9)
            clear L9
            have cv1 := HBs10.out.conv 27 5 Try.underlying27 Try.underlying5 9 Try.underlying9 b.length c7 rfl
            have cv2 := (HBs.out.later HB10.out).conv 27 5 Try.underlying27 Try.underlying5 9 Try.underlying9 b.length cap rfl
            go_wp2
            go_ret
            exact ⟨rfl, HB10.out⟩
        · rw [writeN_long hok h5] at HW
          have HW := Lib.hid HW
          rw [if_pos rfl] at HSz
          generalize (encN n.asR).length = E at HSz h5
          have HSz := Lib.hid HSz
          have q5 : decide ((E : Int) ≤ 512) = false := by simp; omega
          clear hok
          go_wp2_with fail
          refine (HW.out w1 HB1.out).mono ?_
          rintro e w2 ⟨a2, c2, rfl, _, _, _, L12⟩
          have HB2 : Hid (Below w.heap.size w w2) := HB1.out.trans (Below.mono L12 HB1.out.size)
          have HBk2 := Lib.hid (HBk1.out.bel L12 HBk1.out.lt)
          clear L12 x0 x1 x2 x3 xlt
          cases hdec : decN b with
          | none =>
            have HRd2 := HRd.out w2 HB2.out
            have hrd : rdNd b = (zeroN, 3) := rdNd_no hdec
            have HRD := Lib.hid hrd
            clear hrd hdec
            go_wp2_with fail
            refine HRd2.mono ?_
            rintro e w5 ⟨m5, rfl, hN5, hm5, L5⟩
            rw [HRD.out] at hN5 ⊢
            rw [show (((zeroN, (3 : Int)) : Nd × Int).1).leaf = false from rfl]
            replace hN5 : NAt w5 zeroN m5 := hN5
            have HB5 : Hid (Below w.heap.size w w5) := HB2.out.trans (Below.mono L5 HB2.out.size)
            have L56 : Later w5 (w5.alloc (.cells #[.bool false, .slice m5.ka m5.kl m5.kc, .slice m5.ca m5.cl m5.cc, .slice m5.da m5.dl m5.dc] 26)) := Below.box _ _
            have HW6 := NWrite_any zeroN m5 _ (hN5.later L56) (by omega)
            rw [zeroN_write] at HW6
            rw [show zeroN.leaf = false from rfl] at HW6
            have HW6 := Lib.hid HW6
            have HB6 : Hid (Below w.heap.size w _) := HB5.out.trans (Below.mono L56 HB5.out.size)
            have HBk6 := Lib.hid ((HBk2.out.bel L5 HBk2.out.lt).alloc (.cells #[.bool false, .slice m5.ka m5.kl m5.kc, .slice m5.ca m5.cl m5.cc, .slice m5.da m5.dl m5.dc] 26))
            clear HRd2 hN5 L5 L56
            go_wp2_with fail
            refine HW6.out.mono ?_
            rintro e w7 ⟨a7, c7, rfl, hc7, hm7, hbs7, L67⟩
            have HB7 : Hid (Below w.heap.size w w7) := HB6.out.trans (Below.mono L67 HB6.out.size)
            have HBk7 := Lib.hid (HBk6.out.bel L67 HBk6.out.lt)
            have HBs7 := Lib.hid hbs7
            clear L67 hbs7 HW6 HB6 HBk6
            go_wp2_with fail
            refine (HAl.out _).mono ?_
            rintro e w8 ⟨rfl, L78⟩
            have HB8 : Hid (Below w.heap.size w w8) := HB7.out.trans (Below.mono L78 HB7.out.size)
            have HBk8 := Lib.hid (HBk7.out.bel L78 HBk7.out.lt)
            have HBs8 := Lib.hid (HBs7.out.later L78)
            have x0 : w8.cell? ⟨w.heap.size, 0, none⟩ = some (.bool lf) := Blk.cell HBk8.out 0
            have x1 : w8.cell? ⟨w.heap.size, 1, none⟩ = some (.slice ka kl kc) := Blk.cell HBk8.out 1
            have x2 : w8.cell? ⟨w.heap.size, 2, none⟩ = some (.slice ca cl cc) := Blk.cell HBk8.out 2
            have x3 : w8.cell? ⟨w.heap.size, 3, none⟩ = some (.slice da dl dc) := Blk.cell HBk8.out 3
            have xlt : w.heap.size < w8.heap.size := Blk.lt HBk8.out
            clear L78 HBk7 HBs7
            go_wp2_with fail
            refine (HRt.out w8 HB8.out).mono ?_
            rintro e w9 ⟨rfl, L89⟩
            have HB9 : Hid (Below w.heap.size w w9) := HB8.out.trans (Below.mono L89 HB8.out.size)
            have HBk9 := Lib.hid (HBk8.out.bel L89 HBk8.out.lt)
            have HBs9 := Lib.hid (HBs8.out.later L89)
            clear L89
            have x0 : w9.cell? ⟨w.heap.size, 0, none⟩ = some (.bool lf) := Blk.cell HBk9.out 0
            have x1 : w9.cell? ⟨w.heap.size, 1, none⟩ = some (.slice ka kl kc) := Blk.cell HBk9.out 1
            have x2 : w9.cell? ⟨w.heap.size, 2, none⟩ = some (.slice ca cl cc) := Blk.cell HBk9.out 2
            have x3 : w9.cell? ⟨w.heap.size, 3, none⟩ = some (.slice da dl dc) := Blk.cell HBk9.out 3
            have xlt : w.heap.size < w9.heap.size := Blk.lt HBk9.out
            go_wp2_with fail
            refine (HSz.out w9 HB9.out).mono ?_
            rintro e w10 ⟨rfl, L9⟩
            have HB10 : Hid (Below w.heap.size w w10) := HB9.out.trans (Below.mono L9 HB9.out.size)
            have HBs10 := Lib.hid (HBs9.out.later L9)
            clear L9
            go_wp2
            go_ret
            exact ⟨rfl, HB10.out⟩
          | some x =>
            have HRd2 := HRd.out w2 HB2.out
            have hrd : rdNd b = (x.asN, 0) := rdNd_yes hdec
            have HWr : Hid (writeN x.asN = (b, 0)) := read_write HBs.out.1 hdec
            have HRD := Lib.hid hrd
            clear hrd hdec
            go_wp2_with fail
            refine HRd2.mono ?_
            rintro e w5 ⟨m5, rfl, hN5, hm5, L5⟩
            rw [HRD.out] at hN5 ⊢
            rw [show (((x.asN, (0 : Int)) : Nd × Int).1).leaf = x.asN.leaf from rfl]
            replace hN5 : NAt w5 x.asN m5 := hN5
            have HB5 : Hid (Below w.heap.size w w5) := HB2.out.trans (Below.mono L5 HB2.out.size)
            have L56 : Later w5 (w5.alloc (.cells #[.bool x.asN.leaf, .slice m5.ka m5.kl m5.kc, .slice m5.ca m5.cl m5.cc, .slice m5.da m5.dl m5.dc] 26)) := Below.box _ _
            have HW6 := NWrite_any x.asN m5 _ (hN5.later L56) (by omega)
            rw [HWr.out] at HW6
            have HW6 := Lib.hid HW6
            have HB6 : Hid (Below w.heap.size w _) := HB5.out.trans (Below.mono L56 HB5.out.size)
            have HBk6 := Lib.hid ((HBk2.out.bel L5 HBk2.out.lt).alloc (.cells #[.bool x.asN.leaf, .slice m5.ka m5.kl m5.kc, .slice m5.ca m5.cl m5.cc, .slice m5.da m5.dl m5.dc] 26))
            clear HRd2 hN5 L5 L56
            go_wp2_with fail
            refine HW6.out.mono ?_
            rintro e w7 ⟨a7, c7, rfl, hc7, hm7, hbs7, L67⟩
            have HB7 : Hid (Below w.heap.size w w7) := HB6.out.trans (Below.mono L67 HB6.out.size)
            have HBk7 := Lib.hid (HBk6.out.bel L67 HBk6.out.lt)
            have HBs7 := Lib.hid hbs7
            clear L67 hbs7 HW6 HB6 HBk6
            go_wp2_with fail
            refine (HAl.out _).mono ?_
            rintro e w8 ⟨rfl, L78⟩
            have HB8 : Hid (Below w.heap.size w w8) := HB7.out.trans (Below.mono L78 HB7.out.size)
            have HBk8 := Lib.hid (HBk7.out.bel L78 HBk7.out.lt)
            have HBs8 := Lib.hid (HBs7.out.later L78)
            have x0 : w8.cell? ⟨w.heap.size, 0, none⟩ = some (.bool lf) := Blk.cell HBk8.out 0
            have x1 : w8.cell? ⟨w.heap.size, 1, none⟩ = some (.slice ka kl kc) := Blk.cell HBk8.out 1
            have x2 : w8.cell? ⟨w.heap.size, 2, none⟩ = some (.slice ca cl cc) := Blk.cell HBk8.out 2
            have x3 : w8.cell? ⟨w.heap.size, 3, none⟩ = some (.slice da dl dc) := Blk.cell HBk8.out 3
            have xlt : w.heap.size < w8.heap.size := Blk.lt HBk8.out
            clear L78 HBk7 HBs7
            go_wp2_with fail
            refine (HRt.out w8 HB8.out).mono ?_
            rintro e w9 ⟨rfl, L89⟩
            have HB9 : Hid (Below w.heap.size w w9) := HB8.out.trans (Below.mono L89 HB8.out.size)
            have HBk9 := Lib.hid (HBk8.out.bel L89 HBk8.out.lt)
            have HBs9 := Lib.hid (HBs8.out.later L89)
            clear L89
            have x0 : w9.cell? ⟨w.heap.size, 0, none⟩ = some (.bool lf) := Blk.cell HBk9.out 0
            have x1 : w9.cell? ⟨w.heap.size, 1, none⟩ = some (.slice ka kl kc) := Blk.cell HBk9.out 1
            have x2 : w9.cell? ⟨w.heap.size, 2, none⟩ = some (.slice ca cl cc) := Blk.cell HBk9.out 2
            have x3 : w9.cell? ⟨w.heap.size, 3, none⟩ = some (.slice da dl dc) := Blk.cell HBk9.out 3
            have xlt : w.heap.size < w9.heap.size := Blk.lt HBk9.out
            go_wp2_with fail
            refine (HSz.out w9 HB9.out).mono ?_
            rintro e w10 ⟨rfl, L9⟩
            have HB10 : Hid (Below w.heap.size w w10) := HB9.out.trans (Below.mono L9 HB9.out.size)
            have HBs10 := Lib.hid (HBs9.out.later L9)
            clear L9
            have cv1 := HBs10.out.conv 27 5 Try.underlying27 Try.underlying5 9 Try.underlying9 b.length c7 rfl
            have cv2 := (HBs.out.later HB10.out).conv 27 5 Try.underlying27 Try.underlying5 9 Try.underlying9 b.length cap rfl
            go_wp2
            go_ret
            exact ⟨rfl, HB10.out⟩
end Go.Proofs.Ytpcgommdlgmknaa
