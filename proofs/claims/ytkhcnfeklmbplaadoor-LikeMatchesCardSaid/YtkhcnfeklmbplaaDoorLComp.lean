/- The walks of like.Compile, of the method Match and of like.Match. -/
import Derived.Test.YtkhcnfeklmbplaaDoorLMat
namespace Go.Proofs.YtkhcnfeklmbplaaDoor
open Go.RowKit

/-- What Compile hands back of a pattern's text. -/
def compV (s : ByteArray) : Option (List Nat) × Int := if 1000 < s.size then (none, 2) else match decS (bytesU s) with
  | none => (none, 3)
  | some p => (some p, 0)

/-- What the method Match hands back. -/
def matV (o : Option (List Nat)) (s : ByteArray) : Bool × Int := match o with
  | none => (false, 6)
  | some p => if 100000 < s.size then (false, 2) else match decS (bytesU s) with
    | none => (false, 3)
    | some q => (matB p q, 0)

def fullV (pat s : ByteArray) : Bool × Int := match compV pat with
  | (none, e) => (false, e)
  | (some p, _) => matV (some p) s

/-- The value is a pattern that Compile made, or nil. -/
def PatIn (w : World) (v : Value) (o : Option (List Nat)) : Prop :=
  (o = none ∧ v = .pointer none) ∨ ∃ p B a cap, o = some p ∧ v = .pointer (some ⟨B, 0, none⟩) ∧ B < w.heap.size ∧ w.cell? ⟨B, 0, none⟩ = some (.slice a p.length cap) ∧ w.cell? ⟨B, 1, none⟩ = some (.bool true) ∧
    p.length ≤ cap ∧ p.length ≤ 1000 ∧ Rs .i32 w.heap.size w a (ptsZ p) ∧ ∀ v ∈ p, okP v = true

theorem PatIn.below {w w' : World} {v : Value} {o : Option (List Nat)} (h : PatIn w v o) (hb : Below w.heap.size w w') : PatIn w' v o := by
  rcases h with h | ⟨p, B, a, cap, h1, h2, h3, h4, h5, h6, h7, h8, h9⟩
  · exact .inl h
  · exact .inr ⟨p, B, a, cap, h1, h2, by have := hb.size; omega, (hb.cell (p := ⟨B, 0, none⟩) h3).trans h4, (hb.cell (p := ⟨B, 1, none⟩) h3).trans h5, h6, h7, (h8.below hb).mono hb.size, h9⟩

def RetCo (w : World) (r : Option (List Nat) × Int) (e : Ending) (w' : World) : Prop :=
  Below w.heap.size w w' ∧ ∃ v, e = .returned (.tuple #[v, .int .i64 r.2]) ∧ PatIn w' v r.1

theorem decS_ok {s : ByteArray} {p : List Nat} (h : decS (bytesU s) = some p) : (∀ v ∈ p, okP v = true) ∧ p.length ≤ s.size := by
  obtain ⟨h1, h2⟩ := (decS_iff (bytesU_lt s) p).1 h
  refine ⟨h1, ?_⟩
  have := (encS_len p).1
  rw [h2, bytesU_len] at this
  exact this

set_option maxHeartbeats 1000000 in
theorem Compile_any (s : ByteArray) (w : World) (hT : Tabs w) (hs : s.size ≤ 9223372036854775807) :
    Calls Tryd.prog 7 #[.string s] w (RetCo w (compV s)) := by
  by_cases hlong : 1000 < s.size
  · have HC : Hid (compV s = (none, 2)) := by unfold compV; rw [if_pos hlong]; rfl
    rw [HC.out]
    go_enter Tryd.func7, Tryd.ntmps7
    go_wp2
    go_ret2
    exact ⟨Below.refl _ _, _, rfl, .inl ⟨rfl, rfl⟩⟩
  · have HS := Lib.hid (Split_any s w (by omega) hT)
    have hC : compV s = match decS (bytesU s) with
      | none => (none, 3)
      | some p => (some p, 0) := by unfold compV; rw [if_neg hlong]
    rw [hC]
    have HO := Lib.hid (fun p h => decS_ok (s := s) (p := p) h)
    obtain ⟨o, ho⟩ : ∃ o, decS (bytesU s) = o := ⟨_, rfl⟩
    rw [ho] at HS HO ⊢
    have ql : decide ((1000 : Int) < (s.size : Int)) = false := by simp; omega
    clear hC ho hT
    go_enter Tryd.func7, Tryd.ntmps7
    go_wp2_with fail
    refine HS.out.mono ?_
    rintro e w1 ⟨hb, ⟨rfl, rfl⟩ | ⟨p, a, cap, rfl, rfl, hcap, hR⟩⟩
    · clear HS HO
      go_wp2
      go_ret2
      exact ⟨hb, _, rfl, .inl ⟨rfl, rfl⟩⟩
    · have HR := Lib.hid hR
      have HO2 := Lib.hid (HO.out p rfl)
      obtain ⟨n, hn⟩ : ∃ n, n = p.length := ⟨_, rfl⟩
      rw [← hn] at hcap ⊢
      have HN := Lib.hid hn
      clear HS HO hR hn
      go_wp2
      go_ret2
      have hbox := boxB w1 (.cells #[.slice a n cap, .bool true] 39)
      refine ⟨hb.trans (hbox.mono hb.size), _, rfl, .inr ⟨p, w1.heap.size, a, cap, rfl, rfl, by simp, ?_, ?_, by rw [← HN.out]; exact hcap, by have := HO2.out.2; omega, (HR.out.below hbox).mono (by simp), HO2.out.1⟩⟩
      · rw [World.cell?_alloc_new, ← HN.out]; rfl
      · rw [World.cell?_alloc_new]; rfl

set_option maxHeartbeats 2000000 in
theorem PMatch_any (v : Value) (o : Option (List Nat)) (s : ByteArray) (w : World) (hP : PatIn w v o) (hT : Tabs w) (hs : s.size ≤ 9223372036854775807) :
    Calls Tryd.prog 8 #[v, .string s] w fun e w' => e = .returned (.tuple #[.bool (matV o s).1, .int .i64 (matV o s).2]) ∧ Below w.heap.size w w' := by
  rcases hP with ⟨rfl, rfl⟩ | ⟨p, B, a, cap, rfl, rfl, hB, hc0, hc1, hcap, hlen, hR, hok⟩
  · go_enter Tryd.func8, Tryd.ntmps8
    go_wp2
    go_ret2
    exact ⟨rfl, Below.refl _ _⟩
  · by_cases hlong : 100000 < s.size
    · have HC : Hid (matV (some p) s = (false, 2)) := by unfold matV; simp only []; rw [if_pos hlong]; rfl
      rw [HC.out]
      clear hR hok
      go_enter Tryd.func8, Tryd.ntmps8
      go_wp2
      go_ret2
      exact ⟨rfl, Below.refl _ _⟩
    · have HS := Lib.hid (Split_any s w (by omega) hT)
      have hC : matV (some p) s = match decS (bytesU s) with
        | none => (false, 3)
        | some q => (matB p q, 0) := by unfold matV; simp only []; rw [if_neg hlong]
      rw [hC]
      have HO := Lib.hid (fun q h => decS_ok (s := s) (p := q) h)
      obtain ⟨d, hd⟩ : ∃ d, decS (bytesU s) = d := ⟨_, rfl⟩
      rw [hd] at HS HO ⊢
      have ql : decide ((100000 : Int) < (s.size : Int)) = false := by simp; omega
      have HR := Lib.hid hR
      have HK := Lib.hid hok
      obtain ⟨n, hn⟩ : ∃ n, n = p.length := ⟨_, rfl⟩
      rw [← hn] at hcap hc0 hlen
      have HN := Lib.hid hn
      clear hC hd hT hR hok hn
      go_enter Tryd.func8, Tryd.ntmps8
      go_wp2_with fail
      refine HS.out.mono ?_
      rintro e w1 ⟨hb, ⟨rfl, rfl⟩ | ⟨q, a', cap', rfl, rfl, hcap', hR'⟩⟩
      · clear HS HO
        go_wp2
        go_ret2
        exact ⟨rfl, hb⟩
      · have HO2 := Lib.hid (HO.out q rfl)
        have HM := Lib.hid (matches_any p q HK.out HO2.out.1 a n cap a' q.length cap' w1 ((HR.out.below hb).mono hb.size) HN.out hcap hR' rfl (by omega) (by have := HO2.out.2; omega))
        have hc0' := (hb.cell (p := ⟨B, 0, none⟩) hB).trans hc0
        obtain ⟨r, hr⟩ : ∃ r, matB p q = r := ⟨_, rfl⟩
        rw [hr] at HM
        have HRR := Lib.hid hr
        clear HS HO hR' hr
        go_wp2_with fail
        refine HM.out.mono ?_
        rintro e w2 ⟨rfl, hb2⟩
        go_wp2
        go_ret2
        exact ⟨by simp only []; rw [HRR.out]; rfl, hb.trans (hb2.mono hb.size)⟩

set_option maxHeartbeats 1000000 in
theorem Match_any (pat s : ByteArray) (w : World) (hT : Tabs w) (hp : pat.size ≤ 9223372036854775807) (hs : s.size ≤ 9223372036854775807) :
    Calls Tryd.prog 5 #[.string pat, .string s] w fun e w' => e = .returned (.tuple #[.bool (fullV pat s).1, .int .i64 (fullV pat s).2]) ∧ Below w.heap.size w w' := by
  have HC := Lib.hid (Compile_any pat w hT hp)
  have HP := Lib.hid (fun W v o hb (h : PatIn W v o) => PMatch_any v o s W h (hT.below hb) hs)
  have hF : fullV pat s = match compV pat with
    | (none, e) => (false, e)
    | (some p, _) => matV (some p) s := rfl
  have hz : ∀ o e, compV pat = (o, e) → ((o = none ∧ e ≠ 0) ∨ ((∃ p, o = some p) ∧ e = 0)) := by
    intro o e h
    unfold compV at h
    split at h
    · simp only [Prod.mk.injEq] at h; exact .inl ⟨h.1.symm, by omega⟩
    · split at h
      · simp only [Prod.mk.injEq] at h; exact .inl ⟨h.1.symm, by omega⟩
      · simp only [Prod.mk.injEq] at h; exact .inr ⟨⟨_, h.1.symm⟩, h.2.symm⟩
  rw [hF]
  obtain ⟨c, hc⟩ : ∃ c, compV pat = c := ⟨_, rfl⟩
  rw [hc] at HC hz ⊢
  obtain ⟨o, e0⟩ := c
  have HZ := Lib.hid (hz o e0 rfl)
  clear hF hz hc hT
  go_enter Tryd.func5, Tryd.ntmps5
  go_wp2_with fail
  refine HC.out.mono ?_
  rintro e w1 ⟨hb, v, rfl, hv⟩
  dsimp only at hv ⊢
  have HV := Lib.hid hv
  clear hv HC
  have hz := HZ.out
  clear HZ
  rcases hz with ⟨rfl, h0⟩ | ⟨⟨p, rfl⟩, rfl⟩
  · have q0 : (e0 != 0) = true := by simp [h0]
    go_wp2
    go_ret2
    exact ⟨rfl, hb⟩
  · obtain ⟨r, hr⟩ : ∃ r, matV (some p) s = r := ⟨_, rfl⟩
    have HM := Lib.hid (HP.out w1 v (some p) hb HV.out)
    rw [hr] at HM
    have HRR := Lib.hid hr
    clear HP hr
    go_wp2_with fail
    refine HM.out.mono ?_
    rintro e w2 ⟨rfl, hb2⟩
    go_wp2
    go_ret2
    exact ⟨by simp only []; rw [HRR.out]; rfl, hb.trans (hb2.mono hb.size)⟩
end Go.Proofs.YtkhcnfeklmbplaaDoor
