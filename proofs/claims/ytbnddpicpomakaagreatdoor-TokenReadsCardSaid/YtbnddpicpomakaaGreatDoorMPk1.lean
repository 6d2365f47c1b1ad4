/- Several texts of one proof, one behind the other. -/
import Derived.Lib.MapLaws
import Derived.Lib.ValidLaws
import Derived.Test.YtbnddpicpomakaaGreatDoorRows
import Derived.WalkKit
import Derived.WalkSpells
import Derived.WalkLawsBesides
import Derived.Laws.BitsAllLaws
import Derived.Laws.BytesArg
import Derived.OpenShut
import Derived.Laws.RangeAny
import Derived.Shelf.Lays
import Derived.Shelf.LaysC
import Derived.Shelf.LaysM
import Derived.Test.YtbnddpicpomakaaGreatDoorProg
import Derived.Shelf.Unicode.ValidAny
import Derived.Lib.OthersKept
import Derived.Lib.Hide
set_option linter.unusedSimpArgs false
set_option linter.unusedVariables false

/- Code points and their bytes: plain mathematics. -/
set_option linter.unusedSimpArgs false
set_option linter.unusedVariables false
set_option maxRecDepth 100000
namespace Go.Proofs.YtbnddpicpomakaaGreatDoor
open Go

/-- Is v a code point? -/
def okP (v : Nat) : Bool := decide (v < 55296) || (decide (57343 < v) && decide (v ≤ 1114111))

theorem okP_iff (v : Nat) : okP v = true ↔ (v < 55296 ∨ (57343 < v ∧ v ≤ 1114111)) := by
  simp [okP]

/-- The bytes of a code point. -/
def encP (v : Nat) : List Nat :=
  if v < 128 then [v] else if v < 2048 then [192 + v / 64, 128 + v % 64]
  else if v < 65536 then [224 + v / 4096, 128 + v / 64 % 64, 128 + v % 64]
  else [240 + v / 262144, 128 + v / 4096 % 64, 128 + v / 64 % 64, 128 + v % 64]

def encS (l : List Nat) : List Nat := l.flatMap encP

/-- What stands at the head of some bytes, as the model reads it. -/
def hd (l : List Nat) : Nat × Nat := Lib.decodeN l.length (l.getD 0 0) (l.getD 1 0) (l.getD 2 0) (l.getD 3 0)

/-- The code point at the head of some bytes. -/
def pt (l : List Nat) : Option (Nat × Nat) := if l = [] then none else if hd l = (65533, 1) then none else some (hd l)

def decF : Nat → List Nat → Option (List Nat)
  | 0, l => if l = [] then some [] else none
  | f + 1, l => if l = [] then some [] else match pt l with
    | none => none
    | some (v, n) => (decF f (l.drop n)).map (v :: ·)

/-- The code points of some bytes. -/
def decS (l : List Nat) : Option (List Nat) := decF l.length l

theorem encP_len (v : Nat) : 1 ≤ (encP v).length ∧ (encP v).length ≤ 4 := by
  unfold encP; split
  · simp
  · split
    · simp
    · split <;> simp

theorem encP_lt {v : Nat} (h : v ≤ 1114111) : ∀ c ∈ encP v, c < 256 := by
  intro c hc
  unfold encP at hc
  split at hc
  · simp at hc; omega
  · split at hc
    · simp at hc; omega
    · split at hc
      · simp at hc; omega
      · simp at hc; omega

theorem okP_le {v : Nat} (h : okP v = true) : v ≤ 1114111 := by rw [okP_iff] at h; omega

theorem pt_enc {v : Nat} (h : okP v = true) (B : List Nat) : pt (encP v ++ B) = some (v, (encP v).length) := by
  rw [okP_iff] at h
  have key : ∀ (L : List Nat), L ≠ [] → hd L = (v, (encP v).length) → ¬ (v = 65533 ∧ (encP v).length = 1) → pt L = some (v, (encP v).length) := by
    intro L h0 h1 h2
    unfold pt
    rw [if_neg h0, h1, if_neg (by intro h; simp only [Prod.mk.injEq] at h; exact h2 h)]
  unfold encP at key ⊢
  by_cases h1 : v < 128
  · simp only [if_pos h1] at key ⊢
    refine key _ (by simp) ?_ (by simp; omega)
    simp [hd, Lib.decodeN, h1]
  · simp only [if_neg h1] at key ⊢
    by_cases h2 : v < 2048
    · simp only [if_pos h2] at key ⊢
      refine key _ (by simp) ?_ (by simp)
      simp only [hd, Lib.decodeN, List.length_append, List.length_cons, List.length_nil, List.cons_append, List.nil_append, List.getD_cons_zero, List.getD_cons_succ]
      rw [if_neg (by omega), if_pos (by omega), if_pos (by omega)]
      congr 1; omega
    · simp only [if_neg h2] at key ⊢
      by_cases h3 : v < 65536
      · simp only [if_pos h3] at key ⊢
        refine key _ (by simp) ?_ (by simp)
        simp only [hd, Lib.decodeN, List.length_append, List.length_cons, List.length_nil, List.cons_append, List.nil_append, List.getD_cons_zero, List.getD_cons_succ]
        rw [if_neg (by omega), if_neg (by omega), if_pos (by omega), if_pos (by omega)]
        congr 1; omega
      · simp only [if_neg h3] at key ⊢
        refine key _ (by simp) ?_ (by simp)
        simp only [hd, Lib.decodeN, List.length_append, List.length_cons, List.length_nil, List.cons_append, List.nil_append, List.getD_cons_zero, List.getD_cons_succ]
        rw [if_neg (by omega), if_neg (by omega), if_neg (by omega), if_pos (by omega), if_pos (by omega)]
        congr 1; omega

theorem take1 : ∀ l : List Nat, 0 < l.length → l.take 1 = [l.getD 0 0]
  | _ :: _, _ => by simp
theorem take2 : ∀ l : List Nat, 1 < l.length → l.take 2 = [l.getD 0 0, l.getD 1 0]
  | [_], h => by simp at h
  | _ :: _ :: _, _ => by simp
theorem take3 : ∀ l : List Nat, 2 < l.length → l.take 3 = [l.getD 0 0, l.getD 1 0, l.getD 2 0]
  | [_], h => by simp at h
  | [_, _], h => by simp at h
  | _ :: _ :: _ :: _, _ => by simp
theorem take4 : ∀ l : List Nat, 3 < l.length → l.take 4 = [l.getD 0 0, l.getD 1 0, l.getD 2 0, l.getD 3 0]
  | [_], h => by simp at h
  | [_, _], h => by simp at h
  | [_, _, _], h => by simp at h
  | _ :: _ :: _ :: _ :: _, _ => by simp

theorem getD_lt (l : List Nat) (h : ∀ c ∈ l, c < 256) (i : Nat) : l.getD i 0 < 256 := by
  rw [List.getD_eq_getElem?_getD]
  cases hi : l[i]? with
  | none => simp
  | some c => exact h c (List.mem_of_getElem? hi)

theorem hd_pos (l : List Nat) : 1 ≤ (hd l).2 := by
  unfold hd
  rcases Lib.decodeN_shape l.length (l.getD 0 0) (l.getD 1 0) (l.getD 2 0) (l.getD 3 0) with ⟨c, e⟩ | ⟨c1, c2, c3, cv, e⟩ | ⟨c1, c2, c3, c4, cv, cs, e⟩ | ⟨c1, c2, c3, c4, c5, cv, cw, e⟩ | e <;> rw [e] <;> simp

theorem hd_le (l : List Nat) : (hd l).1 ≤ 1114111 ∨ 128 ≤ (hd l).1 := by
  unfold hd
  rcases Lib.decodeN_shape l.length (l.getD 0 0) (l.getD 1 0) (l.getD 2 0) (l.getD 3 0) with ⟨c, e⟩ | ⟨c1, c2, c3, cv, e⟩ | ⟨c1, c2, c3, c4, cv, cs, e⟩ | ⟨c1, c2, c3, c4, c5, cv, cw, e⟩ | e <;> rw [e] <;> dsimp only <;> omega

theorem pt_some {l : List Nat} (h256 : ∀ c ∈ l, c < 256) {v n : Nat} (h : pt l = some (v, n)) : okP v = true ∧ l.take n = encP v ∧ n = (encP v).length ∧ n ≤ l.length ∧ 1 ≤ n ∧ hd l = (v, n) := by
  unfold pt at h
  split at h
  · simp at h
  · rename_i hne
    split at h
    · simp at h
    · rename_i hb
      simp only [Option.some.injEq] at h
      have hl : 0 < l.length := List.length_pos_iff.2 hne
      have k0 := getD_lt l h256 0
      have k1 := getD_lt l h256 1
      have k2 := getD_lt l h256 2
      have k3 := getD_lt l h256 3
      have hH := h
      unfold hd at h hb
      rcases Lib.decodeN_shape l.length (l.getD 0 0) (l.getD 1 0) (l.getD 2 0) (l.getD 3 0) with ⟨c, e⟩ | ⟨c1, c2, c3, cv, e⟩ | ⟨c1, c2, c3, c4, cv, cs, e⟩ | ⟨c1, c2, c3, c4, c5, cv, cw, e⟩ | e
      · rw [e] at h
        simp only [Prod.mk.injEq] at h
        obtain ⟨rfl, rfl⟩ := h
        refine ⟨(okP_iff _).2 (by omega), ?_, ?_, by omega, by omega, hH⟩
        · rw [take1 l hl]; unfold encP; rw [if_pos c]
        · unfold encP; rw [if_pos c]; rfl
      · rw [e] at h
        simp only [Prod.mk.injEq] at h
        obtain ⟨rfl, rfl⟩ := h
        refine ⟨(okP_iff _).2 (by omega), ?_, ?_, by omega, by omega, hH⟩
        · rw [take2 l c2]; unfold encP; rw [if_neg (by omega), if_pos (by omega)]
          congr 1; · omega
          congr 1; omega
        · unfold encP; rw [if_neg (by omega), if_pos (by omega)]; rfl
      · rw [e] at h
        simp only [Prod.mk.injEq] at h
        obtain ⟨rfl, rfl⟩ := h
        refine ⟨(okP_iff _).2 (by omega), ?_, ?_, by omega, by omega, hH⟩
        · rw [take3 l c2]; unfold encP; rw [if_neg (by omega), if_neg (by omega), if_pos (by omega)]
          congr 1; · omega
          congr 1; · omega
          congr 1; omega
        · unfold encP; rw [if_neg (by omega), if_neg (by omega), if_pos (by omega)]; rfl
      · rw [e] at h
        simp only [Prod.mk.injEq] at h
        obtain ⟨rfl, rfl⟩ := h
        refine ⟨(okP_iff _).2 (by omega), ?_, ?_, by omega, by omega, hH⟩
        · rw [take4 l c2]; unfold encP; rw [if_neg (by omega), if_neg (by omega), if_neg (by omega)]
          congr 1; · omega
          congr 1; · omega
          congr 1; · omega
          congr 1; omega
        · unfold encP; rw [if_neg (by omega), if_neg (by omega), if_neg (by omega)]; rfl
      · exact absurd e hb

theorem decF_nil (f : Nat) : decF f [] = some [] := by cases f <;> simp [decF]

theorem decF_enc : ∀ (p : List Nat) (f : Nat), (∀ v ∈ p, okP v = true) → (encS p).length ≤ f → decF f (encS p) = some p
  | [], f, _, _ => by simp [encS, decF_nil]
  | v :: p, f, h, hf => by
    have hl := encP_len v
    have e : encS (v :: p) = encP v ++ encS p := rfl
    rw [e, List.length_append] at hf
    obtain ⟨f', rfl⟩ : ∃ f', f = f' + 1 := ⟨f - 1, by omega⟩
    have hne : encP v ++ encS p ≠ [] := by intro h; have := congrArg List.length h; rw [List.length_append] at this; simp only [List.length_nil] at this; omega
    rw [e]
    unfold decF
    rw [if_neg hne, pt_enc (h v (by simp))]
    simp only
    rw [List.drop_left, decF_enc p f' (fun x hx => h x (by simp [hx])) (by omega)]
    rfl

theorem enc_decF : ∀ (f : Nat) (l p : List Nat), (∀ c ∈ l, c < 256) → decF f l = some p → (∀ v ∈ p, okP v = true) ∧ encS p = l
  | 0, l, p, _, h => by
    unfold decF at h
    split at h
    · rename_i hl; simp at h; subst h; subst hl; simp [encS]
    · simp at h
  | f + 1, l, p, h256, h => by
    unfold decF at h
    split at h
    · rename_i hl; simp at h; subst h; subst hl; simp [encS]
    · cases hp : pt l with
      | none => rw [hp] at h; simp at h
      | some x =>
        obtain ⟨v, n⟩ := x
        rw [hp] at h
        simp only [Option.map_eq_some_iff] at h
        obtain ⟨q, hq, rfl⟩ := h
        obtain ⟨h1, h2, h3, h4, h5, _⟩ := pt_some h256 hp
        obtain ⟨h6, h7⟩ := enc_decF f (l.drop n) q (fun c hc => h256 c (List.mem_of_mem_drop hc)) hq
        refine ⟨?_, ?_⟩
        · intro x hx
          rcases List.mem_cons.1 hx with rfl | hx
          · exact h1
          · exact h6 x hx
        · show encP v ++ encS q = l
          rw [h7, ← h2, List.take_append_drop]

/-- The code points of some bytes: the one list of code points that has them. -/
theorem decS_iff {l : List Nat} (h256 : ∀ c ∈ l, c < 256) (p : List Nat) : decS l = some p ↔ ((∀ v ∈ p, okP v = true) ∧ encS p = l) := by
  constructor
  · exact enc_decF _ _ _ h256
  · rintro ⟨h1, rfl⟩
    exact decF_enc p _ h1 (Nat.le_refl _)

theorem encS_lt {p : List Nat} (h : ∀ v ∈ p, okP v = true) : ∀ c ∈ encS p, c < 256 := by
  intro c hc
  obtain ⟨v, hv, hc⟩ := List.mem_flatMap.1 hc
  exact encP_lt (okP_le (h v hv)) c hc

theorem decS_encS {p : List Nat} (h : ∀ v ∈ p, okP v = true) : decS (encS p) = some p := (decS_iff (encS_lt h) p).2 ⟨h, rfl⟩

theorem encS_append (p q : List Nat) : encS (p ++ q) = encS p ++ encS q := by simp [encS]
theorem encS_cons (v : Nat) (p : List Nat) : encS (v :: p) = encP v ++ encS p := rfl
theorem encS_nil : encS [] = [] := rfl

theorem decS_append {a b p q : List Nat} (ha : ∀ c ∈ a, c < 256) (hb : ∀ c ∈ b, c < 256) (h1 : decS a = some p) (h2 : decS b = some q) : decS (a ++ b) = some (p ++ q) := by
  obtain ⟨h3, h4⟩ := (decS_iff ha p).1 h1
  obtain ⟨h5, h6⟩ := (decS_iff hb q).1 h2
  refine (decS_iff (fun c hc => (List.mem_append.1 hc).elim (ha c) (hb c)) _).2 ⟨fun v hv => (List.mem_append.1 hv).elim (h3 v) (h5 v), ?_⟩
  rw [encS_append, h4, h6]

theorem encS_len (p : List Nat) : p.length ≤ (encS p).length ∧ (encS p).length ≤ 4 * p.length := by
  induction p with
  | nil => simp [encS]
  | cons v p ih => rw [encS_cons, List.length_append, List.length_cons]; have := encP_len v; omega

/-- The step of a reader: a code point is there. -/
theorem decS_step {l p : List Nat} (h256 : ∀ c ∈ l, c < 256) (h : decS l = some p) (hne : l ≠ []) : ∃ v n q, pt l = some (v, n) ∧ p = v :: q ∧ decS (l.drop n) = some q ∧ hd l = (v, n) ∧ 1 ≤ n ∧ n ≤ l.length ∧ okP v = true ∧ n = (encP v).length := by
  obtain ⟨h1, h2⟩ := (decS_iff h256 p).1 h
  cases p with
  | nil => exact absurd h2.symm hne
  | cons v q =>
    have hv := h1 v (by simp)
    have hp : pt l = some (v, (encP v).length) := by rw [← h2, encS_cons]; exact pt_enc hv _
    obtain ⟨_, _, _, g4, g5, g6⟩ := pt_some h256 hp
    refine ⟨v, _, q, hp, rfl, ?_, g6, g5, g4, hv, rfl⟩
    rw [← h2, encS_cons, List.drop_left]
    exact decS_encS fun x hx => h1 x (by simp [hx])

theorem decS_nil : decS [] = some [] := rfl

/-- .. and none is there. -/
theorem decS_bad {l : List Nat} (h256 : ∀ c ∈ l, c < 256) (hne : l ≠ []) (h : pt l = none) : decS l = none := by
  cases hd : decS l with
  | none => rfl
  | some p =>
    obtain ⟨v, n, q, h1, _⟩ := decS_step h256 hd hne
    rw [h] at h1; simp at h1

theorem decS_go {l : List Nat} (h256 : ∀ c ∈ l, c < 256) {v n : Nat} (h : pt l = some (v, n)) : decS l = (decS (l.drop n)).map (v :: ·) := by
  obtain ⟨h1, h2, h3, h4, h5, _⟩ := pt_some h256 h
  have hd256 : ∀ c ∈ l.drop n, c < 256 := fun c hc => h256 c (List.mem_of_mem_drop hc)
  have hne : l ≠ [] := by intro e; subst e; simp at h4; omega
  cases hq : decS (l.drop n) with
  | some q =>
    obtain ⟨h6, h7⟩ := (decS_iff hd256 q).1 hq
    refine (decS_iff h256 _).2 ⟨?_, ?_⟩
    · intro x hx
      rcases List.mem_cons.1 hx with rfl | hx
      · exact h1
      · exact h6 x hx
    · show encP v ++ encS q = l
      rw [h7, ← h2, List.take_append_drop]
  | none =>
    cases hp : decS l with
    | none => rfl
    | some p =>
      obtain ⟨v', n', q', g1, _, g3, _⟩ := decS_step h256 hp hne
      rw [h] at g1
      simp only [Option.some.injEq, Prod.mk.injEq] at g1
      obtain ⟨rfl, rfl⟩ := g1
      rw [hq] at g3; simp at g3

/-- The code points ahead of a place, where what stands there begins one. -/
theorem decS_split {l p : List Nat} (h256 : ∀ c ∈ l, c < 256) (h : decS l = some p) (i : Nat) (hi : i ≤ p.length) : decS (l.drop (encS (p.take i)).length) = some (p.drop i) ∧ (encS (p.take i)).length ≤ l.length := by
  obtain ⟨h1, h2⟩ := (decS_iff h256 p).1 h
  have e : l = encS (p.take i) ++ encS (p.drop i) := by rw [← encS_append, List.take_append_drop, h2]
  refine ⟨?_, by rw [e, List.length_append]; omega⟩
  rw [e, List.drop_left]
  exact decS_encS fun x hx => h1 x (List.mem_of_mem_drop hx)
end Go.Proofs.YtbnddpicpomakaaGreatDoor

/- General lemmas that hold over every program: byte slices that are read, and one-byte appends to a row of the call's own. -/
set_option linter.unusedSimpArgs false
set_option linter.unusedVariables false
set_option maxRecDepth 100000
namespace Go.Proofs.YtbnddpicpomakaaGreatDoor
open Go.RowKit

/-- The bytes l as a string of Go's. -/
def strN (l : List Nat) : ByteArray := ⟨(l.map UInt8.ofNat).toArray⟩

theorem strN_size (l : List Nat) : (strN l).size = l.length := by
  simp [strN, ByteArray.size]

/-- The address leads to the bytes l, in blocks below number N. -/
def Bs (N : Nat) (w : World) (a : Option Addr) (l : List Nat) : Prop :=
  (∀ c ∈ l, c < 256) ∧ (l = [] ∨ ∃ b o, a = some ⟨b, o, none⟩ ∧ b < N ∧ ∀ (i c : Nat), l[i]? = some c → w.cell? ⟨b, o + i, none⟩ = some (.int .u8 (c : Int)))

theorem Bs.below {N : Nat} {w w' : World} {a : Option Addr} {l : List Nat} (h : Bs N w a l) (hb : Below N w w') : Bs N w' a l := by
  obtain ⟨h1, h2⟩ := h
  refine ⟨h1, ?_⟩
  rcases h2 with h2 | ⟨b, o, ha, hN, hc⟩
  · exact .inl h2
  · exact .inr ⟨b, o, ha, hN, fun i c hi => (hb.cell (p := ⟨b, o + i, none⟩) hN).trans (hc i c hi)⟩

theorem Bs.mono {N M : Nat} {w : World} {a : Option Addr} {l : List Nat} (h : Bs N w a l) (hM : N ≤ M) : Bs M w a l := by
  obtain ⟨h1, h2⟩ := h
  refine ⟨h1, ?_⟩
  rcases h2 with h2 | ⟨b, o, ha, hN, hc⟩
  · exact .inl h2
  · exact .inr ⟨b, o, ha, by omega, hc⟩

theorem Bs.lt {N : Nat} {w : World} {a : Option Addr} {l : List Nat} (h : Bs N w a l) {i c : Nat} (hi : l[i]? = some c) : c < 256 :=
  h.1 c (List.mem_of_getElem? hi)

theorem bytes_fun (l : List Nat) (hl : ∀ c ∈ l, c < 256) : strOfNums (l.map fun (c : Nat) => (c : Int)) = strN l := by
  apply ByteArray.ext
  apply Array.toList_inj.1
  rw [strOfNums_data]
  simp [strN]

theorem Bs.conv {P : Program} {N : Nat} {w : World} {a : Option Addr} {l : List Nat} (h : Bs N w a l) (src e : TypeId) (hs : P.underlying src = some (.slice e)) (he : P.underlying e = some (.int .u8))
    (dst : TypeId) (hd : P.underlying dst = some .string) (n cap : Nat) (hn : n = l.length) :
    (convert src dst (.slice a n cap)).run P w = .ok (.string (strN l)) w := by
  subst hn
  obtain ⟨h1, h2⟩ := h
  rcases h2 with h2 | ⟨b, o, ha, hN, hc⟩
  · subst h2
    cases a with
    | none => exact run_convert_bytes_nil w src e hs he _ _ dst hd
    | some x =>
      rw [run_convert_bytes_string w src dst e _ _ cap hs he hd]
      have hl : (loadCells x 0).run P w = .ok (([] : List Int).map (Value.int .u8)).toArray w := run_loadCells_list (P := P) w x [] (fun j v hj => by simp at hj)
      exact run_bytesToString w x 0 cap [] hl
  · subst ha
    have := run_convert_bytes_arg (P := P) w src e hs he b o l.length cap (l.map fun (c : Nat) => (c : Int)) (by simp) (fun i hi => by
      rw [hc i l[i] (by simp [hi])]
      simp [hi]) dst hd
    rw [this, bytes_fun l h1]

/-- 'b[k:]' of such a slice, as one value. -/
theorem Bs.from {P : Program} {N : Nat} {w : World} {a : Option Addr} {l : List Nat} (h : Bs N w a l) (t e : TypeId) (ht : P.underlying t = some (.slice e)) (hz : ∀ w, (Go.sizeOf e).run P w = .ok 1 w)
    (len cap k : Nat) (hlen : len = l.length) (hk : k ≤ len) (hcap : len ≤ cap) :
    ∃ a', Bs N w a' (l.drop k) ∧ ∀ W, (Instr.slice t (.slice a len cap) (some (.int .i64 (k : Int))) none none).run P W = .ok (.slice a' (len - k) (cap - k)) W := by
  subst hlen
  have ht' : P.underlying t = some (.slice (P.elem t)) := by simp [Program.elem, ht]
  have hee : P.elem t = e := by simp [Program.elem, ht]
  refine ⟨if cap = k then a else a.map (·.add (k * 1)), ?_, fun W => ?_⟩
  · obtain ⟨h1, h2⟩ := h
    refine ⟨fun c hc => h1 c (List.mem_of_mem_drop hc), ?_⟩
    rcases h2 with h2 | ⟨b, o, ha, hN, hc⟩
    · exact .inl (by simp [h2])
    · by_cases hkl : k = l.length
      · exact .inl (by simp [hkl])
      · right
        refine ⟨b, o + k, ?_, hN, fun i c hi => ?_⟩
        · rw [if_neg (by omega), ha]; simp [Addr.add]
        · rw [List.getElem?_drop] at hi
          rw [Nat.add_assoc]; exact hc _ _ hi
  · have := run_slice_l (P := P) W t a l.length cap ht' .i64 (k : Int) (by omega) (by omega)
    rw [this, hee, hz W]
    simp [Result.andThen, sliced]

/-- 'b[k:h]' of such a slice. -/
theorem Bs.window {P : Program} {N : Nat} {w : World} {a : Option Addr} {l : List Nat} (h : Bs N w a l) (t e : TypeId) (ht : P.underlying t = some (.slice e)) (hz : ∀ w, (Go.sizeOf e).run P w = .ok 1 w)
    (len cap k m : Nat) (hlen : len = l.length) (hk : k ≤ m) (hm : m ≤ len) (hcap : len ≤ cap) :
    ∃ a', Bs N w a' ((l.drop k).take (m - k)) ∧ ∀ W, (Instr.slice t (.slice a len cap) (some (.int .i64 (k : Int))) (some (.int .i64 (m : Int))) none).run P W = .ok (.slice a' (m - k) (cap - k)) W := by
  subst hlen
  have ht' : P.underlying t = some (.slice (P.elem t)) := by simp [Program.elem, ht]
  have hee : P.elem t = e := by simp [Program.elem, ht]
  refine ⟨if cap = k then a else a.map (·.add (k * 1)), ?_, fun W => ?_⟩
  · obtain ⟨h1, h2⟩ := h
    refine ⟨fun c hc => h1 c (List.mem_of_mem_drop (List.mem_of_mem_take hc)), ?_⟩
    rcases h2 with h2 | ⟨b, o, ha, hN, hc⟩
    · exact .inl (by simp [h2])
    · by_cases hkl : k = l.length
      · exact .inl (by simp [hkl])
      · right
        refine ⟨b, o + k, ?_, hN, fun i c hi => ?_⟩
        · rw [if_neg (by omega), ha]; simp [Addr.add]
        · rw [List.getElem?_take] at hi
          split at hi
          · rw [List.getElem?_drop] at hi
            rw [Nat.add_assoc]; exact hc _ _ hi
          · simp at hi
  · have := run_slice_lh (P := P) W t a l.length cap ht' .i64 .i64 (k : Int) (m : Int) (by omega) (by omega) (by omega)
    rw [this, hee, hz W]
    simp [Result.andThen, sliced]

/-- What the walk is told of a slice of integers that came in: it is nil; or it leads to a row of 'cap' cells, the numbers zs, each fitting its kind. -/
def IsRow (k : IntKind) (w : World) (a : Option Addr) (len cap : Nat) (zs : List Int) : Prop :=
  (a = none ∧ len = 0 ∧ cap = 0 ∧ zs = []) ∨
  ∃ x, a = some x ∧ len ≤ cap ∧ cap ≤ maxLen ∧ zs.length = cap ∧ (∀ i, i < zs.length → w.cell? (x.add i) = some (.int k (zs.getD i 0))) ∧ ∀ n ∈ zs, (Lit.int k n).wf = true

theorem nat_u64 {n : Int} (h : (Lit.int .u64 n).wf = true) : ∃ m : Nat, n = (m : Int) ∧ m < 18446744073709551616 := by
  have := bounds_u64 h
  exact ⟨n.toNat, by omega, by omega⟩
theorem nat_u8 {n : Int} (h : (Lit.int .u8 n).wf = true) : ∃ m : Nat, n = (m : Int) ∧ m < 256 := by
  have := bounds_u8 h
  exact ⟨n.toNat, by omega, by omega⟩
theorem bd_i64 {n : Int} (h : (Lit.int .i64 n).wf = true) : -9223372036854775808 ≤ n ∧ n ≤ 9223372036854775807 := bounds_i64 h

/-- A slice of integers that came in: its elements, in the blocks of the world. -/
theorem IsRow.read {k : IntKind} {w : World} {a : Option Addr} {len cap : Nat} {zs : List Int} (h : IsRow k w a len cap zs) :
    len ≤ cap ∧ cap ≤ maxLen ∧ ∃ l : List Int, l.length = len ∧ (∀ n ∈ l, (Lit.int k n).wf = true) ∧ (l = [] ∨ ∃ b o, a = some ⟨b, o, none⟩ ∧ b < w.heap.size ∧ ∀ (i : Nat) n, l[i]? = some n → w.cell? ⟨b, o + i, none⟩ = some (.int k n)) := by
  rcases h with ⟨rfl, rfl, rfl, rfl⟩ | ⟨x, rfl, hl, hm, hz, hcell, hwz⟩
  · exact ⟨by omega, by unfold maxLen; omega, [], rfl, by simp, .inl rfl⟩
  · refine ⟨hl, hm, zs.take len, by rw [List.length_take]; omega, fun n hn => hwz n (List.mem_of_mem_take hn), ?_⟩
    by_cases h0 : len = 0
    · exact .inl (by simp [h0])
    · right
      obtain ⟨b, o, spot⟩ := x
      have hc := hcell 0 (by omega)
      have hspot : spot = none := by simpa [Addr.add] using World.cell?_spot hc
      subst hspot
      refine ⟨b, o, rfl, ?_, fun i n hi => ?_⟩
      · have := World.block_lt_of_cell? _ _ hc
        simpa [Addr.add] using this
      · rw [List.getElem?_take] at hi
        split at hi
        · rename_i hlt
          have h1 := hcell i (by omega)
          have e1 : (⟨b, o, none⟩ : Addr).add i = ⟨b, o + i, none⟩ := by unfold Addr.add; split <;> simp_all
          rw [e1] at h1
          rw [h1]
          simp [List.getD, hi]
        · simp at hi

theorem IsRow.bs {w : World} {a : Option Addr} {len cap : Nat} {zs : List Int} (h : IsRow .u8 w a len cap zs) :
    ∃ l : List Nat, len = l.length ∧ Bs w.heap.size w a l ∧ len ≤ cap ∧ cap ≤ 9223372036854775807 := by
  obtain ⟨h1, h2, l, hl, hw, hc⟩ := h.read
  unfold maxLen at h2
  refine ⟨l.map Int.toNat, by simp [hl], ⟨?_, ?_⟩, h1, by omega⟩
  · intro c hc
    obtain ⟨n, hn, rfl⟩ := List.mem_map.1 hc
    have := bounds_u8 (hw n hn)
    omega
  · rcases hc with rfl | ⟨b, o, ha, hb, hc⟩
    · exact .inl rfl
    · refine .inr ⟨b, o, ha, hb, fun i c hi => ?_⟩
      rw [List.getElem?_map] at hi
      cases hli : l[i]? with
      | none => rw [hli] at hi; simp at hi
      | some n =>
        rw [hli] at hi
        simp at hi
        have := bounds_u8 (hw n (List.mem_of_getElem? hli))
        rw [hc i n hli]
        congr 2; omega

/-- A row of bytes of the call's own. -/
def OwnB (w : World) (base : Nat) (T : TypeId) (v : Value) (l : List Nat) : Prop := (∀ c ∈ l, c < 256) ∧ w.ownsRow base T 1 v l.length (l.map fun (c : Nat) => Value.int .u8 (c : Int))

theorem OwnB.nil (w : World) (base : Nat) (T : TypeId) : OwnB w base T (.slice none 0 0) [] := ⟨by simp, World.ownsRow_nil _ _ _ _⟩

theorem OwnB.slice {w : World} {base : Nat} {T : TypeId} {v : Value} {l : List Nat} (h : OwnB w base T v l) : ∃ a cap, v = .slice a l.length cap ∧ l.length ≤ cap ∧ Bs w.heap.size w a l ∧ (l ≠ [] → ∃ g, a = some ⟨g, 0, none⟩ ∧ base ≤ g) := by
  obtain ⟨h0, h1, h2⟩ := h
  rcases h2 with ⟨hv, hn⟩ | ⟨g, cap, cur, hv, hg, hh, hnc, hcm, hcs, hcur⟩
  · have : l = [] := List.length_eq_zero_iff.1 hn
    subst this
    exact ⟨none, 0, by simpa using hv, by simp, ⟨by simp, .inl rfl⟩, by simp⟩
  · refine ⟨some ⟨g, 0, none⟩, cap, hv, hnc, ⟨h0, .inr ⟨g, 0, rfl, ?_, ?_⟩⟩, fun _ => ⟨g, rfl, hg⟩⟩
    · by_cases hlt : g < w.heap.size
      · exact hlt
      · rw [Array.getElem?_eq_none (by omega)] at hh; simp at hh
    · intro i c hi
      have hil : i < l.length := by
        by_cases hlt : i < l.length
        · exact hlt
        · rw [List.getElem?_eq_none (by omega)] at hi; simp at hi
      have e1 : (cur.toList.take (l.length * 1))[i]? = some (Value.int .u8 (c : Int)) := by rw [hcur]; simp [hi]
      rw [List.getElem?_take_of_lt (by omega)] at e1
      simp only [World.cell?, hh, Nat.zero_add]
      simpa using e1

theorem OwnB.below {w w' : World} {base N : Nat} {T : TypeId} {v : Value} {l : List Nat} (h : OwnB w base T v l) (hN : w.heap.size ≤ N) (hb : Below N w w') : OwnB w' base T v l := by
  obtain ⟨h0, h1, h2⟩ := h
  refine ⟨h0, h1, ?_⟩
  rcases h2 with h2 | ⟨g, cap, cur, hv, hg, hh, r⟩
  · exact .inl h2
  · refine .inr ⟨g, cap, cur, hv, hg, ?_, r⟩
    rw [hb.block g (by
      by_cases hlt : g < w.heap.size
      · omega
      · rw [Array.getElem?_eq_none (by omega)] at hh; simp at hh)]
    exact hh

/-- 'append(s, x)': x has just been laid in a block of its own. -/
theorem wpList_app1 {P : Program} {ops : Array Oper} {rest : List Oper} {o : Oper} {a : Act} {Q : Exit → Act → World → Prop} (hgd : o.guard = none) (s x : Operand) (t : TypeId)
    (ho : o.op = .call { callee := .builtin .append, args := #[s, x], argTypes := #[t, t] })
    (base : Nat) (e : TypeId) (i : TypeInfo) (ht : P.underlying t = some (.slice e)) (hi : P.info? e = some i) (hz : i.zero = some (.int .u8 0))
    (hsize : i.size = 1) (hby : i.bytes = 1)
    (v : Value) (l : List Nat) (w : World) (hown : OwnB w base e v l) (hs : a.eval s = v) (c : Nat) (hc : c < 256) (n : Int) (hn : n = (c : Int))
    (hx : a.eval x = .slice (some ⟨w.heap.size, 0, none⟩) 1 1) (hlen : l.length < 100000000000000) (hbase : base ≤ w.heap.size)
    (h : ∀ v' w', OwnB w' base e v' (l ++ [c]) → Below base w w' → w.heap.size < w'.heap.size → wpList P ops Q rest (a.put o.dst v') w') :
    wpList P ops Q (o :: rest) a (w.alloc (.cells #[.int .u8 n] e)) := by
  subst hn
  refine wpList_append_own (w.alloc (.cells #[.int .u8 (c : Int)] e)) hgd s x t ho base e i (.int .u8 0) 1 1 ht hi hz hsize hby rfl (by decide) v l.length _ hs (hown.2.alloc _) ⟨w.heap.size, 0, none⟩ 1 1 [.int .u8 (c : Int)] hx rfl ?_ ?_ ?_ ?_ ?_ ?_
  · intro j u hj
    match j, hj with
    | 0, hj => simp at hj; subst hj; simp [Addr.add]
  · intro u hu; simp at hu; subst hu; rfl
  · unfold maxLen; omega
  · omega
  · simp; omega
  · intro v' w' hown' hgrow _
    refine h v' w' ⟨?_, by simpa using hown'⟩ ?_ ?_
    · intro d hd
      simp at hd
      rcases hd with hd | hd
      · exact hown.1 d hd
      · omega
    · exact ((Below.refl base w).alloc hbase _).grown hgrow (by simp; omega) (fun j hj => (hown.2.lt j hj).1)
    · have := hgrow.size; simp at this; omega

end Go.Proofs.YtbnddpicpomakaaGreatDoor

/- The model's decoder and the code points. -/
set_option linter.unusedSimpArgs false
set_option linter.unusedVariables false
set_option maxRecDepth 100000
namespace Go.Proofs.YtbnddpicpomakaaGreatDoor
open Go

def bytesU (s : ByteArray) : List Nat := s.data.toList.map UInt8.toNat

theorem bytesU_len (s : ByteArray) : (bytesU s).length = s.size := by simp [bytesU]
theorem bytesU_lt (s : ByteArray) : ∀ c ∈ bytesU s, c < 256 := by
  intro c hc
  obtain ⟨u, _, rfl⟩ := List.mem_map.1 hc
  exact u.toNat_lt
theorem map_lt (l : List UInt8) : ∀ c ∈ l.map UInt8.toNat, c < 256 := by
  intro c hc
  obtain ⟨u, _, rfl⟩ := List.mem_map.1 hc
  exact u.toNat_lt

theorem getD_map (l : List UInt8) (i : Nat) : (l.map UInt8.toNat).getD i 0 = (l.getD i 0).toNat := by
  rw [List.getD_eq_getElem?_getD, List.getD_eq_getElem?_getD, List.getElem?_map]
  cases l[i]? <;> rfl

theorem decodeL_hd (l : List UInt8) : Lib.decodeL l = hd (l.map UInt8.toNat) := by
  rw [Lib.decodeL_N]
  unfold hd
  rw [getD_map, getD_map, getD_map, getD_map, List.length_map]

theorem valid_dec : ∀ (n : Nat) (l : List UInt8), l.length ≤ n → Lib.validD l = (decS (l.map UInt8.toNat)).isSome
  | 0, l, h => by
    have : l = [] := List.eq_nil_of_length_eq_zero (by omega)
    subst this
    rw [Lib.validD_nil]; rfl
  | n + 1, l, h => by
    by_cases hne : l = []
    · subst hne; rw [Lib.validD_nil]; rfl
    · have hne2 : l.map UInt8.toNat ≠ [] := by simpa using hne
      have hl : 0 < l.length := List.length_pos_iff.2 hne
      rw [Lib.validD_step l hne, decodeL_hd]
      cases hp : pt (l.map UInt8.toNat) with
      | none =>
        rw [decS_bad (map_lt l) hne2 hp]
        have : hd (l.map UInt8.toNat) = (65533, 1) := by
          unfold pt at hp
          rw [if_neg hne2] at hp
          by_cases h : hd (l.map UInt8.toNat) = (65533, 1)
          · exact h
          · rw [if_neg h] at hp; simp at hp
        rw [this]; simp
      | some x =>
        obtain ⟨v, k⟩ := x
        rw [decS_go (map_lt l) hp]
        obtain ⟨_, _, _, h4, h5, h6⟩ := pt_some (map_lt l) hp
        have hb : ¬ ((hd (l.map UInt8.toNat)).1 = 65533 ∧ (hd (l.map UInt8.toNat)).2 = 1) := by
          intro hh
          unfold pt at hp
          rw [if_neg hne2, if_pos (Prod.ext hh.1 hh.2)] at hp
          simp at hp
        rw [if_neg hb, h6]
        dsimp only
        rw [valid_dec n (l.drop k) (by rw [List.length_drop]; omega), Option.isSome_map, List.map_drop]

theorem valid_bytes (s : ByteArray) : Lib.validD s.data.toList = (decS (bytesU s)).isSome := valid_dec _ _ (Nat.le_refl _)

theorem get_bytes (s : ByteArray) (i : Nat) : (s.get! i).toNat = (bytesU s).getD i 0 := by
  unfold bytesU
  rw [getD_map, List.getD_eq_getElem?_getD]
  congr 1
  show s.data[i]! = _
  rw [getElem!_def]
  simp only [Array.getElem?_toList]
  cases s.data[i]? <;> rfl

theorem decode_hd (s : ByteArray) (i : Nat) : Utf8.decode s i = hd ((bytesU s).drop i) := by
  rw [Lib.decode_at]
  unfold hd
  have hg : ∀ j, ((bytesU s).drop i).getD j 0 = (bytesU s).getD (i + j) 0 := fun j => by
    rw [List.getD_eq_getElem?_getD, List.getD_eq_getElem?_getD, List.getElem?_drop]
  rw [hg, hg, hg, hg, get_bytes, get_bytes, get_bytes, get_bytes, List.length_drop, bytesU_len]
  rfl
end Go.Proofs.YtbnddpicpomakaaGreatDoor

/- Rows of integers of one kind: read, appended to. -/
set_option linter.unusedSimpArgs false
set_option linter.unusedVariables false
set_option maxRecDepth 100000
namespace Go.Proofs.YtbnddpicpomakaaGreatDoor
open Go.RowKit

/-- The address leads to the integers l, of kind k, in blocks below number N. -/
def Rs (k : IntKind) (N : Nat) (w : World) (a : Option Addr) (l : List Int) : Prop :=
  l = [] ∨ ∃ b o, a = some ⟨b, o, none⟩ ∧ b < N ∧ ∀ (i : Nat) (c : Int), l[i]? = some c → w.cell? ⟨b, o + i, none⟩ = some (.int k c)

theorem Rs.below {k : IntKind} {N : Nat} {w w' : World} {a : Option Addr} {l : List Int} (h : Rs k N w a l) (hb : Below N w w') : Rs k N w' a l := by
  rcases h with h2 | ⟨b, o, ha, hN, hc⟩
  · exact .inl h2
  · exact .inr ⟨b, o, ha, hN, fun i c hi => (hb.cell (p := ⟨b, o + i, none⟩) hN).trans (hc i c hi)⟩

theorem Rs.mono {k : IntKind} {N M : Nat} {w : World} {a : Option Addr} {l : List Int} (h : Rs k N w a l) (hM : N ≤ M) : Rs k M w a l := by
  rcases h with h2 | ⟨b, o, ha, hN, hc⟩
  · exact .inl h2
  · exact .inr ⟨b, o, ha, by omega, hc⟩

theorem Rs.at_ {k : IntKind} {N : Nat} {w : World} {a : Option Addr} {l : List Int} (h : Rs k N w a l) {j : Nat} (hj : j < l.length) : ∃ b o, a = some ⟨b, o, none⟩ ∧ b < N ∧ w.cell? ⟨b, o + j, none⟩ = some (.int k l[j]) := by
  rcases h with h2 | ⟨b, o, ha, hN, hc⟩
  · subst h2; simp at hj
  · exact ⟨b, o, ha, hN, hc j _ (List.getElem?_eq_getElem hj)⟩

/-- 'b[k:]' of such a slice, as one value. -/
theorem Rs.from {P : Program} {kd : IntKind} {N : Nat} {w : World} {a : Option Addr} {l : List Int} (h : Rs kd N w a l) (t e : TypeId) (ht : P.underlying t = some (.slice e)) (hz : ∀ w, (Go.sizeOf e).run P w = .ok 1 w)
    (len cap k : Nat) (hlen : len = l.length) (hk : k ≤ len) (hcap : len ≤ cap) :
    ∃ a', Rs kd N w a' (l.drop k) ∧ ∀ W, (Instr.slice t (.slice a len cap) (some (.int .i64 (k : Int))) none none).run P W = .ok (.slice a' (len - k) (cap - k)) W := by
  subst hlen
  have ht' : P.underlying t = some (.slice (P.elem t)) := by simp [Program.elem, ht]
  have hee : P.elem t = e := by simp [Program.elem, ht]
  refine ⟨if cap = k then a else a.map (·.add (k * 1)), ?_, fun W => ?_⟩
  · rcases h with h2 | ⟨b, o, ha, hN, hc⟩
    · exact .inl (by simp [h2])
    · by_cases hkl : k = l.length
      · exact .inl (by simp [hkl])
      · right
        refine ⟨b, o + k, ?_, hN, fun i c hi => ?_⟩
        · rw [if_neg (by omega), ha]; simp [Addr.add]
        · rw [List.getElem?_drop] at hi
          rw [Nat.add_assoc]; exact hc _ _ hi
  · have := run_slice_l (P := P) W t a l.length cap ht' .i64 (k : Int) (by omega) (by omega)
    rw [this, hee, hz W]
    simp [Result.andThen, sliced]

/-- 'b[:m]'. -/
theorem Rs.upTo {P : Program} {kd : IntKind} {N : Nat} {w : World} {a : Option Addr} {l : List Int} (h : Rs kd N w a l) (t e : TypeId) (ht : P.underlying t = some (.slice e)) (hz : ∀ w, (Go.sizeOf e).run P w = .ok 1 w)
    (len cap m : Nat) (hlen : len = l.length) (hm : m ≤ len) (hcap : len ≤ cap) :
    ∃ a', Rs kd N w a' (l.take m) ∧ ∀ W, (Instr.slice t (.slice a len cap) none (some (.int .i64 (m : Int))) none).run P W = .ok (.slice a' m cap) W := by
  subst hlen
  have ht' : P.underlying t = some (.slice (P.elem t)) := by simp [Program.elem, ht]
  have hee : P.elem t = e := by simp [Program.elem, ht]
  refine ⟨if cap = 0 then a else a.map (·.add (0 * 1)), ?_, fun W => ?_⟩
  · rcases h with h2 | ⟨b, o, ha, hN, hc⟩
    · exact .inl (by simp [h2])
    · right
      refine ⟨b, o, ?_, hN, fun i c hi => ?_⟩
      · rw [ha]; split <;> simp [Addr.add]
      · rw [List.getElem?_take] at hi
        split at hi
        · exact hc _ _ hi
        · simp at hi
  · have := run_slice_h (P := P) W t a l.length cap ht' .i64 (m : Int) (by omega) (by omega)
    rw [this, hee, hz W]
    simp [Result.andThen, sliced]

/-- A row of integers of the call's own. -/
def OwnI (k : IntKind) (w : World) (base : Nat) (T : TypeId) (v : Value) (l : List Int) : Prop := w.ownsRow base T 1 v l.length (l.map fun (c : Int) => Value.int k c)

theorem OwnI.nil (k : IntKind) (w : World) (base : Nat) (T : TypeId) : OwnI k w base T (.slice none 0 0) [] := World.ownsRow_nil _ _ _ _

theorem OwnI.slice {k : IntKind} {w : World} {base : Nat} {T : TypeId} {v : Value} {l : List Int} (h : OwnI k w base T v l) : ∃ a cap, v = .slice a l.length cap ∧ l.length ≤ cap ∧ Rs k w.heap.size w a l ∧ (l ≠ [] → ∃ g, a = some ⟨g, 0, none⟩ ∧ base ≤ g) := by
  obtain ⟨h1, h2⟩ := h
  rcases h2 with ⟨hv, hn⟩ | ⟨g, cap, cur, hv, hg, hh, hnc, hcm, hcs, hcur⟩
  · have : l = [] := List.length_eq_zero_iff.1 hn
    subst this
    exact ⟨none, 0, by simpa using hv, by simp, .inl rfl, by simp⟩
  · refine ⟨some ⟨g, 0, none⟩, cap, hv, hnc, .inr ⟨g, 0, rfl, ?_, ?_⟩, fun _ => ⟨g, rfl, hg⟩⟩
    · by_cases hlt : g < w.heap.size
      · exact hlt
      · rw [Array.getElem?_eq_none (by omega)] at hh; simp at hh
    · intro i c hi
      have hil : i < l.length := by
        by_cases hlt : i < l.length
        · exact hlt
        · rw [List.getElem?_eq_none (by omega)] at hi; simp at hi
      have e1 : (cur.toList.take (l.length * 1))[i]? = some (Value.int k c) := by rw [hcur]; simp [hi]
      rw [List.getElem?_take_of_lt (by omega)] at e1
      simp only [World.cell?, hh, Nat.zero_add]
      simpa using e1

theorem OwnI.below {k : IntKind} {w w' : World} {base N : Nat} {T : TypeId} {v : Value} {l : List Int} (h : OwnI k w base T v l) (hN : w.heap.size ≤ N) (hb : Below N w w') : OwnI k w' base T v l := by
  obtain ⟨h1, h2⟩ := h
  refine ⟨h1, ?_⟩
  rcases h2 with h2 | ⟨g, cap, cur, hv, hg, hh, r⟩
  · exact .inl h2
  · refine .inr ⟨g, cap, cur, hv, hg, ?_, r⟩
    rw [hb.block g (by
      by_cases hlt : g < w.heap.size
      · omega
      · rw [Array.getElem?_eq_none (by omega)] at hh; simp at hh)]
    exact hh

/-- 'append(s, x)': x has just been laid in a block of its own. -/
theorem wpList_appI {P : Program} {ops : Array Oper} {rest : List Oper} {o : Oper} {a : Act} {Q : Exit → Act → World → Prop} (hgd : o.guard = none) (s x : Operand) (t : TypeId)
    (ho : o.op = .call { callee := .builtin .append, args := #[s, x], argTypes := #[t, t] }) (k : IntKind)
    (base : Nat) (e : TypeId) (i : TypeInfo) (bytes : Nat) (ht : P.underlying t = some (.slice e)) (hi : P.info? e = some i) (hz : i.zero = some (.int k 0))
    (hsize : i.size = 1) (hby : i.bytes = bytes) (h0 : bytes ≤ 8)
    (v : Value) (l : List Int) (w : World) (hown : OwnI k w base e v l) (hs : a.eval s = v) (c : Int)
    (hx : a.eval x = .slice (some ⟨w.heap.size, 0, none⟩) 1 1) (hlen : l.length < 1000000000000) (hbase : base ≤ w.heap.size)
    (h : ∀ v' w', OwnI k w' base e v' (l ++ [c]) → Below base w w' → w.heap.size < w'.heap.size → wpList P ops Q rest (a.put o.dst v') w') :
    wpList P ops Q (o :: rest) a (w.alloc (.cells #[.int k c] e)) := by
  refine wpList_append_own (w.alloc (.cells #[.int k c] e)) hgd s x t ho base e i (.int k 0) 1 bytes ht hi hz hsize hby rfl (by decide) v l.length _ hs (World.ownsRow.alloc hown _) ⟨w.heap.size, 0, none⟩ 1 1 [.int k c] hx rfl ?_ ?_ ?_ ?_ ?_ ?_
  · intro j u hj
    match j, hj with
    | 0, hj => simp at hj; subst hj; simp [Addr.add]
  · intro u hu; simp at hu; subst hu; rfl
  · unfold maxLen; omega
  · have : (l.length + 1) * bytes ≤ (l.length + 1) * 8 := Nat.mul_le_mul_left _ h0
    omega
  · simp; omega
  · intro v' w' hown' hgrow _
    refine h v' w' (by simpa [OwnI] using hown') ?_ ?_
    · exact ((Below.refl base w).alloc hbase _).grown hgrow (by simp; omega) (fun j hj => (World.ownsRow.lt hown j hj).1)
    · have := hgrow.size; simp at this; omega

theorem boxB (w : World) (o : Obj) : Below w.heap.size w (w.alloc o) := (Below.refl _ w).alloc (Nat.le_refl _) o

/-- A slice of integers that came in. -/
theorem IsRow.rs {k : IntKind} {w : World} {a : Option Addr} {len cap : Nat} {zs : List Int} (h : IsRow k w a len cap zs) :
    ∃ l : List Int, len = l.length ∧ Rs k w.heap.size w a l ∧ len ≤ cap ∧ cap ≤ 9223372036854775807 ∧ ∀ n ∈ l, (Lit.int k n).wf = true := by
  obtain ⟨h1, h2, l, hl, hw, hc⟩ := h.read
  unfold maxLen at h2
  exact ⟨l, hl.symm, hc, h1, by omega, hw⟩
end Go.Proofs.YtbnddpicpomakaaGreatDoor

/-
  DERIVED: THE SHELF's CONTRACTS AT THIS DUMP, IN PLAIN WORDS (tools/lay-plain.mjs out of 'YtbnddpicpomakaaGreatDoorShelf.lean', which tools/lay-shelf.mjs wrote): THE SAME DECLARATIONS UNDER THE SAME NAMES: 'import', 'namespace', 'open', 'def', 'theorem' AND NOTHING ELSE: no command of the shelf's: FOR A HAND-IN. Each laying: the table of numbers ('.._ren') and one theorem, a field a fact of the dump's own or the kernel's comparison; each contract: ONE APPLICATION.
-/
namespace Go.Proofs
open Go.Shelf
def Tryz.laysValid_ren : Go.Shelf.Ren := ⟨fun | 196 => 49 | 259 => 88 | n => n, fun | 9 => 9 | 4 => 4 | 3 => 3 | 5 => 5 | 12 => 12 | 119 => 114 | 0 => 0 | 46 => 118 | 139 => 117 | 138 => 116 | 53 => 132 | n => n, fun | 3 => 0 | 4 => 1 | n => n⟩
theorem Tryz.laysValid : Go.Proofs.Lays.n196 Tryz.prog Tryz.laysValid_ren := {
  mixed := by kernel_rfl
  f196 := Tryz.func49.trans (congrArg some (by kernel_rfl))
  f259 := Tryz.func88.trans (congrArg some (by kernel_rfl))
  t0 := Tryz.underlying0
  a0 := Tryz.isAgg0
  z0 := Tryz.sizeOf0
  v0 := Tryz.zeroValue0
  t3 := Tryz.underlying3
  a3 := Tryz.isAgg3
  z3 := Tryz.sizeOf3
  v3 := Tryz.zeroValue3
  t4 := Tryz.underlying4
  a4 := Tryz.isAgg4
  z4 := Tryz.sizeOf4
  v4 := Tryz.zeroValue4
  t5 := Tryz.underlying5
  a5 := Tryz.isAgg5
  z5 := Tryz.sizeOf5
  v5 := Tryz.zeroValue5
  t9 := Tryz.underlying9
  a9 := Tryz.isAgg9
  z9 := Tryz.sizeOf9
  v9 := Tryz.zeroValue9
  t12 := Tryz.underlying12
  a12 := Tryz.isAgg12
  z12 := Tryz.sizeOf12
  v12 := Tryz.zeroValue12
  t46 := Tryz.underlying118
  a46 := Tryz.isAgg118
  z46 := Tryz.sizeOf118
  v46 := Tryz.zeroValue118
  t53 := Tryz.underlying132
  a53 := Tryz.isAgg132
  z53 := Tryz.sizeOf132
  v53 := Tryz.zeroValue132
  t119 := Tryz.underlying114
  a119 := Tryz.isAgg114
  z119 := Tryz.sizeOf114
  t138 := Tryz.underlying116
  a138 := Tryz.isAgg116
  z138 := Tryz.sizeOf116
  v138 := Tryz.zeroValue116
  t139 := Tryz.underlying117
  a139 := Tryz.isAgg117
  z139 := Tryz.sizeOf117
  v139 := Tryz.zeroValue117
  g3 := by kernel_rfl
  g4 := by kernel_rfl }
def Tryz.laysCount_ren : Go.Shelf.Ren := ⟨fun | 195 => 150 | n => n, fun | 9 => 9 | 3 => 3 | 0 => 0 | 4 => 4 | n => n, fun | n => n⟩
theorem Tryz.laysCount : Go.Proofs.Lays.n195 Tryz.prog Tryz.laysCount_ren := {
  mixed := by kernel_rfl
  f195 := Tryz.func150.trans (congrArg some (by kernel_rfl))
  t0 := Tryz.underlying0
  a0 := Tryz.isAgg0
  z0 := Tryz.sizeOf0
  v0 := Tryz.zeroValue0
  t3 := Tryz.underlying3
  a3 := Tryz.isAgg3
  z3 := Tryz.sizeOf3
  v3 := Tryz.zeroValue3
  t4 := Tryz.underlying4
  a4 := Tryz.isAgg4
  z4 := Tryz.sizeOf4
  v4 := Tryz.zeroValue4
  t9 := Tryz.underlying9
  a9 := Tryz.isAgg9
  z9 := Tryz.sizeOf9
  v9 := Tryz.zeroValue9 }
def Tryz.laysTrimP_ren : Go.Shelf.Ren := ⟨fun | 101 => 117 | 208 => 131 | 206 => 92 | n => n, fun | 9 => 9 | 4 => 4 | 3 => 3 | n => n, fun | n => n⟩
theorem Tryz.laysTrimP : Go.Proofs.Lays.n101 Tryz.prog Tryz.laysTrimP_ren := {
  mixed := by kernel_rfl
  f101 := Tryz.func117.trans (congrArg some (by kernel_rfl))
  f206 := Tryz.func92.trans (congrArg some (by kernel_rfl))
  f208 := Tryz.func131.trans (congrArg some (by kernel_rfl))
  t3 := Tryz.underlying3
  a3 := Tryz.isAgg3
  z3 := Tryz.sizeOf3
  v3 := Tryz.zeroValue3
  t4 := Tryz.underlying4
  a4 := Tryz.isAgg4
  z4 := Tryz.sizeOf4
  v4 := Tryz.zeroValue4
  t9 := Tryz.underlying9
  a9 := Tryz.isAgg9
  z9 := Tryz.sizeOf9
  v9 := Tryz.zeroValue9 }
def Tryz.laysTrimS_ren : Go.Shelf.Ren := ⟨fun | 102 => 116 | 209 => 130 | 207 => 144 | n => n, fun | 9 => 9 | 4 => 4 | 3 => 3 | n => n, fun | n => n⟩
theorem Tryz.laysTrimS : Go.Proofs.Lays.n102 Tryz.prog Tryz.laysTrimS_ren := {
  mixed := by kernel_rfl
  f102 := Tryz.func116.trans (congrArg some (by kernel_rfl))
  f207 := Tryz.func144.trans (congrArg some (by kernel_rfl))
  f209 := Tryz.func130.trans (congrArg some (by kernel_rfl))
  t3 := Tryz.underlying3
  a3 := Tryz.isAgg3
  z3 := Tryz.sizeOf3
  v3 := Tryz.zeroValue3
  t4 := Tryz.underlying4
  a4 := Tryz.isAgg4
  z4 := Tryz.sizeOf4
  v4 := Tryz.zeroValue4
  t9 := Tryz.underlying9
  a9 := Tryz.isAgg9
  z9 := Tryz.sizeOf9
  v9 := Tryz.zeroValue9 }
def Tryz.laysRepl_ren : Go.Shelf.Ren := ⟨fun | 155 => 103 | 154 => 120 | 138 => 136 | 165 => 69 | 143 => 137 | 166 => 70 | 197 => 54 | 169 => 71 | 195 => 150 | 218 => 151 | 240 => 104 | 241 => 105 | 219 => 152 | 260 => 94 | 276 => 121 | 277 => 122 | 217 => 158 | 225 => 159 | 224 => 160 | 267 => 161 | 266 => 163 | 314 => 164 | n => n, fun | 9 => 9 | 3 => 3 | 4 => 4 | 72 => 101 | 0 => 0 | 76 => 105 | 105 => 88 | 21 => 21 | 5 => 5 | 70 => 98 | 20 => 20 | 37 => 99 | 75 => 104 | 127 => 129 | 164 => 139 | 46 => 118 | 119 => 114 | 139 => 117 | 138 => 116 | 146 => 173 | 51 => 159 | 80 => 107 | n => n, fun | 1 => 2 | 3 => 0 | 4 => 1 | n => n⟩
theorem Tryz.laysRepl : Go.Proofs.LaysM.n155 Tryz.prog Tryz.laysRepl_ren := {
  mixed := by kernel_rfl
  f138 := Tryz.func136.trans (congrArg some (by kernel_rfl))
  f143 := Tryz.func137.trans (congrArg some (by kernel_rfl))
  f154 := Tryz.func120.trans (congrArg some (by kernel_rfl))
  f155 := Tryz.func103.trans (congrArg some (by kernel_rfl))
  f165 := Tryz.func69.trans (congrArg some (by kernel_rfl))
  f166 := Tryz.func70.trans (congrArg some (by kernel_rfl))
  f169 := Tryz.func71.trans (congrArg some (by kernel_rfl))
  f195 := Tryz.func150.trans (congrArg some (by kernel_rfl))
  f197 := Tryz.func54.trans (congrArg some (by kernel_rfl))
  f217 := Tryz.func158.trans (congrArg some (by kernel_rfl))
  f218 := Tryz.func151.trans (congrArg some (by kernel_rfl))
  f219 := Tryz.func152.trans (congrArg some (by kernel_rfl))
  f224 := Tryz.func160.trans (congrArg some (by kernel_rfl))
  f225 := Tryz.func159.trans (congrArg some (by kernel_rfl))
  f240 := Tryz.func104.trans (congrArg some (by kernel_rfl))
  f241 := Tryz.func105.trans (congrArg some (by kernel_rfl))
  f260 := Tryz.func94.trans (congrArg some (by kernel_rfl))
  f266 := Tryz.func163.trans (congrArg some (by kernel_rfl))
  f267 := Tryz.func161.trans (congrArg some (by kernel_rfl))
  f276 := Tryz.func121.trans (congrArg some (by kernel_rfl))
  f277 := Tryz.func122.trans (congrArg some (by kernel_rfl))
  f314 := Tryz.func164.trans (congrArg some (by kernel_rfl))
  t0 := Tryz.underlying0
  a0 := Tryz.isAgg0
  z0 := Tryz.sizeOf0
  v0 := Tryz.zeroValue0
  t3 := Tryz.underlying3
  a3 := Tryz.isAgg3
  z3 := Tryz.sizeOf3
  v3 := Tryz.zeroValue3
  t4 := Tryz.underlying4
  a4 := Tryz.isAgg4
  z4 := Tryz.sizeOf4
  v4 := Tryz.zeroValue4
  t5 := Tryz.underlying5
  a5 := Tryz.isAgg5
  z5 := Tryz.sizeOf5
  v5 := Tryz.zeroValue5
  t9 := Tryz.underlying9
  a9 := Tryz.isAgg9
  z9 := Tryz.sizeOf9
  v9 := Tryz.zeroValue9
  t20 := Tryz.underlying20
  a20 := Tryz.isAgg20
  z20 := Tryz.sizeOf20
  v20 := Tryz.zeroValue20
  t21 := Tryz.underlying21
  a21 := Tryz.isAgg21
  z21 := Tryz.sizeOf21
  v21 := Tryz.zeroValue21
  t37 := Tryz.underlying99
  a37 := Tryz.isAgg99
  z37 := Tryz.sizeOf99
  v37 := Tryz.zeroValue99
  t46 := Tryz.underlying118
  a46 := Tryz.isAgg118
  z46 := Tryz.sizeOf118
  v46 := Tryz.zeroValue118
  t51 := Tryz.underlying159
  a51 := Tryz.isAgg159
  z51 := Tryz.sizeOf159
  v51 := Tryz.zeroValue159
  t70 := Tryz.underlying98
  a70 := Tryz.isAgg98
  z70 := Tryz.sizeOf98
  v70 := Tryz.zeroValue98
  t72 := Tryz.underlying101
  a72 := Tryz.isAgg101
  z72 := Tryz.sizeOf101
  v72 := Tryz.zeroValue101
  t75 := Tryz.underlying104
  a75 := Tryz.isAgg104
  z75 := Tryz.sizeOf104
  v75 := Tryz.zeroValue104
  t76 := Tryz.underlying105
  a76 := Tryz.isAgg105
  z76 := Tryz.sizeOf105
  v76 := Tryz.zeroValue105
  t105 := Tryz.underlying88
  a105 := Tryz.isAgg88
  z105 := Tryz.sizeOf88
  v105 := Tryz.zeroValue88
  t119 := Tryz.underlying114
  a119 := Tryz.isAgg114
  z119 := Tryz.sizeOf114
  t127 := Tryz.underlying129
  a127 := Tryz.isAgg129
  z127 := Tryz.sizeOf129
  v127 := Tryz.zeroValue129
  t138 := Tryz.underlying116
  a138 := Tryz.isAgg116
  z138 := Tryz.sizeOf116
  v138 := Tryz.zeroValue116
  t139 := Tryz.underlying117
  a139 := Tryz.isAgg117
  z139 := Tryz.sizeOf117
  v139 := Tryz.zeroValue117
  t146 := Tryz.underlying173
  a146 := Tryz.isAgg173
  z146 := Tryz.sizeOf173
  v146 := Tryz.zeroValue173
  t164 := Tryz.underlying139
  a164 := Tryz.isAgg139
  z164 := Tryz.sizeOf139
  v164 := Tryz.zeroValue139
  g1 := by kernel_rfl
  g3 := by kernel_rfl
  g4 := by kernel_rfl
  t80 := Tryz.underlying107
  a80 := Tryz.isAgg107
  z80 := Tryz.sizeOf107
  v80 := Tryz.zeroValue107
  i0 := by kernel_rfl
  i3 := by kernel_rfl
  i4 := by kernel_rfl
  i5 := by kernel_rfl
  i9 := by kernel_rfl
  i20 := by kernel_rfl
  i21 := by kernel_rfl
  i37 := by kernel_rfl
  i46 := by kernel_rfl
  i51 := by kernel_rfl
  i70 := by kernel_rfl
  i72 := by kernel_rfl
  i75 := by kernel_rfl
  i76 := by kernel_rfl
  i80 := by kernel_rfl
  i105 := by kernel_rfl
  i127 := by kernel_rfl
  i138 := by kernel_rfl
  i139 := by kernel_rfl
  i146 := by kernel_rfl
  i164 := by kernel_rfl
  m1 := by kernel_rfl
  s1_3 := fun w h => Go.Proofs.cell_of_shapedOpen_int (zero := #[.int .i64 0]) (t := 3) h (of_decide_eq_true (by kernel_rfl)) (by kernel_rfl) rfl (by kernel_rfl) (by kernel_rfl) Tryz.underlying3
  m3 := by kernel_rfl
  m4 := by kernel_rfl }
def Tryz.laysParse_ren : Go.Shelf.Ren := ⟨fun | 174 => 115 | 247 => 129 | 245 => 128 | 287 => 127 | 279 => 140 | 280 => 141 | 281 => 142 | 282 => 143 | 321 => 138 | 322 => 139 | 316 => 153 | 171 => 155 | 205 => 154 | 243 => 162 | 246 => 119 | 283 => 132 | 284 => 133 | 285 => 134 | 286 => 135 | 129 => 146 | 317 => 145 | 318 => 147 | 319 => 148 | 320 => 149 | 337 => 156 | 338 => 157 | n => n, fun | 9 => 9 | 3 => 3 | 2 => 2 | 75 => 104 | 85 => 135 | 4 => 4 | 167 => 152 | 5 => 5 | 53 => 132 | 175 => 133 | 46 => 118 | 168 => 154 | 37 => 99 | 0 => 0 | 210 => 165 | 21 => 21 | 127 => 129 | 145 => 170 | 143 => 168 | 171 => 146 | 173 => 149 | 212 => 158 | 51 => 159 | 20 => 20 | 213 => 160 | 232 => 171 | 233 => 172 | 80 => 107 | n => n, fun | 15 => 4 | 16 => 5 | 17 => 3 | 18 => 6 | 19 => 7 | n => n⟩
theorem Tryz.laysParse : Go.Proofs.LaysC.n174 Tryz.prog Tryz.laysParse_ren := {
  mixed := by kernel_rfl
  f129 := Tryz.func146.trans (congrArg some (by kernel_rfl))
  f171 := Tryz.func155.trans (congrArg some (by kernel_rfl))
  f174 := Tryz.func115.trans (congrArg some (by kernel_rfl))
  f205 := Tryz.func154.trans (congrArg some (by kernel_rfl))
  f243 := Tryz.func162.trans (congrArg some (by kernel_rfl))
  f245 := Tryz.func128.trans (congrArg some (by kernel_rfl))
  f246 := Tryz.func119.trans (congrArg some (by kernel_rfl))
  f247 := Tryz.func129.trans (congrArg some (by kernel_rfl))
  f279 := Tryz.func140.trans (congrArg some (by kernel_rfl))
  f280 := Tryz.func141.trans (congrArg some (by kernel_rfl))
  f281 := Tryz.func142.trans (congrArg some (by kernel_rfl))
  f282 := Tryz.func143.trans (congrArg some (by kernel_rfl))
  f283 := Tryz.func132.trans (congrArg some (by kernel_rfl))
  f284 := Tryz.func133.trans (congrArg some (by kernel_rfl))
  f285 := Tryz.func134.trans (congrArg some (by kernel_rfl))
  f286 := Tryz.func135.trans (congrArg some (by kernel_rfl))
  f287 := Tryz.func127.trans (congrArg some (by kernel_rfl))
  f316 := Tryz.func153.trans (congrArg some (by kernel_rfl))
  f317 := Tryz.func145.trans (congrArg some (by kernel_rfl))
  f318 := Tryz.func147.trans (congrArg some (by kernel_rfl))
  f319 := Tryz.func148.trans (congrArg some (by kernel_rfl))
  f320 := Tryz.func149.trans (congrArg some (by kernel_rfl))
  f321 := Tryz.func138.trans (congrArg some (by kernel_rfl))
  f322 := Tryz.func139.trans (congrArg some (by kernel_rfl))
  f337 := Tryz.func156.trans (congrArg some (by kernel_rfl))
  f338 := Tryz.func157.trans (congrArg some (by kernel_rfl))
  t0 := Tryz.underlying0
  a0 := Tryz.isAgg0
  z0 := Tryz.sizeOf0
  v0 := Tryz.zeroValue0
  t2 := Tryz.underlying2
  a2 := Tryz.isAgg2
  z2 := Tryz.sizeOf2
  v2 := Tryz.zeroValue2
  t3 := Tryz.underlying3
  a3 := Tryz.isAgg3
  z3 := Tryz.sizeOf3
  v3 := Tryz.zeroValue3
  t4 := Tryz.underlying4
  a4 := Tryz.isAgg4
  z4 := Tryz.sizeOf4
  v4 := Tryz.zeroValue4
  t5 := Tryz.underlying5
  a5 := Tryz.isAgg5
  z5 := Tryz.sizeOf5
  v5 := Tryz.zeroValue5
  t9 := Tryz.underlying9
  a9 := Tryz.isAgg9
  z9 := Tryz.sizeOf9
  v9 := Tryz.zeroValue9
  t20 := Tryz.underlying20
  a20 := Tryz.isAgg20
  z20 := Tryz.sizeOf20
  v20 := Tryz.zeroValue20
  t21 := Tryz.underlying21
  a21 := Tryz.isAgg21
  z21 := Tryz.sizeOf21
  v21 := Tryz.zeroValue21
  t37 := Tryz.underlying99
  a37 := Tryz.isAgg99
  z37 := Tryz.sizeOf99
  v37 := Tryz.zeroValue99
  t46 := Tryz.underlying118
  a46 := Tryz.isAgg118
  z46 := Tryz.sizeOf118
  v46 := Tryz.zeroValue118
  t51 := Tryz.underlying159
  a51 := Tryz.isAgg159
  z51 := Tryz.sizeOf159
  v51 := Tryz.zeroValue159
  t53 := Tryz.underlying132
  a53 := Tryz.isAgg132
  z53 := Tryz.sizeOf132
  v53 := Tryz.zeroValue132
  t75 := Tryz.underlying104
  a75 := Tryz.isAgg104
  z75 := Tryz.sizeOf104
  v75 := Tryz.zeroValue104
  t85 := Tryz.underlying135
  a85 := Tryz.isAgg135
  z85 := Tryz.sizeOf135
  v85 := Tryz.zeroValue135
  t127 := Tryz.underlying129
  a127 := Tryz.isAgg129
  z127 := Tryz.sizeOf129
  v127 := Tryz.zeroValue129
  t143 := Tryz.underlying168
  a143 := Tryz.isAgg168
  z143 := Tryz.sizeOf168
  v143 := Tryz.zeroValue168
  t145 := Tryz.underlying170
  a145 := Tryz.isAgg170
  z145 := Tryz.sizeOf170
  v145 := Tryz.zeroValue170
  t167 := Tryz.underlying152
  a167 := Tryz.isAgg152
  z167 := Tryz.sizeOf152
  v167 := Tryz.zeroValue152
  t168 := Tryz.underlying154
  a168 := Tryz.isAgg154
  z168 := Tryz.sizeOf154
  v168 := Tryz.zeroValue154
  t171 := Tryz.underlying146
  a171 := Tryz.isAgg146
  z171 := Tryz.sizeOf146
  v171 := Tryz.zeroValue146
  t173 := Tryz.underlying149
  a173 := Tryz.isAgg149
  z173 := Tryz.sizeOf149
  v173 := Tryz.zeroValue149
  t175 := Tryz.underlying133
  a175 := Tryz.isAgg133
  z175 := Tryz.sizeOf133
  v175 := Tryz.zeroValue133
  t210 := Tryz.underlying165
  a210 := Tryz.isAgg165
  z210 := Tryz.sizeOf165
  v210 := Tryz.zeroValue165
  t212 := Tryz.underlying158
  a212 := Tryz.isAgg158
  z212 := Tryz.sizeOf158
  v212 := Tryz.zeroValue158
  t213 := Tryz.underlying160
  a213 := Tryz.isAgg160
  z213 := Tryz.sizeOf160
  t232 := Tryz.underlying171
  a232 := Tryz.isAgg171
  z232 := Tryz.sizeOf171
  v232 := Tryz.zeroValue171
  t233 := Tryz.underlying172
  a233 := Tryz.isAgg172
  z233 := Tryz.sizeOf172
  v233 := Tryz.zeroValue172
  g15 := by kernel_rfl
  g16 := by kernel_rfl
  g17 := by kernel_rfl
  g18 := by kernel_rfl
  g19 := by kernel_rfl
  t80 := Tryz.underlying107
  a80 := Tryz.isAgg107
  z80 := Tryz.sizeOf107
  v80 := Tryz.zeroValue107
  i0 := by kernel_rfl
  i2 := by kernel_rfl
  i3 := by kernel_rfl
  i4 := by kernel_rfl
  i5 := by kernel_rfl
  i9 := by kernel_rfl
  i20 := by kernel_rfl
  i21 := by kernel_rfl
  i37 := by kernel_rfl
  i46 := by kernel_rfl
  i51 := by kernel_rfl
  i53 := by kernel_rfl
  i75 := by kernel_rfl
  i80 := by kernel_rfl
  i85 := by kernel_rfl
  i127 := by kernel_rfl
  i143 := by kernel_rfl
  i145 := by kernel_rfl
  i167 := by kernel_rfl
  i168 := by kernel_rfl
  i171 := by kernel_rfl
  i173 := by kernel_rfl
  i175 := by kernel_rfl
  i210 := by kernel_rfl
  i212 := by kernel_rfl
  i232 := by kernel_rfl
  i233 := by kernel_rfl
  m15 := by kernel_rfl
  m16 := by kernel_rfl
  m17 := by kernel_rfl
  m18 := by kernel_rfl
  m19 := by kernel_rfl
  c0 := by kernel_rfl
  c2 := by kernel_rfl
  c3 := by kernel_rfl
  c4 := by kernel_rfl
  c5 := by kernel_rfl
  c9 := by kernel_rfl
  c20 := by kernel_rfl
  c21 := by kernel_rfl
  c37 := by kernel_rfl
  c46 := by kernel_rfl
  c51 := by kernel_rfl
  c53 := by kernel_rfl
  c75 := by kernel_rfl
  c80 := by kernel_rfl
  c85 := by kernel_rfl
  c127 := by kernel_rfl
  c143 := by kernel_rfl
  c145 := by kernel_rfl
  c167 := by kernel_rfl
  c168 := by kernel_rfl
  c171 := by kernel_rfl
  c173 := by kernel_rfl
  c175 := by kernel_rfl
  c210 := by kernel_rfl
  c212 := by kernel_rfl
  c213 := by kernel_rfl
  c232 := by kernel_rfl
  c233 := by kernel_rfl }
def Tryz.laysFmt_ren : Go.Shelf.Ren := ⟨fun | 173 => 102 | 246 => 119 | 283 => 132 | 284 => 133 | 285 => 134 | 286 => 135 | 129 => 146 | 317 => 145 | 318 => 147 | 319 => 148 | 320 => 149 | 337 => 156 | 338 => 157 | n => n, fun | 2 => 2 | 3 => 3 | 9 => 9 | 4 => 4 | 171 => 146 | 0 => 0 | 53 => 132 | 37 => 99 | 5 => 5 | 173 => 149 | 212 => 158 | 51 => 159 | 20 => 20 | 213 => 160 | 46 => 118 | 232 => 171 | 233 => 172 | n => n, fun | 17 => 3 | 18 => 6 | 19 => 7 | n => n⟩
theorem Tryz.laysFmt : Go.Proofs.LaysM.n173 Tryz.prog Tryz.laysFmt_ren := {
  mixed := by kernel_rfl
  f129 := Tryz.func146.trans (congrArg some (by kernel_rfl))
  f173 := Tryz.func102.trans (congrArg some (by kernel_rfl))
  f246 := Tryz.func119.trans (congrArg some (by kernel_rfl))
  f283 := Tryz.func132.trans (congrArg some (by kernel_rfl))
  f284 := Tryz.func133.trans (congrArg some (by kernel_rfl))
  f285 := Tryz.func134.trans (congrArg some (by kernel_rfl))
  f286 := Tryz.func135.trans (congrArg some (by kernel_rfl))
  f317 := Tryz.func145.trans (congrArg some (by kernel_rfl))
  f318 := Tryz.func147.trans (congrArg some (by kernel_rfl))
  f319 := Tryz.func148.trans (congrArg some (by kernel_rfl))
  f320 := Tryz.func149.trans (congrArg some (by kernel_rfl))
  f337 := Tryz.func156.trans (congrArg some (by kernel_rfl))
  f338 := Tryz.func157.trans (congrArg some (by kernel_rfl))
  t0 := Tryz.underlying0
  a0 := Tryz.isAgg0
  z0 := Tryz.sizeOf0
  v0 := Tryz.zeroValue0
  t2 := Tryz.underlying2
  a2 := Tryz.isAgg2
  z2 := Tryz.sizeOf2
  v2 := Tryz.zeroValue2
  t3 := Tryz.underlying3
  a3 := Tryz.isAgg3
  z3 := Tryz.sizeOf3
  v3 := Tryz.zeroValue3
  t4 := Tryz.underlying4
  a4 := Tryz.isAgg4
  z4 := Tryz.sizeOf4
  v4 := Tryz.zeroValue4
  t5 := Tryz.underlying5
  a5 := Tryz.isAgg5
  z5 := Tryz.sizeOf5
  v5 := Tryz.zeroValue5
  t9 := Tryz.underlying9
  a9 := Tryz.isAgg9
  z9 := Tryz.sizeOf9
  v9 := Tryz.zeroValue9
  t20 := Tryz.underlying20
  a20 := Tryz.isAgg20
  z20 := Tryz.sizeOf20
  v20 := Tryz.zeroValue20
  t37 := Tryz.underlying99
  a37 := Tryz.isAgg99
  z37 := Tryz.sizeOf99
  v37 := Tryz.zeroValue99
  t46 := Tryz.underlying118
  a46 := Tryz.isAgg118
  z46 := Tryz.sizeOf118
  v46 := Tryz.zeroValue118
  t51 := Tryz.underlying159
  a51 := Tryz.isAgg159
  z51 := Tryz.sizeOf159
  v51 := Tryz.zeroValue159
  t53 := Tryz.underlying132
  a53 := Tryz.isAgg132
  z53 := Tryz.sizeOf132
  v53 := Tryz.zeroValue132
  t171 := Tryz.underlying146
  a171 := Tryz.isAgg146
  z171 := Tryz.sizeOf146
  v171 := Tryz.zeroValue146
  t173 := Tryz.underlying149
  a173 := Tryz.isAgg149
  z173 := Tryz.sizeOf149
  v173 := Tryz.zeroValue149
  t212 := Tryz.underlying158
  a212 := Tryz.isAgg158
  z212 := Tryz.sizeOf158
  v212 := Tryz.zeroValue158
  t213 := Tryz.underlying160
  a213 := Tryz.isAgg160
  z213 := Tryz.sizeOf160
  t232 := Tryz.underlying171
  a232 := Tryz.isAgg171
  z232 := Tryz.sizeOf171
  v232 := Tryz.zeroValue171
  t233 := Tryz.underlying172
  a233 := Tryz.isAgg172
  z233 := Tryz.sizeOf172
  v233 := Tryz.zeroValue172
  g17 := by kernel_rfl
  g18 := by kernel_rfl
  g19 := by kernel_rfl
  i0 := by kernel_rfl
  i2 := by kernel_rfl
  i3 := by kernel_rfl
  i4 := by kernel_rfl
  i5 := by kernel_rfl
  i9 := by kernel_rfl
  i20 := by kernel_rfl
  i37 := by kernel_rfl
  i46 := by kernel_rfl
  i51 := by kernel_rfl
  i53 := by kernel_rfl
  i171 := by kernel_rfl
  i173 := by kernel_rfl
  i212 := by kernel_rfl
  i232 := by kernel_rfl
  i233 := by kernel_rfl
  m17 := by kernel_rfl
  m18 := by kernel_rfl
  m19 := by kernel_rfl }
def Tryz.laysHasP_ren : Go.Shelf.Ren := ⟨fun | 99 => 52 | 206 => 92 | n => n, fun | 9 => 9 | 4 => 4 | 3 => 3 | n => n, fun | n => n⟩
theorem Tryz.laysHasP : Go.Proofs.Lays.n99 Tryz.prog Tryz.laysHasP_ren := {
  mixed := by kernel_rfl
  f99 := Tryz.func52.trans (congrArg some (by kernel_rfl))
  f206 := Tryz.func92.trans (congrArg some (by kernel_rfl))
  t3 := Tryz.underlying3
  a3 := Tryz.isAgg3
  z3 := Tryz.sizeOf3
  v3 := Tryz.zeroValue3
  t4 := Tryz.underlying4
  a4 := Tryz.isAgg4
  z4 := Tryz.sizeOf4
  v4 := Tryz.zeroValue4
  t9 := Tryz.underlying9
  a9 := Tryz.isAgg9
  z9 := Tryz.sizeOf9
  v9 := Tryz.zeroValue9 }
def Tryz.laysJoin_ren : Go.Shelf.Ren := ⟨fun | 156 => 36 | 165 => 69 | 166 => 70 | 169 => 71 | 240 => 104 | 241 => 105 | 276 => 121 | 277 => 122 | n => n, fun | 31 => 72 | 9 => 9 | 3 => 3 | 4 => 4 | 0 => 0 | 20 => 20 | 72 => 101 | 76 => 105 | 70 => 98 | 37 => 99 | 75 => 104 | 127 => 129 | 164 => 139 | 5 => 5 | 80 => 107 | n => n, fun | n => n⟩
theorem Tryz.laysJoin : Go.Proofs.Lays.n156 Tryz.prog Tryz.laysJoin_ren := {
  mixed := by kernel_rfl
  f156 := Tryz.func36.trans (congrArg some (by kernel_rfl))
  f165 := Tryz.func69.trans (congrArg some (by kernel_rfl))
  f166 := Tryz.func70.trans (congrArg some (by kernel_rfl))
  f169 := Tryz.func71.trans (congrArg some (by kernel_rfl))
  f240 := Tryz.func104.trans (congrArg some (by kernel_rfl))
  f241 := Tryz.func105.trans (congrArg some (by kernel_rfl))
  f276 := Tryz.func121.trans (congrArg some (by kernel_rfl))
  f277 := Tryz.func122.trans (congrArg some (by kernel_rfl))
  t0 := Tryz.underlying0
  a0 := Tryz.isAgg0
  z0 := Tryz.sizeOf0
  v0 := Tryz.zeroValue0
  t3 := Tryz.underlying3
  a3 := Tryz.isAgg3
  z3 := Tryz.sizeOf3
  v3 := Tryz.zeroValue3
  t4 := Tryz.underlying4
  a4 := Tryz.isAgg4
  z4 := Tryz.sizeOf4
  v4 := Tryz.zeroValue4
  t9 := Tryz.underlying9
  a9 := Tryz.isAgg9
  z9 := Tryz.sizeOf9
  v9 := Tryz.zeroValue9
  t20 := Tryz.underlying20
  a20 := Tryz.isAgg20
  z20 := Tryz.sizeOf20
  v20 := Tryz.zeroValue20
  t31 := Tryz.underlying72
  a31 := Tryz.isAgg72
  z31 := Tryz.sizeOf72
  v31 := Tryz.zeroValue72
  t37 := Tryz.underlying99
  a37 := Tryz.isAgg99
  z37 := Tryz.sizeOf99
  v37 := Tryz.zeroValue99
  t70 := Tryz.underlying98
  a70 := Tryz.isAgg98
  z70 := Tryz.sizeOf98
  v70 := Tryz.zeroValue98
  t72 := Tryz.underlying101
  a72 := Tryz.isAgg101
  z72 := Tryz.sizeOf101
  v72 := Tryz.zeroValue101
  t75 := Tryz.underlying104
  a75 := Tryz.isAgg104
  z75 := Tryz.sizeOf104
  v75 := Tryz.zeroValue104
  t76 := Tryz.underlying105
  a76 := Tryz.isAgg105
  z76 := Tryz.sizeOf105
  v76 := Tryz.zeroValue105
  t127 := Tryz.underlying129
  a127 := Tryz.isAgg129
  z127 := Tryz.sizeOf129
  v127 := Tryz.zeroValue129
  t164 := Tryz.underlying139
  a164 := Tryz.isAgg139
  z164 := Tryz.sizeOf139
  v164 := Tryz.zeroValue139 }
end Go.Proofs

/- The walks of runes.Right and runes.Split. -/
set_option linter.unusedSimpArgs false
set_option linter.unusedVariables false
set_option maxRecDepth 100000
namespace Go.Proofs.YtbnddpicpomakaaGreatDoor
open Go.RowKit

/-- Go's two tables of UTF-8 lie as the program's text lays them. -/
def Tabs (w : World) : Prop := Lib.Utf8Tabs (Tryz.laysValid_ren.g 3) (Tryz.laysValid_ren.g 4) w

theorem Tabs.below {w w' : World} (h : Tabs w) (hb : Below w.heap.size w w') : Tabs w' := Utf8Tabs_below h hb

/-- The code points as Go's integers. -/
def ptsZ (p : List Nat) : List Int := p.map fun (n : Nat) => (n : Int)
theorem ptsZ_len (p : List Nat) : (ptsZ p).length = p.length := by simp [ptsZ]
theorem ptsZ_append (p q : List Nat) : ptsZ (p ++ q) = ptsZ p ++ ptsZ q := by simp [ptsZ]

theorem Right_any (s : ByteArray) (w : World) (hs : s.size ≤ 9223372036854775807) (hT : Tabs w) :
    Calls Tryz.prog 29 #[.string s] w fun e w' => e = .returned (.bool (decS (bytesU s)).isSome) ∧ Below w.heap.size w w' := by
  have cV : Calls Tryz.prog 49 #[.string s] w _ := Any.utf8_ValidString Tryz.laysValid s w hs hT
  rw [valid_bytes] at cV
  obtain ⟨g, hg⟩ : ∃ g, (decS (bytesU s)).isSome = g := ⟨_, rfl⟩
  rw [hg] at cV ⊢
  have CV := Lib.hid cV
  clear cV hg hT
  go_enter Tryz.func29, Tryz.ntmps29
  go_wp2_with fail
  refine CV.out.mono ?_
  rintro e w1 ⟨rfl, hb⟩
  go_wp2
  go_ret
  exact ⟨rfl, hb⟩

theorem OwnI.iterAt {k : IntKind} {w : World} {base : Nat} {T : TypeId} {v : Value} {l : List Int} (h : OwnI k w base T v l) {b : Nat} (hb : b < base) (s : ByteArray) (pos : Nat) : OwnI k (w.iterAt b s pos) base T v l := by
  obtain ⟨h1, h2⟩ := h
  refine ⟨h1, ?_⟩
  rcases h2 with h2 | ⟨g, cap, cur, hv, hg, hh, r⟩
  · exact .inl h2
  · exact .inr ⟨g, cap, cur, hv, hg, by rw [Lib.iterAt_other _ _ _ _ _ (by omega)]; exact hh, r⟩

/-- What Split hands back: the points, or an error. -/
def RetSp (w : World) (o : Option (List Nat)) (e : Ending) (w' : World) : Prop :=
  Below w.heap.size w w' ∧ ((o = none ∧ e = .returned (.tuple #[.slice none 0 0, .int .i64 3])) ∨
    ∃ p a cap, o = some p ∧ e = .returned (.tuple #[.slice a p.length cap, .int .i64 0]) ∧ p.length ≤ cap ∧ Rs .i32 w'.heap.size w' a (ptsZ p))

theorem Tryz.info21 : (Tryz.prog.info? 21).map (fun i => (i.zero, i.size, i.bytes)) = some (some (.int .i32 0), 1, 4) := by kernel_rfl

end Go.Proofs.YtbnddpicpomakaaGreatDoor

/- Classes of code points. -/
set_option linter.unusedSimpArgs false
set_option linter.unusedVariables false
set_option maxRecDepth 100000
namespace Go.Proofs.YtbnddpicpomakaaGreatDoor
set_option linter.unusedSimpArgs false
open Go.RowKit

def classZ (v : Int) : Int :=
  if v = 32 ∨ v = 9 ∨ v = 10 ∨ v = 13 then 1
  else if (97 ≤ v ∧ v ≤ 122) ∨ (65 ≤ v ∧ v ≤ 90) ∨ v = 95 then 2
  else if 48 ≤ v ∧ v ≤ 57 then 3
  else if v = 39 then 4
  else if 33 ≤ v ∧ v ≤ 126 then 5
  else 0

theorem class_of (v k : Int) (h : (k = 1 ∧ (v = 32 ∨ v = 9 ∨ v = 10 ∨ v = 13)) ∨ (k = 2 ∧ ((97 ≤ v ∧ v ≤ 122) ∨ (65 ≤ v ∧ v ≤ 90) ∨ v = 95)) ∨ (k = 3 ∧ 48 ≤ v ∧ v ≤ 57) ∨ (k = 4 ∧ v = 39) ∨
    (k = 5 ∧ 33 ≤ v ∧ v ≤ 126 ∧ ¬ (97 ≤ v ∧ v ≤ 122) ∧ ¬ (65 ≤ v ∧ v ≤ 90) ∧ v ≠ 95 ∧ ¬ (48 ≤ v ∧ v ≤ 57) ∧ v ≠ 39) ∨ (k = 0 ∧ v ≠ 32 ∧ v ≠ 9 ∧ v ≠ 10 ∧ v ≠ 13 ∧ ¬ (33 ≤ v ∧ v ≤ 126))) : classZ v = k := by
  unfold classZ
  repeat' split
  all_goals omega

set_option maxRecDepth 100000 in
set_option maxHeartbeats 4000000 in
theorem Class_any (c : Int) (w : World) : Calls Tryz.prog 51 #[.int .i32 c] w fun e w' => e = .returned (.int .i64 (classZ c)) ∧ w = w' := by
  by_cases k9 : c = 9
  · subst k9
    go_enter Tryz.func51, Tryz.ntmps51
    go_wp2
    go_ret
    exact ⟨rfl, rfl⟩
  by_cases k10 : c = 10
  · subst k10
    go_enter Tryz.func51, Tryz.ntmps51
    go_wp2
    go_ret
    exact ⟨rfl, rfl⟩
  by_cases k13 : c = 13
  · subst k13
    go_enter Tryz.func51, Tryz.ntmps51
    go_wp2
    go_ret
    exact ⟨rfl, rfl⟩
  by_cases k32 : c = 32
  · subst k32
    go_enter Tryz.func51, Tryz.ntmps51
    go_wp2
    go_ret
    exact ⟨rfl, rfl⟩
  by_cases k39 : c = 39
  · subst k39
    go_enter Tryz.func51, Tryz.ntmps51
    go_wp2
    go_ret
    exact ⟨rfl, rfl⟩
  by_cases k95 : c = 95
  · subst k95
    go_enter Tryz.func51, Tryz.ntmps51
    go_wp2
    go_ret
    exact ⟨rfl, rfl⟩
  by_cases rx : c ≤ 8
  · have hcl : Hid (classZ c = 0) := class_of c 0 (by omega)
    have e32 : (c == 32) = false := by simp; omega
    have e9 : (c == 9) = false := by simp; omega
    have e10 : (c == 10) = false := by simp; omega
    have e13 : (c == 13) = false := by simp; omega
    have e95 : (c == 95) = false := by simp; omega
    have e39 : (c == 39) = false := by simp; omega
    have g97 : decide (97 ≤ c) = false := by simp; omega
    have l122 : decide (c ≤ 122) = true := by simp; omega
    have g65 : decide (65 ≤ c) = false := by simp; omega
    have l90 : decide (c ≤ 90) = true := by simp; omega
    have g48 : decide (48 ≤ c) = false := by simp; omega
    have l57 : decide (c ≤ 57) = true := by simp; omega
    have g33 : decide (33 ≤ c) = false := by simp; omega
    have l126 : decide (c ≤ 126) = true := by simp; omega
    clear k9 k10 k13 k32 k39 k95 rx
    go_enter Tryz.func51, Tryz.ntmps51
    go_wp2
    go_ret
    exact ⟨by rw [hcl.out]; rfl, rfl⟩
  by_cases r11 : 11 ≤ c ∧ c ≤ 12
  · have hcl : Hid (classZ c = 0) := class_of c 0 (by omega)
    have e32 : (c == 32) = false := by simp; omega
    have e9 : (c == 9) = false := by simp; omega
    have e10 : (c == 10) = false := by simp; omega
    have e13 : (c == 13) = false := by simp; omega
    have e95 : (c == 95) = false := by simp; omega
    have e39 : (c == 39) = false := by simp; omega
    have g97 : decide (97 ≤ c) = false := by simp; omega
    have l122 : decide (c ≤ 122) = true := by simp; omega
    have g65 : decide (65 ≤ c) = false := by simp; omega
    have l90 : decide (c ≤ 90) = true := by simp; omega
    have g48 : decide (48 ≤ c) = false := by simp; omega
    have l57 : decide (c ≤ 57) = true := by simp; omega
    have g33 : decide (33 ≤ c) = false := by simp; omega
    have l126 : decide (c ≤ 126) = true := by simp; omega
    clear k9 k10 k13 k32 k39 k95 r11 rx
    go_enter Tryz.func51, Tryz.ntmps51
    go_wp2
    go_ret
    exact ⟨by rw [hcl.out]; rfl, rfl⟩
  by_cases r14 : 14 ≤ c ∧ c ≤ 31
  · have hcl : Hid (classZ c = 0) := class_of c 0 (by omega)
    have e32 : (c == 32) = false := by simp; omega
    have e9 : (c == 9) = false := by simp; omega
    have e10 : (c == 10) = false := by simp; omega
    have e13 : (c == 13) = false := by simp; omega
    have e95 : (c == 95) = false := by simp; omega
    have e39 : (c == 39) = false := by simp; omega
    have g97 : decide (97 ≤ c) = false := by simp; omega
    have l122 : decide (c ≤ 122) = true := by simp; omega
    have g65 : decide (65 ≤ c) = false := by simp; omega
    have l90 : decide (c ≤ 90) = true := by simp; omega
    have g48 : decide (48 ≤ c) = false := by simp; omega
    have l57 : decide (c ≤ 57) = true := by simp; omega
    have g33 : decide (33 ≤ c) = false := by simp; omega
    have l126 : decide (c ≤ 126) = true := by simp; omega
    clear k9 k10 k13 k32 k39 k95 r14 rx r11
    go_enter Tryz.func51, Tryz.ntmps51
    go_wp2
    go_ret
    exact ⟨by rw [hcl.out]; rfl, rfl⟩
  by_cases r33 : 33 ≤ c ∧ c ≤ 38
  · have hcl : Hid (classZ c = 5) := class_of c 5 (by omega)
    have e32 : (c == 32) = false := by simp; omega
    have e9 : (c == 9) = false := by simp; omega
    have e10 : (c == 10) = false := by simp; omega
    have e13 : (c == 13) = false := by simp; omega
    have e95 : (c == 95) = false := by simp; omega
    have e39 : (c == 39) = false := by simp; omega
    have g97 : decide (97 ≤ c) = false := by simp; omega
    have l122 : decide (c ≤ 122) = true := by simp; omega
    have g65 : decide (65 ≤ c) = false := by simp; omega
    have l90 : decide (c ≤ 90) = true := by simp; omega
    have g48 : decide (48 ≤ c) = false := by simp; omega
    have l57 : decide (c ≤ 57) = true := by simp; omega
    have g33 : decide (33 ≤ c) = true := by simp; omega
    have l126 : decide (c ≤ 126) = true := by simp; omega
    clear k9 k10 k13 k32 k39 k95 r33 rx r11 r14
    go_enter Tryz.func51, Tryz.ntmps51
    go_wp2
    go_ret
    exact ⟨by rw [hcl.out]; rfl, rfl⟩
  by_cases r40 : 40 ≤ c ∧ c ≤ 47
  · have hcl : Hid (classZ c = 5) := class_of c 5 (by omega)
    have e32 : (c == 32) = false := by simp; omega
    have e9 : (c == 9) = false := by simp; omega
    have e10 : (c == 10) = false := by simp; omega
    have e13 : (c == 13) = false := by simp; omega
    have e95 : (c == 95) = false := by simp; omega
    have e39 : (c == 39) = false := by simp; omega
    have g97 : decide (97 ≤ c) = false := by simp; omega
    have l122 : decide (c ≤ 122) = true := by simp; omega
    have g65 : decide (65 ≤ c) = false := by simp; omega
    have l90 : decide (c ≤ 90) = true := by simp; omega
    have g48 : decide (48 ≤ c) = false := by simp; omega
    have l57 : decide (c ≤ 57) = true := by simp; omega
    have g33 : decide (33 ≤ c) = true := by simp; omega
    have l126 : decide (c ≤ 126) = true := by simp; omega
    clear k9 k10 k13 k32 k39 k95 r40 rx r11 r14 r33
    go_enter Tryz.func51, Tryz.ntmps51
    go_wp2
    go_ret
    exact ⟨by rw [hcl.out]; rfl, rfl⟩
  by_cases r48 : 48 ≤ c ∧ c ≤ 57
  · have hcl : Hid (classZ c = 3) := class_of c 3 (by omega)
    have e32 : (c == 32) = false := by simp; omega
    have e9 : (c == 9) = false := by simp; omega
    have e10 : (c == 10) = false := by simp; omega
    have e13 : (c == 13) = false := by simp; omega
    have e95 : (c == 95) = false := by simp; omega
    have e39 : (c == 39) = false := by simp; omega
    have g97 : decide (97 ≤ c) = false := by simp; omega
    have l122 : decide (c ≤ 122) = true := by simp; omega
    have g65 : decide (65 ≤ c) = false := by simp; omega
    have l90 : decide (c ≤ 90) = true := by simp; omega
    have g48 : decide (48 ≤ c) = true := by simp; omega
    have l57 : decide (c ≤ 57) = true := by simp; omega
    have g33 : decide (33 ≤ c) = true := by simp; omega
    have l126 : decide (c ≤ 126) = true := by simp; omega
    clear k9 k10 k13 k32 k39 k95 r48 rx r11 r14 r33 r40
    go_enter Tryz.func51, Tryz.ntmps51
    go_wp2
    go_ret
    exact ⟨by rw [hcl.out]; rfl, rfl⟩
  by_cases r58 : 58 ≤ c ∧ c ≤ 64
  · have hcl : Hid (classZ c = 5) := class_of c 5 (by omega)
    have e32 : (c == 32) = false := by simp; omega
    have e9 : (c == 9) = false := by simp; omega
    have e10 : (c == 10) = false := by simp; omega
    have e13 : (c == 13) = false := by simp; omega
    have e95 : (c == 95) = false := by simp; omega
    have e39 : (c == 39) = false := by simp; omega
    have g97 : decide (97 ≤ c) = false := by simp; omega
    have l122 : decide (c ≤ 122) = true := by simp; omega
    have g65 : decide (65 ≤ c) = false := by simp; omega
    have l90 : decide (c ≤ 90) = true := by simp; omega
    have g48 : decide (48 ≤ c) = true := by simp; omega
    have l57 : decide (c ≤ 57) = false := by simp; omega
    have g33 : decide (33 ≤ c) = true := by simp; omega
    have l126 : decide (c ≤ 126) = true := by simp; omega
    clear k9 k10 k13 k32 k39 k95 r58 rx r11 r14 r33 r40 r48
    go_enter Tryz.func51, Tryz.ntmps51
    go_wp2
    go_ret
    exact ⟨by rw [hcl.out]; rfl, rfl⟩
  by_cases r65 : 65 ≤ c ∧ c ≤ 90
  · have hcl : Hid (classZ c = 2) := class_of c 2 (by omega)
    have e32 : (c == 32) = false := by simp; omega
    have e9 : (c == 9) = false := by simp; omega
    have e10 : (c == 10) = false := by simp; omega
    have e13 : (c == 13) = false := by simp; omega
    have e95 : (c == 95) = false := by simp; omega
    have e39 : (c == 39) = false := by simp; omega
    have g97 : decide (97 ≤ c) = false := by simp; omega
    have l122 : decide (c ≤ 122) = true := by simp; omega
    have g65 : decide (65 ≤ c) = true := by simp; omega
    have l90 : decide (c ≤ 90) = true := by simp; omega
    have g48 : decide (48 ≤ c) = true := by simp; omega
    have l57 : decide (c ≤ 57) = false := by simp; omega
    have g33 : decide (33 ≤ c) = true := by simp; omega
    have l126 : decide (c ≤ 126) = true := by simp; omega
    clear k9 k10 k13 k32 k39 k95 r65 rx r11 r14 r33 r40 r48 r58
    go_enter Tryz.func51, Tryz.ntmps51
    go_wp2
    go_ret
    exact ⟨by rw [hcl.out]; rfl, rfl⟩
  by_cases r91 : 91 ≤ c ∧ c ≤ 94
  · have hcl : Hid (classZ c = 5) := class_of c 5 (by omega)
    have e32 : (c == 32) = false := by simp; omega
    have e9 : (c == 9) = false := by simp; omega
    have e10 : (c == 10) = false := by simp; omega
    have e13 : (c == 13) = false := by simp; omega
    have e95 : (c == 95) = false := by simp; omega
    have e39 : (c == 39) = false := by simp; omega
    have g97 : decide (97 ≤ c) = false := by simp; omega
    have l122 : decide (c ≤ 122) = true := by simp; omega
    have g65 : decide (65 ≤ c) = true := by simp; omega
    have l90 : decide (c ≤ 90) = false := by simp; omega
    have g48 : decide (48 ≤ c) = true := by simp; omega
    have l57 : decide (c ≤ 57) = false := by simp; omega
    have g33 : decide (33 ≤ c) = true := by simp; omega
    have l126 : decide (c ≤ 126) = true := by simp; omega
    clear k9 k10 k13 k32 k39 k95 r91 rx r11 r14 r33 r40 r48 r58 r65
    go_enter Tryz.func51, Tryz.ntmps51
    go_wp2
    go_ret
    exact ⟨by rw [hcl.out]; rfl, rfl⟩
  by_cases r96 : 96 ≤ c ∧ c ≤ 96
  · have hcl : Hid (classZ c = 5) := class_of c 5 (by omega)
    have e32 : (c == 32) = false := by simp; omega
    have e9 : (c == 9) = false := by simp; omega
    have e10 : (c == 10) = false := by simp; omega
    have e13 : (c == 13) = false := by simp; omega
    have e95 : (c == 95) = false := by simp; omega
    have e39 : (c == 39) = false := by simp; omega
    have g97 : decide (97 ≤ c) = false := by simp; omega
    have l122 : decide (c ≤ 122) = true := by simp; omega
    have g65 : decide (65 ≤ c) = true := by simp; omega
    have l90 : decide (c ≤ 90) = false := by simp; omega
    have g48 : decide (48 ≤ c) = true := by simp; omega
    have l57 : decide (c ≤ 57) = false := by simp; omega
    have g33 : decide (33 ≤ c) = true := by simp; omega
    have l126 : decide (c ≤ 126) = true := by simp; omega
    clear k9 k10 k13 k32 k39 k95 r96 rx r11 r14 r33 r40 r48 r58 r65 r91
    go_enter Tryz.func51, Tryz.ntmps51
    go_wp2
    go_ret
    exact ⟨by rw [hcl.out]; rfl, rfl⟩
  by_cases r97 : 97 ≤ c ∧ c ≤ 122
  · have hcl : Hid (classZ c = 2) := class_of c 2 (by omega)
    have e32 : (c == 32) = false := by simp; omega
    have e9 : (c == 9) = false := by simp; omega
    have e10 : (c == 10) = false := by simp; omega
    have e13 : (c == 13) = false := by simp; omega
    have e95 : (c == 95) = false := by simp; omega
    have e39 : (c == 39) = false := by simp; omega
    have g97 : decide (97 ≤ c) = true := by simp; omega
    have l122 : decide (c ≤ 122) = true := by simp; omega
    have g65 : decide (65 ≤ c) = true := by simp; omega
    have l90 : decide (c ≤ 90) = false := by simp; omega
    have g48 : decide (48 ≤ c) = true := by simp; omega
    have l57 : decide (c ≤ 57) = false := by simp; omega
    have g33 : decide (33 ≤ c) = true := by simp; omega
    have l126 : decide (c ≤ 126) = true := by simp; omega
    clear k9 k10 k13 k32 k39 k95 r97 rx r11 r14 r33 r40 r48 r58 r65 r91 r96
    go_enter Tryz.func51, Tryz.ntmps51
    go_wp2
    go_ret
    exact ⟨by rw [hcl.out]; rfl, rfl⟩
  by_cases r123 : 123 ≤ c ∧ c ≤ 126
  · have hcl : Hid (classZ c = 5) := class_of c 5 (by omega)
    have e32 : (c == 32) = false := by simp; omega
    have e9 : (c == 9) = false := by simp; omega
    have e10 : (c == 10) = false := by simp; omega
    have e13 : (c == 13) = false := by simp; omega
    have e95 : (c == 95) = false := by simp; omega
    have e39 : (c == 39) = false := by simp; omega
    have g97 : decide (97 ≤ c) = true := by simp; omega
    have l122 : decide (c ≤ 122) = false := by simp; omega
    have g65 : decide (65 ≤ c) = true := by simp; omega
    have l90 : decide (c ≤ 90) = false := by simp; omega
    have g48 : decide (48 ≤ c) = true := by simp; omega
    have l57 : decide (c ≤ 57) = false := by simp; omega
    have g33 : decide (33 ≤ c) = true := by simp; omega
    have l126 : decide (c ≤ 126) = true := by simp; omega
    clear k9 k10 k13 k32 k39 k95 r123 rx r11 r14 r33 r40 r48 r58 r65 r91 r96 r97
    go_enter Tryz.func51, Tryz.ntmps51
    go_wp2
    go_ret
    exact ⟨by rw [hcl.out]; rfl, rfl⟩
  by_cases r127 : 127 ≤ c
  · have hcl : Hid (classZ c = 0) := class_of c 0 (by omega)
    have e32 : (c == 32) = false := by simp; omega
    have e9 : (c == 9) = false := by simp; omega
    have e10 : (c == 10) = false := by simp; omega
    have e13 : (c == 13) = false := by simp; omega
    have e95 : (c == 95) = false := by simp; omega
    have e39 : (c == 39) = false := by simp; omega
    have g97 : decide (97 ≤ c) = true := by simp; omega
    have l122 : decide (c ≤ 122) = false := by simp; omega
    have g65 : decide (65 ≤ c) = true := by simp; omega
    have l90 : decide (c ≤ 90) = false := by simp; omega
    have g48 : decide (48 ≤ c) = true := by simp; omega
    have l57 : decide (c ≤ 57) = false := by simp; omega
    have g33 : decide (33 ≤ c) = true := by simp; omega
    have l126 : decide (c ≤ 126) = false := by simp; omega
    clear k9 k10 k13 k32 k39 k95 r127 rx r11 r14 r33 r40 r48 r58 r65 r91 r96 r97 r123
    go_enter Tryz.func51, Tryz.ntmps51
    go_wp2
    go_ret
    exact ⟨by rw [hcl.out]; rfl, rfl⟩
  exfalso; omega

set_option maxRecDepth 100000 in
set_option maxHeartbeats 4000000 in
theorem rClass_any (c : Int) (w : World) : Calls Tryz.prog 60 #[.int .i64 c] w fun e w' => e = .returned (.int .i64 (classZ c)) ∧ w = w' := by
  by_cases k9 : c = 9
  · subst k9
    go_enter Tryz.func60, Tryz.ntmps60
    go_wp2
    go_ret
    exact ⟨rfl, rfl⟩
  by_cases k10 : c = 10
  · subst k10
    go_enter Tryz.func60, Tryz.ntmps60
    go_wp2
    go_ret
    exact ⟨rfl, rfl⟩
  by_cases k13 : c = 13
  · subst k13
    go_enter Tryz.func60, Tryz.ntmps60
    go_wp2
    go_ret
    exact ⟨rfl, rfl⟩
  by_cases k32 : c = 32
  · subst k32
    go_enter Tryz.func60, Tryz.ntmps60
    go_wp2
    go_ret
    exact ⟨rfl, rfl⟩
  by_cases k39 : c = 39
  · subst k39
    go_enter Tryz.func60, Tryz.ntmps60
    go_wp2
    go_ret
    exact ⟨rfl, rfl⟩
  by_cases k95 : c = 95
  · subst k95
    go_enter Tryz.func60, Tryz.ntmps60
    go_wp2
    go_ret
    exact ⟨rfl, rfl⟩
  by_cases rx : c ≤ 8
  · have hcl : Hid (classZ c = 0) := class_of c 0 (by omega)
    have e32 : (c == 32) = false := by simp; omega
    have e9 : (c == 9) = false := by simp; omega
    have e10 : (c == 10) = false := by simp; omega
    have e13 : (c == 13) = false := by simp; omega
    have e95 : (c == 95) = false := by simp; omega
    have e39 : (c == 39) = false := by simp; omega
    have g97 : decide (97 ≤ c) = false := by simp; omega
    have l122 : decide (c ≤ 122) = true := by simp; omega
    have g65 : decide (65 ≤ c) = false := by simp; omega
    have l90 : decide (c ≤ 90) = true := by simp; omega
    have g48 : decide (48 ≤ c) = false := by simp; omega
    have l57 : decide (c ≤ 57) = true := by simp; omega
    have g33 : decide (33 ≤ c) = false := by simp; omega
    have l126 : decide (c ≤ 126) = true := by simp; omega
    clear k9 k10 k13 k32 k39 k95 rx
    go_enter Tryz.func60, Tryz.ntmps60
    go_wp2
    go_ret
    exact ⟨by rw [hcl.out]; rfl, rfl⟩
  by_cases r11 : 11 ≤ c ∧ c ≤ 12
  · have hcl : Hid (classZ c = 0) := class_of c 0 (by omega)
    have e32 : (c == 32) = false := by simp; omega
    have e9 : (c == 9) = false := by simp; omega
    have e10 : (c == 10) = false := by simp; omega
    have e13 : (c == 13) = false := by simp; omega
    have e95 : (c == 95) = false := by simp; omega
    have e39 : (c == 39) = false := by simp; omega
    have g97 : decide (97 ≤ c) = false := by simp; omega
    have l122 : decide (c ≤ 122) = true := by simp; omega
    have g65 : decide (65 ≤ c) = false := by simp; omega
    have l90 : decide (c ≤ 90) = true := by simp; omega
    have g48 : decide (48 ≤ c) = false := by simp; omega
    have l57 : decide (c ≤ 57) = true := by simp; omega
    have g33 : decide (33 ≤ c) = false := by simp; omega
    have l126 : decide (c ≤ 126) = true := by simp; omega
    clear k9 k10 k13 k32 k39 k95 r11 rx
    go_enter Tryz.func60, Tryz.ntmps60
    go_wp2
    go_ret
    exact ⟨by rw [hcl.out]; rfl, rfl⟩
  by_cases r14 : 14 ≤ c ∧ c ≤ 31
  · have hcl : Hid (classZ c = 0) := class_of c 0 (by omega)
    have e32 : (c == 32) = false := by simp; omega
    have e9 : (c == 9) = false := by simp; omega
    have e10 : (c == 10) = false := by simp; omega
    have e13 : (c == 13) = false := by simp; omega
    have e95 : (c == 95) = false := by simp; omega
    have e39 : (c == 39) = false := by simp; omega
    have g97 : decide (97 ≤ c) = false := by simp; omega
    have l122 : decide (c ≤ 122) = true := by simp; omega
    have g65 : decide (65 ≤ c) = false := by simp; omega
    have l90 : decide (c ≤ 90) = true := by simp; omega
    have g48 : decide (48 ≤ c) = false := by simp; omega
    have l57 : decide (c ≤ 57) = true := by simp; omega
    have g33 : decide (33 ≤ c) = false := by simp; omega
    have l126 : decide (c ≤ 126) = true := by simp; omega
    clear k9 k10 k13 k32 k39 k95 r14 rx r11
    go_enter Tryz.func60, Tryz.ntmps60
    go_wp2
    go_ret
    exact ⟨by rw [hcl.out]; rfl, rfl⟩
  by_cases r33 : 33 ≤ c ∧ c ≤ 38
  · have hcl : Hid (classZ c = 5) := class_of c 5 (by omega)
    have e32 : (c == 32) = false := by simp; omega
    have e9 : (c == 9) = false := by simp; omega
    have e10 : (c == 10) = false := by simp; omega
    have e13 : (c == 13) = false := by simp; omega
    have e95 : (c == 95) = false := by simp; omega
    have e39 : (c == 39) = false := by simp; omega
    have g97 : decide (97 ≤ c) = false := by simp; omega
    have l122 : decide (c ≤ 122) = true := by simp; omega
    have g65 : decide (65 ≤ c) = false := by simp; omega
    have l90 : decide (c ≤ 90) = true := by simp; omega
    have g48 : decide (48 ≤ c) = false := by simp; omega
    have l57 : decide (c ≤ 57) = true := by simp; omega
    have g33 : decide (33 ≤ c) = true := by simp; omega
    have l126 : decide (c ≤ 126) = true := by simp; omega
    clear k9 k10 k13 k32 k39 k95 r33 rx r11 r14
    go_enter Tryz.func60, Tryz.ntmps60
    go_wp2
    go_ret
    exact ⟨by rw [hcl.out]; rfl, rfl⟩
  by_cases r40 : 40 ≤ c ∧ c ≤ 47
  · have hcl : Hid (classZ c = 5) := class_of c 5 (by omega)
    have e32 : (c == 32) = false := by simp; omega
    have e9 : (c == 9) = false := by simp; omega
    have e10 : (c == 10) = false := by simp; omega
    have e13 : (c == 13) = false := by simp; omega
    have e95 : (c == 95) = false := by simp; omega
    have e39 : (c == 39) = false := by simp; omega
    have g97 : decide (97 ≤ c) = false := by simp; omega
    have l122 : decide (c ≤ 122) = true := by simp; omega
    have g65 : decide (65 ≤ c) = false := by simp; omega
    have l90 : decide (c ≤ 90) = true := by simp; omega
    have g48 : decide (48 ≤ c) = false := by simp; omega
    have l57 : decide (c ≤ 57) = true := by simp; omega
    have g33 : decide (33 ≤ c) = true := by simp; omega
    have l126 : decide (c ≤ 126) = true := by simp; omega
    clear k9 k10 k13 k32 k39 k95 r40 rx r11 r14 r33
    go_enter Tryz.func60, Tryz.ntmps60
    go_wp2
    go_ret
    exact ⟨by rw [hcl.out]; rfl, rfl⟩
  by_cases r48 : 48 ≤ c ∧ c ≤ 57
  · have hcl : Hid (classZ c = 3) := class_of c 3 (by omega)
    have e32 : (c == 32) = false := by simp; omega
    have e9 : (c == 9) = false := by simp; omega
    have e10 : (c == 10) = false := by simp; omega
    have e13 : (c == 13) = false := by simp; omega
    have e95 : (c == 95) = false := by simp; omega
    have e39 : (c == 39) = false := by simp; omega
    have g97 : decide (97 ≤ c) = false := by simp; omega
    have l122 : decide (c ≤ 122) = true := by simp; omega
    have g65 : decide (65 ≤ c) = false := by simp; omega
    have l90 : decide (c ≤ 90) = true := by simp; omega
    have g48 : decide (48 ≤ c) = true := by simp; omega
    have l57 : decide (c ≤ 57) = true := by simp; omega
    have g33 : decide (33 ≤ c) = true := by simp; omega
    have l126 : decide (c ≤ 126) = true := by simp; omega
    clear k9 k10 k13 k32 k39 k95 r48 rx r11 r14 r33 r40
    go_enter Tryz.func60, Tryz.ntmps60
    go_wp2
    go_ret
    exact ⟨by rw [hcl.out]; rfl, rfl⟩
  by_cases r58 : 58 ≤ c ∧ c ≤ 64
  · have hcl : Hid (classZ c = 5) := class_of c 5 (by omega)
    have e32 : (c == 32) = false := by simp; omega
    have e9 : (c == 9) = false := by simp; omega
    have e10 : (c == 10) = false := by simp; omega
    have e13 : (c == 13) = false := by simp; omega
    have e95 : (c == 95) = false := by simp; omega
    have e39 : (c == 39) = false := by simp; omega
    have g97 : decide (97 ≤ c) = false := by simp; omega
    have l122 : decide (c ≤ 122) = true := by simp; omega
    have g65 : decide (65 ≤ c) = false := by simp; omega
    have l90 : decide (c ≤ 90) = true := by simp; omega
    have g48 : decide (48 ≤ c) = true := by simp; omega
    have l57 : decide (c ≤ 57) = false := by simp; omega
    have g33 : decide (33 ≤ c) = true := by simp; omega
    have l126 : decide (c ≤ 126) = true := by simp; omega
    clear k9 k10 k13 k32 k39 k95 r58 rx r11 r14 r33 r40 r48
    go_enter Tryz.func60, Tryz.ntmps60
    go_wp2
    go_ret
    exact ⟨by rw [hcl.out]; rfl, rfl⟩
  by_cases r65 : 65 ≤ c ∧ c ≤ 90
  · have hcl : Hid (classZ c = 2) := class_of c 2 (by omega)
    have e32 : (c == 32) = false := by simp; omega
    have e9 : (c == 9) = false := by simp; omega
    have e10 : (c == 10) = false := by simp; omega
    have e13 : (c == 13) = false := by simp; omega
    have e95 : (c == 95) = false := by simp; omega
    have e39 : (c == 39) = false := by simp; omega
    have g97 : decide (97 ≤ c) = false := by simp; omega
    have l122 : decide (c ≤ 122) = true := by simp; omega
    have g65 : decide (65 ≤ c) = true := by simp; omega
    have l90 : decide (c ≤ 90) = true := by simp; omega
    have g48 : decide (48 ≤ c) = true := by simp; omega
    have l57 : decide (c ≤ 57) = false := by simp; omega
    have g33 : decide (33 ≤ c) = true := by simp; omega
    have l126 : decide (c ≤ 126) = true := by simp; omega
    clear k9 k10 k13 k32 k39 k95 r65 rx r11 r14 r33 r40 r48 r58
    go_enter Tryz.func60, Tryz.ntmps60
    go_wp2
    go_ret
    exact ⟨by rw [hcl.out]; rfl, rfl⟩
  by_cases r91 : 91 ≤ c ∧ c ≤ 94
  · have hcl : Hid (classZ c = 5) := class_of c 5 (by omega)
    have e32 : (c == 32) = false := by simp; omega
    have e9 : (c == 9) = false := by simp; omega
    have e10 : (c == 10) = false := by simp; omega
    have e13 : (c == 13) = false := by simp; omega
    have e95 : (c == 95) = false := by simp; omega
    have e39 : (c == 39) = false := by simp; omega
    have g97 : decide (97 ≤ c) = false := by simp; omega
    have l122 : decide (c ≤ 122) = true := by simp; omega
    have g65 : decide (65 ≤ c) = true := by simp; omega
    have l90 : decide (c ≤ 90) = false := by simp; omega
    have g48 : decide (48 ≤ c) = true := by simp; omega
    have l57 : decide (c ≤ 57) = false := by simp; omega
    have g33 : decide (33 ≤ c) = true := by simp; omega
    have l126 : decide (c ≤ 126) = true := by simp; omega
    clear k9 k10 k13 k32 k39 k95 r91 rx r11 r14 r33 r40 r48 r58 r65
    go_enter Tryz.func60, Tryz.ntmps60
    go_wp2
    go_ret
    exact ⟨by rw [hcl.out]; rfl, rfl⟩
  by_cases r96 : 96 ≤ c ∧ c ≤ 96
  · have hcl : Hid (classZ c = 5) := class_of c 5 (by omega)
    have e32 : (c == 32) = false := by simp; omega
    have e9 : (c == 9) = false := by simp; omega
    have e10 : (c == 10) = false := by simp; omega
    have e13 : (c == 13) = false := by simp; omega
    have e95 : (c == 95) = false := by simp; omega
    have e39 : (c == 39) = false := by simp; omega
    have g97 : decide (97 ≤ c) = false := by simp; omega
    have l122 : decide (c ≤ 122) = true := by simp; omega
    have g65 : decide (65 ≤ c) = true := by simp; omega
    have l90 : decide (c ≤ 90) = false := by simp; omega
    have g48 : decide (48 ≤ c) = true := by simp; omega
    have l57 : decide (c ≤ 57) = false := by simp; omega
    have g33 : decide (33 ≤ c) = true := by simp; omega
    have l126 : decide (c ≤ 126) = true := by simp; omega
    clear k9 k10 k13 k32 k39 k95 r96 rx r11 r14 r33 r40 r48 r58 r65 r91
    go_enter Tryz.func60, Tryz.ntmps60
    go_wp2
    go_ret
    exact ⟨by rw [hcl.out]; rfl, rfl⟩
  by_cases r97 : 97 ≤ c ∧ c ≤ 122
  · have hcl : Hid (classZ c = 2) := class_of c 2 (by omega)
    have e32 : (c == 32) = false := by simp; omega
    have e9 : (c == 9) = false := by simp; omega
    have e10 : (c == 10) = false := by simp; omega
    have e13 : (c == 13) = false := by simp; omega
    have e95 : (c == 95) = false := by simp; omega
    have e39 : (c == 39) = false := by simp; omega
    have g97 : decide (97 ≤ c) = true := by simp; omega
    have l122 : decide (c ≤ 122) = true := by simp; omega
    have g65 : decide (65 ≤ c) = true := by simp; omega
    have l90 : decide (c ≤ 90) = false := by simp; omega
    have g48 : decide (48 ≤ c) = true := by simp; omega
    have l57 : decide (c ≤ 57) = false := by simp; omega
    have g33 : decide (33 ≤ c) = true := by simp; omega
    have l126 : decide (c ≤ 126) = true := by simp; omega
    clear k9 k10 k13 k32 k39 k95 r97 rx r11 r14 r33 r40 r48 r58 r65 r91 r96
    go_enter Tryz.func60, Tryz.ntmps60
    go_wp2
    go_ret
    exact ⟨by rw [hcl.out]; rfl, rfl⟩
  by_cases r123 : 123 ≤ c ∧ c ≤ 126
  · have hcl : Hid (classZ c = 5) := class_of c 5 (by omega)
    have e32 : (c == 32) = false := by simp; omega
    have e9 : (c == 9) = false := by simp; omega
    have e10 : (c == 10) = false := by simp; omega
    have e13 : (c == 13) = false := by simp; omega
    have e95 : (c == 95) = false := by simp; omega
    have e39 : (c == 39) = false := by simp; omega
    have g97 : decide (97 ≤ c) = true := by simp; omega
    have l122 : decide (c ≤ 122) = false := by simp; omega
    have g65 : decide (65 ≤ c) = true := by simp; omega
    have l90 : decide (c ≤ 90) = false := by simp; omega
    have g48 : decide (48 ≤ c) = true := by simp; omega
    have l57 : decide (c ≤ 57) = false := by simp; omega
    have g33 : decide (33 ≤ c) = true := by simp; omega
    have l126 : decide (c ≤ 126) = true := by simp; omega
    clear k9 k10 k13 k32 k39 k95 r123 rx r11 r14 r33 r40 r48 r58 r65 r91 r96 r97
    go_enter Tryz.func60, Tryz.ntmps60
    go_wp2
    go_ret
    exact ⟨by rw [hcl.out]; rfl, rfl⟩
  by_cases r127 : 127 ≤ c
  · have hcl : Hid (classZ c = 0) := class_of c 0 (by omega)
    have e32 : (c == 32) = false := by simp; omega
    have e9 : (c == 9) = false := by simp; omega
    have e10 : (c == 10) = false := by simp; omega
    have e13 : (c == 13) = false := by simp; omega
    have e95 : (c == 95) = false := by simp; omega
    have e39 : (c == 39) = false := by simp; omega
    have g97 : decide (97 ≤ c) = true := by simp; omega
    have l122 : decide (c ≤ 122) = false := by simp; omega
    have g65 : decide (65 ≤ c) = true := by simp; omega
    have l90 : decide (c ≤ 90) = false := by simp; omega
    have g48 : decide (48 ≤ c) = true := by simp; omega
    have l57 : decide (c ≤ 57) = false := by simp; omega
    have g33 : decide (33 ≤ c) = true := by simp; omega
    have l126 : decide (c ≤ 126) = false := by simp; omega
    clear k9 k10 k13 k32 k39 k95 r127 rx r11 r14 r33 r40 r48 r58 r65 r91 r96 r97 r123
    go_enter Tryz.func60, Tryz.ntmps60
    go_wp2
    go_ret
    exact ⟨by rw [hcl.out]; rfl, rfl⟩
  exfalso; omega
end Go.Proofs.YtbnddpicpomakaaGreatDoor

/- Plain mathematics of layer 1: the bytes of an integer, and what bytes are an integer's. -/
set_option linter.unusedSimpArgs false
set_option linter.unusedVariables false
set_option maxRecDepth 100000
namespace Go.Proofs.YtbnddpicpomakaaGreatDoor

/-- The bytes of v: seven bits a byte, the least first; all but the last have the eighth bit. -/
def putL (v : Nat) : List Nat := if v < 128 then [v] else (v % 128 + 128) :: putL (v / 128)
termination_by v

theorem putL_small {v : Nat} (h : v < 128) : putL v = [v] := by rw [putL, if_pos h]
theorem putL_step {v : Nat} (h : ¬ v < 128) : putL v = (v % 128 + 128) :: putL (v / 128) := by rw [putL, if_neg h]

theorem putL_byte : ∀ (v : Nat), ∀ c ∈ putL v, c < 256 := by
  intro v
  induction v using putL.induct with
  | case1 v h => rw [putL_small h]; intro c hc; simp at hc; omega
  | case2 v h ih =>
    rw [putL_step h]; intro c hc
    simp at hc
    rcases hc with hc | hc
    · omega
    · exact ih c hc

theorem putL_pos (v : Nat) : 1 ≤ (putL v).length := by
  rw [putL]; split <;> simp

/-- Of a number below 128^n at most n bytes. -/
theorem putL_len : ∀ (n v : Nat), v < 128 ^ (n + 1) → (putL v).length ≤ n + 1
  | 0, v, h => by rw [putL_small (by simpa using h)]; simp
  | n + 1, v, h => by
    by_cases hv : v < 128
    · rw [putL_small hv]; simp
    · rw [putL_step hv]
      have : v / 128 < 128 ^ (n + 1) := by
        rw [Nat.div_lt_iff_lt_mul (by omega)]
        rw [Nat.pow_succ] at h; exact h
      have := putL_len n (v / 128) this
      simp; omega

theorem putL_len10 {v : Nat} (h : v < 18446744073709551616) : (putL v).length ≤ 10 :=
  putL_len 9 v (Nat.lt_trans h (by decide))

theorem putL_mono : ∀ (a b : Nat), a ≤ b → (putL a).length ≤ (putL b).length := by
  intro a
  induction a using putL.induct with
  | case1 a h => intro b _; rw [putL_small h]; exact putL_pos b
  | case2 a h ih =>
    intro b hab
    rw [putL_step h, putL_step (by omega : ¬ b < 128)]
    have := ih (b / 128) (Nat.div_le_div_right hab)
    simp; omega

/-- What stands at a list of bytes: the integer, how many bytes it has, and the error (0: none; 3: ErrForm; 10: ErrShort). i: how many bytes have gone by; v: what they make. -/
def getS : List Nat → Nat → Nat → Nat × Nat × Nat
  | [], _, _ => (0, 0, 10)
  | c :: r, i, v =>
    if i = 9 ∧ 1 < c then (0, 0, 3)
    else if 0 < i ∧ c = 0 then (0, 0, 3)
    else if c < 128 then (v + c * 128 ^ i, i + 1, 0)
    else getS r (i + 1) (v + (c - 128) * 128 ^ i)

/-- The answer of Get at index 'at'. -/
def getR (l : List Nat) (at_ : Int) : Nat × Int × Nat :=
  if at_ < 0 ∨ (l.length : Int) < at_ then (0, 0, 1)
  else
    let r := getS (l.drop at_.toNat) 0 0
    if r.2.2 = 0 then (r.1, at_ + r.2.1, 0) else (0, 0, r.2.2)

theorem pow7 (i : Nat) : 2 ^ (7 * i) = 128 ^ i := by rw [Nat.pow_mul]

/-- 'c & 127' of a byte. -/
theorem and127 (c : Nat) (h : c < 256) : bits .and .u8 (c : Int) 127 = ((c % 128 : Nat) : Int) := by
  have := u8_and_nat c 127 h (by omega)
  rw [nat_mask7] at this; exact this

/-- 'byte(v) | 128'. -/
theorem or128 (v : Nat) : bits .or .u8 ((v : Int) % 256) 128 = (((v % 128 + 128 : Nat)) : Int) := by
  have h := u8_or_nat (v % 256) 128 (Nat.mod_lt _ (by omega)) (by omega)
  have e : v % 256 ||| 128 = v % 128 + 128 := by
    by_cases hb : v % 256 < 128
    · rw [Nat.or_comm, nat_join 7 128 (v % 256) (by decide) (by omega)]; omega
    · have e1 : v % 256 = 128 + v % 128 := by omega
      have e2 : 128 + v % 128 = 128 ||| (v % 128) := (nat_join 7 128 (v % 128) (by decide) (by omega)).symm
      rw [e1, e2]
      rw [Nat.or_comm, ← Nat.or_assoc, Nat.or_self, ← e2]; omega
  rw [e] at h
  rw [← h]; congr 1

/-- 'v | x << (7 * i)' where v lies below the shift. -/
theorem orShift (v x i : Nat) (hv : v < 128 ^ i) (hs : v + x * 128 ^ i < 18446744073709551616) : bits .or .u64 (v : Int) ((x * 128 ^ i : Nat) : Int) = ((v + x * 128 ^ i : Nat) : Int) := by
  have h := u64_or_nat v (x * 128 ^ i) (by omega) (by omega)
  rw [h, Nat.or_comm, nat_join (7 * i) (x * 128 ^ i) v (by rw [pow7]; exact Nat.mul_mod_left x (128 ^ i)) (by rw [pow7]; exact hv)]
  congr 1; omega

/-- 'x << (7 * i)' of a uint64, by a number of its own; and 'v | x << (7 * i)'. -/
theorem shiftOr (c k V : Nat) (hk : k ≤ 9) (hV : V < 128 ^ k) : ∃ X Y : Nat, IntKind.u64.wrap ((c : Int) % 128 * 2 ^ (7 * k)) = (X : Int) ∧
    bits .or .u64 (V : Int) (X : Int) = (Y : Int) ∧ Y < 18446744073709551616 ∧ (c % 128 * 128 ^ k + V < 18446744073709551616 → Y = V + c % 128 * 128 ^ k) := by
  have hp : 128 ^ k ≤ 128 ^ 9 := Nat.pow_le_pow_right (by omega) hk
  have hVs : V < 18446744073709551616 := by
    have : (128 : Nat) ^ 9 = 9223372036854775808 := by decide
    omega
  have hXlt : c % 128 * 128 ^ k % 18446744073709551616 < 18446744073709551616 := Nat.mod_lt _ (by omega)
  have hor : bits .or .u64 (V : Int) ((c % 128 * 128 ^ k % 18446744073709551616 : Nat) : Int) = _ := u64_or_nat V _ hVs hXlt
  refine ⟨c % 128 * 128 ^ k % 18446744073709551616, _, ?_, hor, ?_, ?_⟩
  · rw [IntKind.wrap_u64, show ((2 : Int) ^ (7 * k)) = ((2 ^ (7 * k) : Nat) : Int) from by simp, pow7]
    have e2 : ((c : Int) % 128) * ((128 ^ k : Nat) : Int) = ((c % 128 * 128 ^ k : Nat) : Int) := by rw [Int.natCast_mul]; rfl
    rw [e2]; omega
  · exact Nat.or_lt_two_pow (n := 64) hVs hXlt
  · intro hs
    have e : c % 128 * 128 ^ k % 18446744073709551616 = c % 128 * 128 ^ k := Nat.mod_eq_of_lt (by omega)
    rw [e, Nat.or_comm, nat_join (7 * k) (c % 128 * 128 ^ k) V (by rw [pow7]; exact Nat.mul_mod_left _ (128 ^ k)) (by rw [pow7]; exact hV)]
    omega

theorem grow7 (c k V : Nat) (hV : V < 128 ^ k) : c % 128 * 128 ^ k + V < 128 ^ (k + 1) := by
  have h : c % 128 ≤ 127 := by omega
  have := Nat.mul_le_mul_right (128 ^ k) h
  rw [Nat.pow_succ]; omega

theorem fits7 (c k V : Nat) (hV : V < 128 ^ k) (hk : k < 9 ∨ (k = 9 ∧ c ≤ 1)) : c % 128 * 128 ^ k + V < 18446744073709551616 := by
  rcases hk with hk | ⟨rfl, hc⟩
  · have h1 := grow7 c k V hV
    have h2 : 128 ^ (k + 1) ≤ 128 ^ 9 := Nat.pow_le_pow_right (by omega) (by omega)
    have : (128 : Nat) ^ 9 = 9223372036854775808 := by decide
    omega
  · have h : c % 128 ≤ 1 := by omega
    have := Nat.mul_le_mul_right (128 ^ 9) h
    have : (128 : Nat) ^ 9 = 9223372036854775808 := by decide
    omega

/-! The same number, read from the last byte to the first. -/
def horner : List Nat → Nat
  | [] => 0
  | c :: r => c % 128 + 128 * horner r

theorem horner_snoc : ∀ (l : List Nat) (c : Nat), horner (l ++ [c]) = horner l + c % 128 * 128 ^ l.length
  | [], c => by simp [horner]
  | d :: r, c => by
    have := horner_snoc r c
    simp only [List.cons_append, horner, this, List.length_cons, Nat.pow_succ]
    have e : 128 * (c % 128 * 128 ^ r.length) = c % 128 * (128 ^ r.length * 128) := by
      rw [← Nat.mul_assoc, Nat.mul_comm 128 (c % 128), Nat.mul_assoc, Nat.mul_comm 128]
    omega

theorem horner_lt : ∀ (l : List Nat), horner l < 128 ^ l.length
  | [] => by simp [horner]
  | d :: r => by
    have := horner_lt r
    simp only [horner, List.length_cons, Nat.pow_succ]; omega

theorem horner_drop : ∀ (l : List Nat) (j : Nat), horner (l.drop j) ≤ horner l
  | [], j => by simp
  | d :: r, 0 => by simp
  | d :: r, j + 1 => by
    have := horner_drop r j
    simp only [List.drop_succ_cons, horner]; omega

theorem horner_step (l : List Nat) (j : Nat) (h : j < l.length) : horner (l.drop j) = l[j] % 128 + 128 * horner (l.drop (j + 1)) := by
  rw [List.drop_eq_getElem_cons h]; rfl

theorem take_succ_n (l : List Nat) (k : Nat) (h : k < l.length) : l.take (k + 1) = l.take k ++ [l[k]] := by
  rw [List.take_add_one, List.getElem?_eq_getElem h]; rfl

/-- The first k bytes have the eighth bit: Get goes past them. -/
theorem getS_skip (D : List Nat) : ∀ (k : Nat), k ≤ 9 → (hk : k ≤ D.length) → (∀ i (h : i < k), 127 < D[i]'(by omega)) → (∀ c ∈ D, c < 256) → getS D 0 0 = getS (D.drop k) k (horner (D.take k))
  | 0, _, _, _, _ => by simp [horner]
  | k + 1, h9, hk, hb, h256 => by
    have ih := getS_skip D k (by omega) (by omega) (fun i h => hb i (by omega)) h256
    have hkl : k < D.length := by omega
    have hd := hb k (by omega)
    have h2 := h256 D[k] (List.getElem_mem hkl)
    rw [ih, List.drop_eq_getElem_cons hkl, getS, if_neg (by omega), if_neg (by omega), if_neg (by omega), take_succ_n D k hkl, horner_snoc]
    rw [show D[k] - 128 = D[k] % 128 by omega, List.length_take_of_le (by omega)]

theorem getS_big (D : List Nat) (hk : 9 < D.length) (hb : ∀ i (h : i < 9), 127 < D[i]'(by omega)) (h256 : ∀ c ∈ D, c < 256) (h1 : 1 < D[9]) : getS D 0 0 = (0, 0, 3) := by
  rw [getS_skip D 9 (by omega) (by omega) hb h256, List.drop_eq_getElem_cons hk, getS, if_pos ⟨rfl, h1⟩]

theorem getS_short (D : List Nat) (h9 : D.length ≤ 9) (hb : ∀ i (h : i < D.length), 127 < D[i]) (h256 : ∀ c ∈ D, c < 256) : getS D 0 0 = (0, 0, 10) := by
  rw [getS_skip D D.length h9 (by omega) hb h256, List.drop_of_length_le (by omega)]; rfl

theorem getS_zero (D : List Nat) (k : Nat) (h9 : k ≤ 9) (hk : k < D.length) (h0 : 0 < k) (hb : ∀ i (h : i < k), 127 < D[i]'(by omega)) (h256 : ∀ c ∈ D, c < 256) (h1 : D[k] = 0) : getS D 0 0 = (0, 0, 3) := by
  rw [getS_skip D k h9 (by omega) hb h256, List.drop_eq_getElem_cons hk, getS, if_neg (by omega), if_pos ⟨h0, h1⟩]

theorem getS_good (D : List Nat) (k : Nat) (h9 : k ≤ 9) (hk : k < D.length) (hb : ∀ i (h : i < k), 127 < D[i]'(by omega)) (h256 : ∀ c ∈ D, c < 256) (h1 : D[k] ≤ 127) (h2 : 0 < k → D[k] ≠ 0) (h3 : k = 9 → D[k] ≤ 1) :
    getS D 0 0 = (horner (D.take (k + 1)), k + 1, 0) := by
  rw [getS_skip D k h9 (by omega) hb h256, List.drop_eq_getElem_cons hk, getS, if_neg (fun h => by have := h3 h.1; omega), if_neg (fun h => h2 h.1 h.2), if_pos (by omega), take_succ_n D k hk, horner_snoc,
    List.length_take_of_le (by omega), show D[k] % 128 = D[k] by omega]

theorem horner_fits (D : List Nat) (k : Nat) (h9 : k ≤ 9) (hk : k < D.length) (h3 : k = 9 → D[k] ≤ 1) : horner (D.take (k + 1)) < 18446744073709551616 := by
  rw [take_succ_n D k hk, horner_snoc, List.length_take_of_le (by omega)]
  have h := horner_lt (D.take k)
  rw [List.length_take_of_le (by omega)] at h
  have := fits7 D[k] k _ h (by
    by_cases e : k = 9
    · exact .inr ⟨e, h3 e⟩
    · exact .inl (by omega))
  omega

/-! Zigzags. -/
def zigN (n : Int) : Nat := if n < 0 then (-2 * n - 1).toNat else (2 * n).toNat
def zagZ (v : Nat) : Int := if v % 2 = 0 then ((v / 2 : Nat) : Int) else -((v / 2 : Nat) : Int) - 1

theorem zag_zig (n : Int) : zagZ (zigN n) = n := by
  unfold zagZ zigN
  by_cases h : n < 0
  · rw [if_pos h, if_neg (by omega)]; omega
  · rw [if_neg h, if_pos (by omega)]; omega

theorem zig_zag (v : Nat) : zigN (zagZ v) = v := by
  unfold zagZ zigN
  by_cases h : v % 2 = 0
  · rw [if_pos h, if_neg (by omega)]; omega
  · rw [if_neg h, if_pos (by omega)]; omega

theorem zigN_lt (n : Int) (h1 : -9223372036854775808 ≤ n) (h2 : n ≤ 9223372036854775807) : zigN n < 18446744073709551616 := by
  unfold zigN; split <;> omega

theorem zagZ_bd (v : Nat) (h : v < 18446744073709551616) : -9223372036854775808 ≤ zagZ v ∧ zagZ v ≤ 9223372036854775807 := by
  unfold zagZ; split <;> omega

/-- '^n' of an int64. -/
theorem xor_neg1 (n : Int) (h1 : -9223372036854775808 ≤ n) (h2 : n ≤ 9223372036854775807) : bits .xor .i64 (-1) n = -n - 1 := by
  have hb : (BitVec.ofInt 64 n).toNat = (n % 18446744073709551616).toNat := by rw [BitVec.toNat_ofInt]; rfl
  show IntKind.i64.wrap ((BitVec.ofInt 64 (-1) ^^^ BitVec.ofInt 64 n).toNat : Int) = -n - 1
  rw [show BitVec.ofInt 64 (-1) = BitVec.allOnes 64 from by decide, BitVec.allOnes_xor, BitVec.toNat_not, hb, IntKind.wrap_i64]
  omega

theorem or_one (v : Nat) (h : 2 * v + 1 < 18446744073709551616) : bits .or .u64 (((2 * v : Nat)) : Int) 1 = ((2 * v + 1 : Nat) : Int) := by
  have := u64_or_nat (2 * v) 1 (by omega) (by omega)
  rw [nat_join 1 (2 * v) 1 (by omega) (by omega)] at this
  exact this

end Go.Proofs.YtbnddpicpomakaaGreatDoor
