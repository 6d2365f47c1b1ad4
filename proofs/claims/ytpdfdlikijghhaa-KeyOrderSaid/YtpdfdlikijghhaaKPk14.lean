/- Several texts of one proof, one behind the other. -/
import Derived.Test.YtpdfdlikijghhaaKPk13

/- The walk of hindsightlaw03.alive. -/
namespace Go.Proofs.Ytpdfdlikijghhaa
open Go.RowKit

theorem write_one : writeV [⟨1, 1, ⟨#[]⟩⟩] = ([1, 1, 2], 0) := by
  have e : zigN 1 = 2 := by decide
  have h : encL [⟨1, 1, ⟨#[]⟩⟩] = [1, 2] := by
    unfold encL encV
    simp [e, putL_small (show 2 < 128 by omega)]
  have hr : rowOk [⟨1, 1, ⟨#[]⟩⟩] = true := by decide
  rw [writeV_good hr (by rw [h]; simp), h]; rfl

theorem read_two : readV [2, 0, 2, 1, 97] = ([⟨0, 0, ⟨#[]⟩⟩, ⟨2, 0, ⟨#[97]⟩⟩], 0) := by
  have h1 : decV [2, 0, 2, 1, 97] 1 = some (⟨0, 0, ⟨#[]⟩⟩, 2) := by rfl
  have h2 : decV [2, 0, 2, 1, 97] 2 = some (⟨2, 0, ⟨#[97]⟩⟩, 5) := by decide
  have h3 : readN [2, 0, 2, 1, 97] 1 2 = some ([⟨0, 0, ⟨#[]⟩⟩, ⟨2, 0, ⟨#[97]⟩⟩], 5) :=
    readN_step (readN_step (acc := []) (show readN [2, 0, 2, 1, 97] 1 0 = some ([], 1) from rfl) h1) h2
  rw [readV_go (c := 2) (p := 1) (by simp) (by decide) (by omega), h3]; rfl

theorem read_bad : readV [1, 4] = ([], 3) := by
  have h1 : decV [1, 4] 1 = none := by rfl
  rw [readV_go (c := 1) (p := 1) (by simp) (by decide) (by omega), readN_fail (acc := []) (q := 1) (i := 0) rfl h1]

theorem Vs.one (w : World) (x : Vl) (T : TypeId) : Vs (w.heap.size + 1) (w.alloc (.cells #[.int .u8 x.k, .int .i64 x.n, .string x.s] T)) (some ⟨w.heap.size, 0, none⟩) [x] := by
  refine .inr ⟨w.heap.size, 0, rfl, by omega, fun i y hi => ?_⟩
  match i, hi with
  | 0, hi =>
    simp at hi; subst hi
    refine ⟨?_, ?_, ?_⟩ <;> (rw [World.cell?_alloc_new]; rfl)

end Go.Proofs.Ytpdfdlikijghhaa

/- The walks of the laws RecordOrders and RecordTotal. -/
namespace Go.Proofs.Ytpdfdlikijghhaa
open Go.RowKit

/-- What the walk is told of a row that came in. -/
def RowIn (w : World) (a : Option Addr) (len cap : Nat) (l : List Vl) : Prop := len = l.length ∧ len ≤ cap ∧ cap ≤ 9223372036854775807 ∧ Vs w.heap.size w a l ∧ ∀ x ∈ l, Came x

theorem RowIn.great {w : World} {a : Option Addr} {len cap : Nat} {l : List Vl} (h : RowIn w a len cap l) : Calls Try.prog 11 #[.slice a len cap] w (RetG w l) :=
  Great_any w.heap.size l a len cap w h.2.2.2.1 h.1 (fun x hx => (h.2.2.2.2 x hx).2.2) (by have := h.2.1; have := h.2.2.1; omega)

theorem RowIn.later {w w' : World} {a : Option Addr} {len cap : Nat} {l : List Vl} (h : RowIn w a len cap l) (hb : Below w.heap.size w w') : RowIn w' a len cap l :=
  ⟨h.1, h.2.1, h.2.2.1, (h.2.2.2.1.below hb).mono hb.size, h.2.2.2.2⟩

/-! The order is total. -/
open Classical in
theorem lexO_neg : ∀ (l m : List Vl), (∀ x ∈ l, x.right = true) → (∀ x ∈ m, x.right = true) → lexO l m = -lexO m l
  | [], [], _, _ => rfl
  | [], _ :: _, _, _ => rfl
  | _ :: _, [], _, _ => rfl
  | x :: l, y :: m, h1, h2 => by
    have ho := (order_total x y y (h1 x (by simp)) (h2 y (by simp)) (h2 y (by simp))).1
    have ih := lexO_neg l m (fun z hz => h1 z (by simp [hz])) (fun z hz => h2 z (by simp [hz]))
    rw [lexO, lexO, ho]
    by_cases h0 : orderV y x = 0
    · rw [if_pos (by omega), if_pos h0]; exact ih
    · rw [if_neg (by omega), if_neg h0]

theorem lexO_bd : ∀ (l m : List Vl), -1 ≤ lexO l m ∧ lexO l m ≤ 1
  | [], [] => by simp [lexO]
  | [], _ :: _ => by simp [lexO]
  | _ :: _, [] => by simp [lexO]
  | x :: l, y :: m => by
    have h1 := orderV_bd x y
    have h2 := lexO_bd l m
    rw [lexO]
    by_cases h : orderV x y = 0
    · rw [if_pos h]; exact h2
    · rw [if_neg h]; exact h1

theorem lexO_zero : ∀ (l m : List Vl), (∀ x ∈ l, x.right = true) → (∀ x ∈ m, x.right = true) → (lexO l m = 0 ↔ l = m)
  | [], [], _, _ => by simp [lexO]
  | [], _ :: _, _, _ => by simp [lexO]
  | _ :: _, [], _, _ => by simp [lexO]
  | x :: l, y :: m, h1, h2 => by
    have ho := (order_total x y y (h1 x (by simp)) (h2 y (by simp)) (h2 y (by simp))).2.1
    have ih := lexO_zero l m (fun z hz => h1 z (by simp [hz])) (fun z hz => h2 z (by simp [hz]))
    rw [lexO]
    by_cases h0 : orderV x y = 0
    · rw [if_pos h0, ih]
      have := ho.1 h0
      subst this
      simp
    · rw [if_neg h0]
      constructor
      · intro h; exact absurd h h0
      · intro h
        simp only [List.cons.injEq] at h
        exact absurd (ho.2 h.1) h0

theorem lexO_trans : ∀ (l m n : List Vl), (∀ x ∈ l, x.right = true) → (∀ x ∈ m, x.right = true) → (∀ x ∈ n, x.right = true) → lexO l m ≤ 0 → lexO m n ≤ 0 → lexO l n ≤ 0 ∧ (lexO l m < 0 ∨ lexO m n < 0 → lexO l n < 0)
  | [], [], [], _, _, _, _, _ => by simp [lexO]
  | [], [], _ :: _, _, _, _, _, _ => by simp [lexO]
  | [], _ :: _, [], _, _, _, _, h => by simp [lexO] at h
  | [], _ :: _, _ :: _, _, _, _, _, _ => by simp [lexO]
  | _ :: _, [], _, _, _, _, h, _ => by simp [lexO] at h
  | _ :: _, _ :: _, [], _, _, _, _, h => by simp [lexO] at h
  | x :: l, y :: m, z :: n, h1, h2, h3, ha, hb => by
    have e1 := h1 x (by simp)
    have e2 := h2 y (by simp)
    have e3 := h3 z (by simp)
    obtain ⟨_, o1, o2, o3⟩ := order_total x y z e1 e2 e3
    obtain ⟨_, p1, _, _⟩ := order_total y z z e2 e3 e3
    obtain ⟨_, q1, _, _⟩ := order_total x z z e1 e3 e3
    simp only [lexO] at ha hb ⊢
    by_cases hxy : orderV x y = 0
    · simp only [if_pos hxy] at ha ⊢
      have := o1.1 hxy
      subst this
      by_cases hyz : orderV x z = 0
      · simp only [if_pos hyz] at hb ⊢
        exact lexO_trans l m n (fun z hz => h1 z (by simp [hz])) (fun z hz => h2 z (by simp [hz])) (fun z hz => h3 z (by simp [hz])) ha hb
      · simp only [if_neg hyz] at hb ⊢
        exact ⟨hb, fun _ => by omega⟩
    · simp only [if_neg hxy] at ha ⊢
      by_cases hyz : orderV y z = 0
      · have := p1.1 hyz
        subst this
        simp only [if_pos hyz, if_neg hxy] at hb ⊢
        exact ⟨ha, fun _ => by omega⟩
      · simp only [if_neg hyz] at hb ⊢
        have hlt : orderV x z < 0 := by omega
        rw [if_neg (by omega)]
        exact ⟨by omega, fun _ => hlt⟩

end Go.Proofs.Ytpdfdlikijghhaa

/- The walk of the law RecordBack. -/
namespace Go.Proofs.Ytpdfdlikijghhaa
open Go.RowKit

theorem read_write {l : List Vl} {x : List Nat} (h : writeV l = (x, 0)) (hf : ∀ y ∈ l, y.fair) : readV x = (l, 0) := by
  cases hro : rowOk l with
  | false => rw [writeV_bad hro] at h; simp at h
  | true =>
    by_cases hl : 8192 < 1 + (encL l).length
    · rw [writeV_long hro hl] at h; simp at h
    · rw [writeV_good hro hl] at h
      simp only [Prod.mk.injEq, and_true] at h
      subst h
      obtain ⟨h16, hr⟩ := (rowOk_iff l).1 hro
      have hg : getR (l.length :: encL l) 0 = (l.length, ((1 : Nat) : Int), 0) := by
        unfold getR
        rw [if_neg (by simp; omega)]
        simp [getS, show l.length < 128 by omega]
      have hn := readN_enc [l.length] [] l hr hf l.length (Nat.le_refl _)
      rw [List.append_nil, List.take_length] at hn
      have e : [l.length] ++ encL l = l.length :: encL l := rfl
      rw [e] at hn
      rw [readV_go (by simp; omega) hg (by omega)]
      have e2 : [l.length].length = 1 := rfl
      rw [e2] at hn
      rw [hn]
      simp only []
      rw [if_neg (by simp; omega)]

theorem write_read (b : List Nat) (h256 : ∀ c ∈ b, c < 256) : ((readV b).2 ≠ 0 ∧ (readV b).1 = []) ∨
    ((readV b).2 = 0 ∧ writeV (readV b).1 = (b, 0) ∧ (∀ y ∈ (readV b).1, y.fair) ∧ (readV b).1.length ≤ 16) := by
  by_cases hlong : 8192 < b.length
  · left; rw [readV_long hlong]; exact ⟨by simp, rfl⟩
  · rcases first_byte b h256 with ⟨hnil, he⟩ | ⟨c, r, hcr, h16, hg⟩ | ⟨c, r, hcr, h16, he⟩
    · left; rw [readV_head hlong (.inl he)]; exact ⟨by simp, rfl⟩
    · rw [readV_go (p := 1) hlong hg (by omega)]
      cases hR : readN b 1 c with
      | none => left; exact ⟨by simp, rfl⟩
      | some R =>
        obtain ⟨acc, q⟩ := R
        simp only []
        by_cases hq : q = b.length
        · right
          rw [if_neg (by simp [hq])]
          obtain ⟨e1, e2, e3, e4, e5, e6, e7⟩ := enc_readN b h256 (by omega) 1 (by rw [hcr]; simp) c acc q hR
          refine ⟨rfl, ?_, e3, by simp only; omega⟩
          have hr : rowOk acc = true := (rowOk_iff acc).2 ⟨by omega, e2⟩
          have hl : (encL acc).length ≤ q - 1 := by rw [e7, List.length_take]; omega
          have hp : 0 < b.length := by rw [hcr]; simp
          simp only []
          rw [writeV_good hr (by omega), e7, e1, hq]
          rw [hcr]
          simp
        · left
          rw [if_pos hq]; exact ⟨by simp, rfl⟩
    · left; rw [readV_head hlong he]; exact ⟨by simp, rfl⟩

theorem writeV_len (l : List Vl) : (writeV l).1.length ≤ 8192 := by
  unfold writeV
  split
  · simp
  · split
    · simp
    · simp; omega

theorem writeV_lt (l : List Vl) (hf : ∀ x ∈ l, x.fair) : ∀ c ∈ (writeV l).1, c < 256 := by
  intro c hc
  cases hro : rowOk l with
  | false => rw [writeV_bad hro] at hc; simp at hc
  | true =>
    by_cases h : 8192 < 1 + (encL l).length
    · rw [writeV_long hro h] at hc; simp at hc
    · rw [writeV_good hro h] at hc
      rcases List.mem_cons.1 hc with rfl | hc
      · have := ((rowOk_iff l).1 hro).1; omega
      · exact encL_lt l (fun x hx => (hf x hx).1) c hc

end Go.Proofs.Ytpdfdlikijghhaa

/- The walk of the reference's one. -/
namespace Go.Proofs.Ytpdfdlikijghhaa
open Go.RowKit

theorem textR_of {l : List Nat} {at_ : Int} {v : Nat} {m q : Nat} (h : getR l at_ = (v, (m : Int), q)) : textR l at_ =
    if q ≠ 0 then (ByteArray.empty, 0, q) else if (l.length : Int) - m < (v : Int) then (ByteArray.empty, 0, 10) else (strN ((l.drop m).take v), (m : Int) + v, 0) := by
  unfold textR; rw [h]; simp only [Int.toNat_natCast]

end Go.Proofs.Ytpdfdlikijghhaa
