/- Walks of the laws FarePenalty and FareParts. -/
import Derived.Test.YtagjlckmemmflacFarG
namespace Go.Proofs.Ytagjlckmemmflac
open Go.RowKit
set_option linter.unusedSimpArgs false
set_option linter.unusedVariables false

/-- Fares, a span, each in a block of its own. -/
structure FBox (w : World) (g : Nat) (lo bo : Option Addr) (lc bc : Nat) (L : List (List Int)) (al th : Int) (B : List (Int × Int)) (dn : Int) : Prop where
  c0 : w.cell? ⟨g, 0, none⟩ = some (.slice lo L.length lc)
  c1 : w.cell? ⟨g, 1, none⟩ = some (.int .i64 al)
  c2 : w.cell? ⟨g, 2, none⟩ = some (.int .i64 th)
  c3 : w.cell? ⟨g, 3, none⟩ = some (.slice bo B.length bc)
  c4 : w.cell? ⟨g, 4, none⟩ = some (.int .i64 dn)
structure SBox (w : World) (g : Nat) (f t : Int) : Prop where
  c0 : w.cell? ⟨g, 0, none⟩ = some (.int .i64 f)
  c1 : w.cell? ⟨g, 1, none⟩ = some (.int .i64 t)
section
variable {w w' : World} {g : Nat} {lo bo : Option Addr} {lc bc : Nat} {L : List (List Int)} {al th : Int} {B : List (Int × Int)} {dn f t : Int}
theorem FBox.below (h : FBox w g lo bo lc bc L al th B dn) (hb : Below w.heap.size w w') : FBox w' g lo bo lc bc L al th B dn :=
  ⟨cellIn hb h.c0, cellIn hb h.c1, cellIn hb h.c2, cellIn hb h.c3, cellIn hb h.c4⟩
theorem SBox.below (h : SBox w g f t) (hb : Below w.heap.size w w') : SBox w' g f t := ⟨cellIn hb h.c0, cellIn hb h.c1⟩
end

theorem penV_in {B : List (Int × Int)} {p d : Int} (h : ∀ x ∈ B, 0 ≤ x.2 ∧ x.2 ≤ 100) (hp : 0 ≤ p) : 0 ≤ P.penV B p d ∧ P.penV B p d ≤ p := by
  unfold P.penV
  cases hb : P.band B d with
  | none => exact ⟨by simp, by simpa using hp⟩
  | some x => exact part_in ⟨hp, Int.le_refl _⟩ (h x (List.mem_of_find?_eq_some hb))

theorem penV_cons (x : Int × Int) (B : List (Int × Int)) (p d : Int) : P.penV (x :: B) p d = if d ≤ x.1 then P.part p x.2 else P.penV B p d := by
  unfold P.penV P.band
  rw [List.find?_cons]
  by_cases h : d ≤ x.1
  · simp [h]
  · simp [h]

theorem part_mono {p a b : Int} (hp : 0 ≤ p) (h : a ≤ b) : P.part p a ≤ P.part p b := by
  have := Int.mul_le_mul_of_nonneg_left h hp
  unfold P.part
  omega

theorem penV_mono {B : List (Int × Int)} {d0 p0 p d m : Int} (hB : P.bands d0 p0 B = 0) (hp : 0 ≤ p) (h : d ≤ m) : P.penV B p m ≤ P.penV B p d := by
  induction B generalizing d0 p0 with
  | nil => simp [P.penV, P.band]
  | cons x B ih =>
    have hall := bands_zero hB
    rw [P.bands] at hB
    split at hB
    · split at hB
      · omega
      · have hr := ih hB
        have hz := bands_zero hB
        rw [penV_cons, penV_cons]
        by_cases h1 : d ≤ x.1
        · rw [if_pos h1]
          by_cases h2 : m ≤ x.1
          · rw [if_pos h2]; exact Int.le_refl _
          · rw [if_neg h2]
            unfold P.penV
            cases hb : P.band B m with
            | none =>
              have := (part_in (a := p) (m := p) ⟨hp, Int.le_refl _⟩ (hall x (by simp)).2.2).1
              simpa using this
            | some y => exact part_mono hp (hz y (List.mem_of_find?_eq_some hb)).2.1
        · rw [if_neg h1, if_neg (by omega)]
          exact hr
    · omega

theorem bandsE_zero {B : List (Int × Int)} (h : P.bandsE B = 0) : P.bands (-1) 100 B = 0 := by
  unfold P.bandsE at h
  split at h
  · exact h
  · omega

set_option maxHeartbeats 2000000 in
theorem farePenalty_walk (lo bo : Option Addr) (lc bc : Nat) (L : List (List Int)) (al th : Int) (B : List (Int × Int)) (dn c n p d m : Int) (W : World) (hf : FareAt W lo bo lc bc L B) :
    Calls Try.prog 4 #[V.fare lo bo lc bc L al th B dn, .int .i64 c, .int .i64 n, .int .i64 p, .int .i64 d, .int .i64 m] W fun e w' => e = .returned (.bool true) ∧ Below W.heap.size W w' := by
  go_enter Try.func4, Try.ntmps4
  go_wp2_with fail
  refine (penalty_any _ _ _ _ _ _ _ _ _ _ _ _ _ _ (hf.below (by go_grown))).mono ?_
  rintro e w1 ⟨rfl, hb1⟩
  have k1 : FBox w1 W.heap.size lo bo lc bc L al th B dn := ⟨cellIn hb1 (by simp), cellIn hb1 (by simp), cellIn hb1 (by simp), cellIn hb1 (by simp), cellIn hb1 (by simp)⟩
  have hB1 : Below W.heap.size W w1 := bvia (by go_grown) hb1
  clear hb1
  go_wp2_with fail
  refine (fareBegun_any _).mono ?_
  rintro e w2 ⟨rfl, hb2⟩
  have k2 := k1.below hb2
  have hB2 := bvia hB1 hb2
  clear k1 hB1 hb2
  cases hz : (P.penE L al th B dn c n p d != 0)
  · have hz' : P.penE L al th B dn c n p d = 0 := by simpa using hz
    obtain ⟨z1, z2⟩ := penE_zero hz'
    obtain ⟨z3, z4, z5⟩ := fareP_zero z1
    obtain ⟨_, _, _, _, _, _, z6, z7⟩ := fareE_zero z3
    have ha : P.pen L al th B dn c n p d = P.penV B p d := by rw [P.pen, if_pos hz']
    have hd : P.down L al th B dn c n p = P.part p dn := by rw [P.down, if_pos z1]
    have a1 := penV_in (B := B) (p := p) (d := d) (bandsE_in z7) z4
    have d1 := part_in (a := p) (m := p) ⟨z4, Int.le_refl _⟩ z6
    rw [ha]
    obtain ⟨q0, q1, q2, q3, q4⟩ := k2
    go_wp2_with fail
    refine (down_any _ _ _ _ _ _ _ _ _ _ _ _ _ (hf.below hB2)).mono ?_
    rintro e w3 ⟨rfl, hb3⟩
    rw [hd, z1]
    obtain ⟨p0, p1, p2, p3, p4⟩ := (FBox.mk q0 q1 q2 q3 q4).below hb3
    have hB3 := bvia hB2 hb3
    clear q0 q1 q2 q3 q4
    have n1 : ¬ P.penV B p d < 0 := by omega
    have n2 : ¬ p < P.penV B p d := by omega
    have n3 : ¬ P.part p dn < 0 := by omega
    have n4 : ¬ p < P.part p dn := by omega
    have HM : Aside (d ≤ m → P.penE L al th B dn c n p m = 0 ∧ P.pen L al th B dn c n p m = P.penV B p m ∧ P.penV B p m ≤ P.penV B p d) := fun h => by
      have e1 : P.penE L al th B dn c n p m = 0 := by rw [P.penE, if_pos z1, if_neg (by omega)]
      exact ⟨e1, by rw [P.pen, if_pos e1], penV_mono (bandsE_zero z7) z4 h⟩
    clear hz' z1 z3 ha hd z7
    by_cases hm : m < d
    · go_wp2
      go_ret
      exact ⟨rfl, hB3⟩
    · obtain ⟨y1, y2, y3⟩ := HM.out (by omega)
      clear HM
      go_wp2_with fail
      refine (penalty_any _ _ _ _ _ _ _ _ _ _ _ _ _ _ (hf.below hB3)).mono ?_
      rintro e w4 ⟨rfl, hb4⟩
      rw [y1, y2]
      clear y1 y2
      go_wp2
      go_ret
      exact ⟨ret_bool (by simp [y3]), bvia hB3 hb4⟩
  · have hv : P.pen L al th B dn c n p d = 0 := by rw [P.pen, if_neg (by simpa using hz)]
    rw [hv]
    go_wp2
    go_ret
    exact ⟨rfl, hB2⟩

theorem tot_seg {r : List Int} {f a t : Nat} (h1 : f ≤ a) (h2 : a ≤ t) (h3 : t ≤ r.length) : P.tot (P.seg r f t) = P.tot (P.seg r f a) + P.tot (P.seg r a t) := by
  have e : P.seg r f t = P.seg r f a ++ P.seg r a t := by
    unfold P.seg
    rw [show t - f = (a - f) + (t - a) by omega, List.take_add, List.drop_drop, show f + (a - f) = a by omega]
  rw [e, tot_append]

theorem legSum_parts {L : List (List Int)} {al th : Int} {B : List (Int × Int)} {dn c n : Int} (h : P.fareE L al th B dn c n = 0) {k : Int} (hk : 0 ≤ k ∧ k < c) {f a t : Int} (hc : P.chk f t n = 0) (h1 : f < a) (h2 : a < t) :
    P.legSum L k f t = P.legSum L k f a + P.legSum L k a t := by
  obtain ⟨_, _, h3, h4, _⟩ := fareE_zero h
  obtain ⟨c1, c2, c3, c4, _, _⟩ := chk_zero hc
  have hkl : k.toNat < L.length := by omega
  have hr : L.getD k.toNat [] ∈ L := by
    rw [List.getD_eq_getElem?_getD, List.getElem?_eq_getElem hkl]
    exact List.getElem_mem hkl
  obtain ⟨r1, r2⟩ := h4 _ hr
  exact tot_seg (by omega) (by omega) (by omega)

theorem chk_part {f a t n : Int} (hc : P.chk f t n = 0) (h1 : f < a) (h2 : a < t) : P.chk f a n = 0 ∧ P.chk a t n = 0 := by
  obtain ⟨c1, c2, c3, c4, c5, c6⟩ := chk_zero hc
  constructor
  · rw [P.chk, if_neg (by rw [c6]; simp; omega), if_neg (by omega)]
  · rw [P.chk, if_neg (by rw [c6]; simp; omega), if_neg (by omega)]

theorem priceE_mk {L : List (List Int)} {al th : Int} {B : List (Int × Int)} {dn c n k f t g : Int} (h : P.fareE L al th B dn c n = 0) (hk : 0 ≤ k ∧ k < c) (hc : P.chk f t n = 0) (hg : 1 ≤ g ∧ g ≤ 4) :
    P.priceE L al th B dn c n k f t g = 0 ∧ P.price L al th B dn c n k f t g = P.cost al th (P.legSum L k f t) g := by
  have e : P.priceE L al th B dn c n k f t g = 0 := by rw [P.priceE, if_pos h, if_pos (by simp [P.btw]; omega), if_pos hc, if_pos (by simp [P.btw]; omega)]
  exact ⟨e, by rw [P.price, if_pos e]⟩

theorem cost2 (al th s : Int) : P.cost al th s 2 = 2 * s := by rw [P.cost, if_neg (by omega)]; simp
theorem cost3 (al th s : Int) : P.cost al th s 3 = 2 * s + P.part s th := by rw [P.cost, if_neg (by omega)]; simp
theorem cost4 (al th s : Int) : P.cost al th s 4 = 2 * s + 2 * P.part s th := by rw [P.cost, if_neg (by omega)]; simp

set_option maxHeartbeats 4000000 in
theorem fareParts_walk (lo bo : Option Addr) (lc bc : Nat) (L : List (List Int)) (al th : Int) (B : List (Int × Int)) (dn c n k f t a g : Int) (W : World) (hf : FareAt W lo bo lc bc L B) :
    Calls Try.prog 5 #[V.fare lo bo lc bc L al th B dn, .int .i64 c, .int .i64 n, .int .i64 k, .agg #[.int .i64 f, .int .i64 t], .int .i64 a, .int .i64 g] W fun e w' => e = .returned (.bool true) ∧ Below W.heap.size W w' := by
  go_enter Try.func5, Try.ntmps5
  go_wp2_with fail
  refine (price_any _ _ _ _ _ _ _ _ _ _ _ _ _ _ _ _ (hf.below (by go_grown))).mono ?_
  rintro e w1 ⟨rfl, hb1⟩
  have k1 : FBox w1 W.heap.size lo bo lc bc L al th B dn := ⟨cellIn hb1 (by simp), cellIn hb1 (by simp), cellIn hb1 (by simp), cellIn hb1 (by simp), cellIn hb1 (by simp)⟩
  have s1 : SBox w1 (W.heap.size + 1) f t := ⟨cellIn hb1 (by simp), cellIn hb1 (by simp)⟩
  have hB1 : Below W.heap.size W w1 := bvia (by go_grown) hb1
  clear hb1
  go_wp2_with fail
  refine (fareBegun_any _).mono ?_
  rintro e w2 ⟨rfl, hb2⟩
  have k2 := k1.below hb2
  have s2 := s1.below hb2
  have hB2 := bvia hB1 hb2
  clear k1 s1 hB1 hb2
  cases hz : (P.priceE L al th B dn c n k f t 2 != 0)
  · have hz' : P.priceE L al th B dn c n k f t 2 = 0 := by simpa using hz
    obtain ⟨z1, z2, z3, _⟩ := priceE_zero hz'
    have ha : P.price L al th B dn c n k f t 2 = 2 * P.legSum L k f t := by rw [P.price, if_pos hz', cost2]
    have hs := legSum_in z1 z2 z3
    obtain ⟨_, _, _, _, _, zth, _, _⟩ := fareE_zero z1
    have hp := part_in ⟨hs.1, Int.le_refl _⟩ zth
    have HP : Aside (f < a → a < t → (P.priceE L al th B dn c n k f a 2 = 0 ∧ P.price L al th B dn c n k f a 2 = 2 * P.legSum L k f a) ∧ (P.priceE L al th B dn c n k a t 2 = 0 ∧ P.price L al th B dn c n k a t 2 = 2 * P.legSum L k a t) ∧ P.legSum L k f t = P.legSum L k f a + P.legSum L k a t ∧ (0 ≤ P.legSum L k f a ∧ P.legSum L k f a ≤ 700000) ∧ (0 ≤ P.legSum L k a t ∧ P.legSum L k a t ≤ 700000)) := fun h1 h2 => by
      obtain ⟨c1, c2⟩ := chk_part z3 h1 h2
      obtain ⟨x1, x2⟩ := priceE_mk (L := L) (al := al) (th := th) (B := B) (dn := dn) (g := 2) z1 z2 c1 (by omega)
      obtain ⟨y1, y2⟩ := priceE_mk (L := L) (al := al) (th := th) (B := B) (dn := dn) (g := 2) z1 z2 c2 (by omega)
      exact ⟨⟨x1, x2.trans (cost2 _ _ _)⟩, ⟨y1, y2.trans (cost2 _ _ _)⟩, legSum_parts z1 z2 z3 h1 h2, legSum_in z1 z2 c1, legSum_in z1 z2 c2⟩
    have HG : Aside (∀ g : Int, 1 ≤ g ∧ g ≤ 4 → P.priceE L al th B dn c n k f t g = 0 ∧ P.price L al th B dn c n k f t g = P.cost al th (P.legSum L k f t) g) := fun g hg => priceE_mk z1 z2 z3 hg
    rw [ha]
    obtain ⟨q0, q1, q2, q3, q4⟩ := k2
    obtain ⟨r0, r1⟩ := s2
    clear hz' ha z1 z3
    generalize P.legSum L k f t = S at hs hp HP HG ⊢
    generalize hQ : P.part S th = Q at hp
    have HQ : Aside (P.part S th = Q) := hQ
    clear hQ
    by_cases hfa : f < a
    · by_cases hat : a < t
      · obtain ⟨⟨x1, x2⟩, ⟨y1, y2⟩, hsum, hb, hcc⟩ := HP.out hfa hat
        clear HP
        go_wp2_with fail
        refine (price_any _ _ _ _ _ _ _ _ _ _ _ _ _ _ _ _ (hf.below hB2)).mono ?_
        rintro e w3 ⟨rfl, hb3⟩
        rw [x1, x2]
        clear x1 x2
        obtain ⟨q0', q1', q2', q3', q4'⟩ := (FBox.mk q0 q1 q2 q3 q4).below hb3
        obtain ⟨r0', r1'⟩ := (SBox.mk r0 r1).below hb3
        have hB3 := bvia hB2 hb3
        clear q0 q1 q2 q3 q4 r0 r1 hb3 hB2
        go_wp2_with fail
        refine (price_any _ _ _ _ _ _ _ _ _ _ _ _ _ _ _ _ (hf.below hB3)).mono ?_
        rintro e w4 ⟨rfl, hb4⟩
        rw [y1, y2]
        clear y1 y2
        obtain ⟨q0, q1, q2, q3, q4⟩ := (FBox.mk q0' q1' q2' q3' q4').below hb4
        obtain ⟨r0, r1⟩ := (SBox.mk r0' r1').below hb4
        have hB4 := bvia hB3 hb4
        clear q0' q1' q2' q3' q4' r0' r1' hb4 hB3
        have e1 : ((2 * S : Int) != 2 * P.legSum L k f a + 2 * P.legSum L k a t) = false := by simp; omega
        have HS : Aside (S = P.legSum L k f a + P.legSum L k a t) := hsum
        clear hsum
        by_cases hg2 : g < 2
        · go_wp2
          go_ret
          exact ⟨rfl, hB4⟩
        · by_cases hg4 : 4 ≤ g
          · go_wp2
            go_ret
            exact ⟨rfl, hB4⟩
          · rcases (show g = 2 ∨ g = 3 by omega) with rfl | rfl
            · obtain ⟨u1, u2⟩ := HG.out 2 (by omega)
              obtain ⟨v1, v2⟩ := HG.out 3 (by omega)
              rw [cost2] at u2
              rw [cost3, HQ.out] at v2
              clear HG hg2 hg4 HQ
              go_wp2_with fail
              refine (price_any _ _ _ _ _ _ _ _ _ _ _ _ _ _ _ _ (hf.below hB4)).mono ?_
              rintro e w5 ⟨rfl, hb5⟩
              rw [u1, u2]
              clear u1 u2
              obtain ⟨q0', q1', q2', q3', q4'⟩ := (FBox.mk q0 q1 q2 q3 q4).below hb5
              obtain ⟨r0', r1'⟩ := (SBox.mk r0 r1).below hb5
              have hB5 := bvia hB4 hb5
              clear q0 q1 q2 q3 q4 r0 r1 hb5
              go_wp2_with fail
              refine (price_any _ _ _ _ _ _ _ _ _ _ _ _ _ _ _ _ (hf.below hB5)).mono ?_
              rintro e w6 ⟨rfl, hb6⟩
              rw [v1, v2]
              clear v1 v2
              go_wp2
              go_ret
              exact ⟨ret_bool (by have := HS.out; simp <;> omega), bvia hB5 hb6⟩
            · obtain ⟨u1, u2⟩ := HG.out 3 (by omega)
              obtain ⟨v1, v2⟩ := HG.out 4 (by omega)
              rw [cost3, HQ.out] at u2
              rw [cost4, HQ.out] at v2
              clear HG hg2 hg4 HQ
              go_wp2_with fail
              refine (price_any _ _ _ _ _ _ _ _ _ _ _ _ _ _ _ _ (hf.below hB4)).mono ?_
              rintro e w5 ⟨rfl, hb5⟩
              rw [u1, u2]
              clear u1 u2
              obtain ⟨q0', q1', q2', q3', q4'⟩ := (FBox.mk q0 q1 q2 q3 q4).below hb5
              obtain ⟨r0', r1'⟩ := (SBox.mk r0 r1).below hb5
              have hB5 := bvia hB4 hb5
              clear q0 q1 q2 q3 q4 r0 r1 hb5
              go_wp2_with fail
              refine (price_any _ _ _ _ _ _ _ _ _ _ _ _ _ _ _ _ (hf.below hB5)).mono ?_
              rintro e w6 ⟨rfl, hb6⟩
              rw [v1, v2]
              clear v1 v2
              go_wp2
              go_ret
              exact ⟨ret_bool (by have := HS.out; simp <;> omega), bvia hB5 hb6⟩
      · clear HP
        by_cases hg2 : g < 2
        · go_wp2
          go_ret
          exact ⟨rfl, hB2⟩
        · by_cases hg4 : 4 ≤ g
          · go_wp2
            go_ret
            exact ⟨rfl, hB2⟩
          · rcases (show g = 2 ∨ g = 3 by omega) with rfl | rfl
            · obtain ⟨u1, u2⟩ := HG.out 2 (by omega)
              obtain ⟨v1, v2⟩ := HG.out 3 (by omega)
              rw [cost2] at u2
              rw [cost3, HQ.out] at v2
              clear HG hg2 hg4 HQ
              go_wp2_with fail
              refine (price_any _ _ _ _ _ _ _ _ _ _ _ _ _ _ _ _ (hf.below hB2)).mono ?_
              rintro e w5 ⟨rfl, hb5⟩
              rw [u1, u2]
              clear u1 u2
              obtain ⟨q0', q1', q2', q3', q4'⟩ := (FBox.mk q0 q1 q2 q3 q4).below hb5
              obtain ⟨r0', r1'⟩ := (SBox.mk r0 r1).below hb5
              have hB5 := bvia hB2 hb5
              clear q0 q1 q2 q3 q4 r0 r1 hb5
              go_wp2_with fail
              refine (price_any _ _ _ _ _ _ _ _ _ _ _ _ _ _ _ _ (hf.below hB5)).mono ?_
              rintro e w6 ⟨rfl, hb6⟩
              rw [v1, v2]
              clear v1 v2
              go_wp2
              go_ret
              exact ⟨ret_bool (by simp <;> omega), bvia hB5 hb6⟩
            · obtain ⟨u1, u2⟩ := HG.out 3 (by omega)
              obtain ⟨v1, v2⟩ := HG.out 4 (by omega)
              rw [cost3, HQ.out] at u2
              rw [cost4, HQ.out] at v2
              clear HG hg2 hg4 HQ
              go_wp2_with fail
              refine (price_any _ _ _ _ _ _ _ _ _ _ _ _ _ _ _ _ (hf.below hB2)).mono ?_
              rintro e w5 ⟨rfl, hb5⟩
              rw [u1, u2]
              clear u1 u2
              obtain ⟨q0', q1', q2', q3', q4'⟩ := (FBox.mk q0 q1 q2 q3 q4).below hb5
              obtain ⟨r0', r1'⟩ := (SBox.mk r0 r1).below hb5
              have hB5 := bvia hB2 hb5
              clear q0 q1 q2 q3 q4 r0 r1 hb5
              go_wp2_with fail
              refine (price_any _ _ _ _ _ _ _ _ _ _ _ _ _ _ _ _ (hf.below hB5)).mono ?_
              rintro e w6 ⟨rfl, hb6⟩
              rw [v1, v2]
              clear v1 v2
              go_wp2
              go_ret
              exact ⟨ret_bool (by simp <;> omega), bvia hB5 hb6⟩
    · clear HP
      by_cases hg2 : g < 2
      · go_wp2
        go_ret
        exact ⟨rfl, hB2⟩
      · by_cases hg4 : 4 ≤ g
        · go_wp2
          go_ret
          exact ⟨rfl, hB2⟩
        · rcases (show g = 2 ∨ g = 3 by omega) with rfl | rfl
          · obtain ⟨u1, u2⟩ := HG.out 2 (by omega)
            obtain ⟨v1, v2⟩ := HG.out 3 (by omega)
            rw [cost2] at u2
            rw [cost3, HQ.out] at v2
            clear HG hg2 hg4 HQ
            go_wp2_with fail
            refine (price_any _ _ _ _ _ _ _ _ _ _ _ _ _ _ _ _ (hf.below hB2)).mono ?_
            rintro e w5 ⟨rfl, hb5⟩
            rw [u1, u2]
            clear u1 u2
            obtain ⟨q0', q1', q2', q3', q4'⟩ := (FBox.mk q0 q1 q2 q3 q4).below hb5
            obtain ⟨r0', r1'⟩ := (SBox.mk r0 r1).below hb5
            have hB5 := bvia hB2 hb5
            clear q0 q1 q2 q3 q4 r0 r1 hb5
            go_wp2_with fail
            refine (price_any _ _ _ _ _ _ _ _ _ _ _ _ _ _ _ _ (hf.below hB5)).mono ?_
            rintro e w6 ⟨rfl, hb6⟩
            rw [v1, v2]
            clear v1 v2
            go_wp2
            go_ret
            exact ⟨ret_bool (by simp <;> omega), bvia hB5 hb6⟩
          · obtain ⟨u1, u2⟩ := HG.out 3 (by omega)
            obtain ⟨v1, v2⟩ := HG.out 4 (by omega)
            rw [cost3, HQ.out] at u2
            rw [cost4, HQ.out] at v2
            clear HG hg2 hg4 HQ
            go_wp2_with fail
            refine (price_any _ _ _ _ _ _ _ _ _ _ _ _ _ _ _ _ (hf.below hB2)).mono ?_
            rintro e w5 ⟨rfl, hb5⟩
            rw [u1, u2]
            clear u1 u2
            obtain ⟨q0', q1', q2', q3', q4'⟩ := (FBox.mk q0 q1 q2 q3 q4).below hb5
            obtain ⟨r0', r1'⟩ := (SBox.mk r0 r1).below hb5
            have hB5 := bvia hB2 hb5
            clear q0 q1 q2 q3 q4 r0 r1 hb5
            go_wp2_with fail
            refine (price_any _ _ _ _ _ _ _ _ _ _ _ _ _ _ _ _ (hf.below hB5)).mono ?_
            rintro e w6 ⟨rfl, hb6⟩
            rw [v1, v2]
            clear v1 v2
            go_wp2
            go_ret
            exact ⟨ret_bool (by simp <;> omega), bvia hB5 hb6⟩
  · have hv : P.price L al th B dn c n k f t 2 = 0 := by rw [P.price, if_neg (by simpa using hz)]
    rw [hv]
    go_wp2
    go_ret
    exact ⟨rfl, hB2⟩

end Go.Proofs.Ytagjlckmemmflac
