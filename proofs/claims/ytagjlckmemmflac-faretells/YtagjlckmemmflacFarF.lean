/- Walk of Price. -/
import Derived.Test.YtagjlckmemmflacFarE
namespace Go.Proofs.Ytagjlckmemmflac
open Go.RowKit
set_option linter.unusedSimpArgs false
set_option linter.unusedVariables false

theorem Try.sizeInt : (Try.prog.info? 3).map (fun i => i.size) = some 1 := by kernel_rfl
theorem run_sizeInt (wx : World) : (sizeOf 3).run Try.prog wx = .ok 1 wx := by
  have h := Try.sizeInt
  cases hi : Try.prog.info? 3 with
  | none => rw [hi] at h; cases h
  | some i =>
    rw [hi] at h
    simp only [Option.map_some, Option.some.injEq] at h
    simp [sizeOf, typeInfo, hi, h]

/-- where 'l[f:t]' begins -/
def midAt (ao : Option Addr) (cap f : Nat) : Option Addr := if cap = f then ao else ao.map fun x => x.add f
/-- 'l[f:t]' -/
theorem run_mid (ao : Option Addr) (n cap f t : Nat) (hf : f ≤ t) (ht : t ≤ cap) (wx : World) : (Instr.slice 57 (.slice ao n cap) (some (.int .i64 (f : Int))) (some (.int .i64 (t : Int))) none).run Try.prog wx = .ok (.slice (midAt ao cap f) (t - f) (cap - f)) wx := by
  simp [Instr.slice, run_underlying Try.underlying57, Instr.sliceBounds, Instr.sliceBound, asIntOf, run_sizeInt, hf, ht, midAt]

def P.seg (l : List Int) (f t : Nat) : List Int := (l.drop f).take (t - f)
theorem seg_len {l : List Int} {f t : Nat} (hf : f ≤ t) (ht : t ≤ l.length) : (P.seg l f t).length = t - f := by simp [P.seg]; omega
theorem seg_mem {l : List Int} {f t : Nat} {x : Int} (h : x ∈ P.seg l f t) : x ∈ l := List.mem_of_mem_drop (List.mem_of_mem_take h)

theorem IntsAt.mid {w : World} {ao : Option Addr} {cap : Nat} {l : List Int} (h : IntsAt w ao cap l) {f t : Nat} (hf : f ≤ t) (ht : t ≤ l.length) : IntsAt w (midAt ao cap f) (cap - f) (P.seg l f t) := by
  have hle := h.le
  have hmx := h.max
  refine ⟨by rw [seg_len hf ht]; omega, by omega, fun hn => ?_, fun h0 => ?_⟩
  · have : ao = none := by
      unfold midAt at hn
      split at hn
      · exact hn
      · simpa using hn
    have := h.nil this
    omega
  · rw [seg_len hf ht] at h0
    obtain ⟨b, off, rfl, hlt, hc⟩ := h.cells (by omega)
    refine ⟨b, off + f, ?_, hlt, fun i hi => ?_⟩
    · unfold midAt
      rw [if_neg (by omega)]
      simp only [Option.map_some]
      rw [Go.WideShapes.add_plain]
    · rw [seg_len hf ht] at hi
      obtain ⟨cs, h1, h2, h3⟩ := hc (f + i) (by omega)
      refine ⟨cs, ?_, h2, fun j u hj => ?_⟩
      · have e : (P.seg l f t)[i]'(by rw [seg_len hf ht]; omega) = l[f + i] := by simp [P.seg]
        rw [e]
        exact h1
      · have := h3 j u hj
        rw [show off + f + i * 1 + j = off + (f + i) * 1 + j by omega]
        exact this

/-- The sum of a category's legs of a span. -/
def P.legSum (L : List (List Int)) (k f t : Int) : Int := P.tot (P.seg (L.getD k.toNat []) f.toNat t.toNat)
def P.priceE (L : List (List Int)) (al th : Int) (B : List (Int × Int)) (dn c n k f t g : Int) : Int :=
  if P.fareE L al th B dn c n = 0 then (if P.btw k 0 (c - 1) = true then (if P.chk f t n = 0 then (if P.btw g 1 4 = true then 0 else 3) else P.chk f t n) else 3) else P.fareE L al th B dn c n
def P.price (L : List (List Int)) (al th : Int) (B : List (Int × Int)) (dn c n k f t g : Int) : Int :=
  if P.priceE L al th B dn c n k f t g = 0 then P.cost al th (P.legSum L k f t) g else 0

theorem priceE_zero {L : List (List Int)} {al th : Int} {B : List (Int × Int)} {dn c n k f t g : Int} (h : P.priceE L al th B dn c n k f t g = 0) :
    P.fareE L al th B dn c n = 0 ∧ (0 ≤ k ∧ k < c) ∧ P.chk f t n = 0 ∧ (1 ≤ g ∧ g ≤ 4) := by
  unfold P.priceE at h
  split at h
  · rename_i h1
    split at h
    · rename_i h2
      split at h
      · rename_i h3
        split at h
        · rename_i h4
          simp only [P.btw, Bool.and_eq_true, decide_eq_true_eq] at h2 h4
          exact ⟨h1, ⟨h2.1, by omega⟩, h3, h4⟩
        · omega
      · contradiction
    · omega
  · contradiction

theorem legSum_in {L : List (List Int)} {al th : Int} {B : List (Int × Int)} {dn c n : Int} (h : P.fareE L al th B dn c n = 0) {k : Int} (hk : 0 ≤ k ∧ k < c) {f t : Int} (hc : P.chk f t n = 0) : 0 ≤ P.legSum L k f t ∧ P.legSum L k f t ≤ 700000 := by
  obtain ⟨_, _, h3, h4, _⟩ := fareE_zero h
  obtain ⟨c1, c2, c3, c4, _, _⟩ := chk_zero hc
  have hkl : k.toNat < L.length := by omega
  have hr : L.getD k.toNat [] ∈ L := by
    rw [List.getD_eq_getElem?_getD, List.getElem?_eq_getElem hkl]
    exact List.getElem_mem hkl
  obtain ⟨r1, r2⟩ := h4 _ hr
  have := tot_in (l := P.seg (L.getD k.toNat []) f.toNat t.toNat) (m := 7) (fun x hx => r2 x (seg_mem hx)) (by rw [seg_len (by omega) (by omega)]; omega)
  unfold P.legSum
  omega

set_option maxHeartbeats 2000000 in
theorem price_any (lo bo : Option Addr) (lc bc : Nat) (L : List (List Int)) (al th : Int) (B : List (Int × Int)) (dn c n k f t g : Int) (w : World) (hf : FareAt w lo bo lc bc L B) :
    Calls Try.prog 9 #[V.fare lo bo lc bc L al th B dn, .int .i64 c, .int .i64 n, .int .i64 k, .agg #[.int .i64 f, .int .i64 t], .int .i64 g] w fun e w' => e = .returned (.tuple #[.int .i64 (P.price L al th B dn c n k f t g), .int .i64 (P.priceE L al th B dn c n k f t g)]) ∧ Below w.heap.size w w' := by
  have hle := hf.legs.le
  have hmx := hf.legs.max
  unfold maxLen at hmx
  cases hz : (P.fareE L al th B dn c n != 0)
  · have hz' : P.fareE L al th B dn c n = 0 := by simpa using hz
    obtain ⟨k1, k2, k3, k4, k5, k6, k7, _⟩ := fareE_zero hz'
    have HL : Aside (∀ r ∈ L, (r.length : Int) = n ∧ ∀ x ∈ r, 0 ≤ x ∧ x ≤ 100000) := k4
    have HLc : Aside ((L.length : Int) = c) := k3
    clear k4 k3
    cases h1 : P.btw k 0 (c - 1)
    · have HE : Aside (P.priceE L al th B dn c n k f t g = 3) := by show _ = _; rw [P.priceE, if_pos hz', h1]; rfl
      have HV : Aside (P.price L al th B dn c n k f t g = 0) := by show _ = _; rw [P.price, if_neg (by rw [HE.out]; omega)]
      clear hz'
      go_enter Try.func9, Try.ntmps9
      go_wp2_with (first
        | (go_at_call 18; refine (fareCheck_any _ _ _ _ _ _ _ _ _ _ _ _ (hf.below (by go_grown))).mono ?_; rintro e w1 ⟨rfl, hb1⟩)
        | (go_at_call 29; refine (within_any _ _ _ _).mono ?_; rintro e w2 ⟨rfl, rfl⟩; rw [h1]))
      go_ret2
      exact ⟨ret2_ii HV.out.symm HE.out.symm, bvia (by go_grown) hb1⟩
    · cases hc : (P.chk f t n != 0)
      · have hc' : P.chk f t n = 0 := by simpa using hc
        cases h2 : P.btw g 1 4
        · have HE : Aside (P.priceE L al th B dn c n k f t g = 3) := by show _ = _; rw [P.priceE, if_pos hz', if_pos h1, if_pos hc', h2]; rfl
          have HV : Aside (P.price L al th B dn c n k f t g = 0) := by show _ = _; rw [P.price, if_neg (by rw [HE.out]; omega)]
          clear hz' hc'
          go_enter Try.func9, Try.ntmps9
          go_wp2_with (first
            | (go_at_call 18; refine (fareCheck_any _ _ _ _ _ _ _ _ _ _ _ _ (hf.below (by go_grown))).mono ?_; rintro e w1 ⟨rfl, hb1⟩; have c5 : w1.cell? ⟨w.heap.size + 1, 0, none⟩ = some (.int .i64 f) := cellIn hb1 (by simp); have c6 : w1.cell? ⟨w.heap.size + 1, 1, none⟩ = some (.int .i64 t) := cellIn hb1 (by simp))
            | (go_at_call 29; refine (within_any _ _ _ _).mono ?_; rintro e w2 ⟨rfl, rfl⟩; first | rw [h1] | rw [h2])
            | (go_at_call 30; refine (check_any _ _ _ _).mono ?_; rintro e w3 ⟨rfl, hb3⟩))
          go_ret2
          exact ⟨ret2_ii HV.out.symm HE.out.symm, bvia (bvia (by go_grown) hb1) hb3⟩
        · have HE : Aside (P.priceE L al th B dn c n k f t g = 0) := by show _ = _; rw [P.priceE, if_pos hz', if_pos h1, if_pos hc', if_pos h2]
          have HV : Aside (P.price L al th B dn c n k f t g = P.cost al th (P.legSum L k f t) g) := by show _ = _; rw [P.price, if_pos HE.out]
          obtain ⟨_, kk, _, kg⟩ := priceE_zero HE.out
          have hs := legSum_in hz' kk hc'
          obtain ⟨s1, s2, s3, _, _, _⟩ := chk_zero hc'
          clear hz' hc'
          obtain ⟨K, rfl⟩ : ∃ K : Nat, k = K := ⟨k.toNat, by omega⟩
          obtain ⟨f, rfl⟩ : ∃ F : Nat, f = F := ⟨f.toNat, by omega⟩
          obtain ⟨t, rfl⟩ : ∃ T : Nat, t = T := ⟨t.toNat, by omega⟩
          have hKl : K < L.length := by have := HLc.out; omega
          have hi1 : (K : Int) < (L.length : Int) := by omega
          go_enter Try.func9, Try.ntmps9
          go_wp2_with (first
            | (go_at_call 18; refine (fareCheck_any _ _ _ _ _ _ _ _ _ _ _ _ (hf.below (by go_grown))).mono ?_; rintro e w1 ⟨rfl, hb1⟩; have c5 : w1.cell? ⟨w.heap.size + 1, 0, none⟩ = some (.int .i64 f) := cellIn hb1 (by simp); have c6 : w1.cell? ⟨w.heap.size + 1, 1, none⟩ = some (.int .i64 t) := cellIn hb1 (by simp); have q0 : w1.cell? ⟨w.heap.size, 0, none⟩ = some (.slice lo L.length lc) := cellIn hb1 (by simp); have q1 : w1.cell? ⟨w.heap.size, 1, none⟩ = some (.int .i64 al) := cellIn hb1 (by simp); have q2 : w1.cell? ⟨w.heap.size, 2, none⟩ = some (.int .i64 th) := cellIn hb1 (by simp); have q3 : w1.cell? ⟨w.heap.size, 3, none⟩ = some (.slice bo B.length bc) := cellIn hb1 (by simp); have q4 : w1.cell? ⟨w.heap.size, 4, none⟩ = some (.int .i64 dn) := cellIn hb1 (by simp); have hB1 : Below w.heap.size w w1 := bvia (by go_grown) hb1)
            | (go_at_call 29; refine (within_any _ _ _ _).mono ?_; rintro e w2 ⟨rfl, rfl⟩; first | rw [h1] | rw [h2])
            | (go_at_call 30; refine (check_any _ _ _ _).mono ?_; rintro e w3 ⟨rfl, hb3⟩; have hB3 := bvia hB1 hb3))
          obtain ⟨b, off, r, ro, rc, rfl, hbw, hd, hc0, hr⟩ := RowsAt.get hf.legs hB3 K hKl
          have hrm := HL.out r (memA hKl hd)
          have hLS : P.legSum L K f t = P.tot (P.seg r f t) := by
            have := getA hKl hd
            simp [P.legSum, hKl, this]
          have hrl : t ≤ r.length := by omega
          have hft : f ≤ t := by omega
          have hrle := hr.le
          have hmid := run_mid ro r.length rc f t hft (by omega)
          have hsl := seg_len (l := r) hft hrl
          have HSX : Aside (∀ x ∈ P.seg r f t, 0 ≤ x ∧ x ≤ 100000) := fun x hx => hrm.2 x (seg_mem hx)
          have HSm : Aside (∀ W : World, Below w3.heap.size w3 W → Calls Try.prog 32 #[.slice (midAt ro rc f) (t - f) (rc - f)] W fun e w' => e = .returned (.int .i64 (P.legSum L K f t)) ∧ Below W.heap.size W w') := fun W hW => by
            have := sum_any (midAt ro rc f) (rc - f) (P.seg r f t) W (IntsAt.mid (SlAt.below RInt.mono hr hW) hft hrl) HSX.out (by omega)
            rw [hsl] at this
            rw [hLS]
            exact this.mono fun e w' ⟨he, hw⟩ => ⟨he, by subst hw; exact Below.refl _ _⟩
          have HCo : Aside (∀ W : World, Calls Try.prog 31 #[V.fare (some ⟨b, off, none⟩) bo lc bc L al th B dn, .int .i64 (P.legSum L K f t), .int .i64 g] W fun e w' => e = .returned (.int .i64 (P.cost al th (P.legSum L K f t) g)) ∧ Below W.heap.size W w') := fun W => cost_any _ _ _ _ _ _ _ _ _ _ _ W hs k5 k6 kg
          have r5 := cell_regrown (cellIn hb3 c5)
          have r6 := cell_regrown (cellIn hb3 c6)
          have r0 := cell_regrown (cellIn hb3 q0)
          have r1 := cell_regrown (cellIn hb3 q1)
          have r2 := cell_regrown (cellIn hb3 q2)
          have r3 := cell_regrown (cellIn hb3 q3)
          have r4 := cell_regrown (cellIn hb3 q4)
          have r7 := cell_regrown hc0
          clear hr hLS hd c5 c6 q0 q1 q2 q3 q4 hsl hrm hc0
          go_wp2
          refine wp_region_quiet_below (by kernel_rfl) (by kernel_rfl) ?_
          repeat (quiet_step (first | (go_at_call 32; exact Calls.regrown_of (HSm.out _ (below_regrown _ _ _))) | (go_at_call 31; exact Calls.regrown_of (HCo.out _))))
          refine wpQuiet_nil ?_
          intro w5 hw5
          obtain ⟨⟨dq, osq⟩, hw5⟩ := hw5
          have hb5 := below_regrown w3 dq osq
          rw [← hw5] at hb5
          clear hw5 r0 r1 r2 r3 r4 r5 r6 r7
          go_wp2
          go_ret2
          exact ⟨ret2_ii HV.out.symm HE.out.symm, bvia hB3 hb5⟩
      · have HE : Aside (P.priceE L al th B dn c n k f t g = P.chk f t n) := by show _ = _; rw [P.priceE, if_pos hz', if_pos h1, if_neg (by simpa using hc)]
        have HV : Aside (P.price L al th B dn c n k f t g = 0) := by show _ = _; rw [P.price, if_neg (by rw [HE.out]; simpa using hc)]
        clear hz'
        go_enter Try.func9, Try.ntmps9
        go_wp2_with (first
          | (go_at_call 18; refine (fareCheck_any _ _ _ _ _ _ _ _ _ _ _ _ (hf.below (by go_grown))).mono ?_; rintro e w1 ⟨rfl, hb1⟩; have c5 : w1.cell? ⟨w.heap.size + 1, 0, none⟩ = some (.int .i64 f) := cellIn hb1 (by simp); have c6 : w1.cell? ⟨w.heap.size + 1, 1, none⟩ = some (.int .i64 t) := cellIn hb1 (by simp))
          | (go_at_call 29; refine (within_any _ _ _ _).mono ?_; rintro e w2 ⟨rfl, rfl⟩; rw [h1])
          | (go_at_call 30; refine (check_any _ _ _ _).mono ?_; rintro e w3 ⟨rfl, hb3⟩))
        go_ret2
        exact ⟨ret2_ii HV.out.symm HE.out.symm, bvia (bvia (by go_grown) hb1) hb3⟩
  · have HE : Aside (P.priceE L al th B dn c n k f t g = P.fareE L al th B dn c n) := by show _ = _; rw [P.priceE, if_neg (by simpa using hz)]
    have HV : Aside (P.price L al th B dn c n k f t g = 0) := by show _ = _; rw [P.price, if_neg (by rw [HE.out]; simpa using hz)]
    go_enter Try.func9, Try.ntmps9
    go_wp2_with (go_at_call 18; refine (fareCheck_any _ _ _ _ _ _ _ _ _ _ _ _ (hf.below (by go_grown))).mono ?_; rintro e w1 ⟨rfl, hb1⟩)
    go_ret2
    exact ⟨ret2_ii HV.out.symm HE.out.symm, bvia (by go_grown) hb1⟩

end Go.Proofs.Ytagjlckmemmflac
