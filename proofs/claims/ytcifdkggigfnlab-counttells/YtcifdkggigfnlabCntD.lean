/- Walks of Add, Take, Fits, Peak of package count. -/
import Derived.Test.YtcifdkggigfnlabCntC
namespace Go.Proofs.Ytcifdkggigfnlab
open Go.RowKit
set_option linter.unusedSimpArgs false
set_option linter.unusedVariables false

def P.addCE (l : List Int) (n f t m : Int) : Int := if P.cntA l n f t m = 0 then (if (P.seg l f.toNat t.toNat).any (fun x => decide (60 < x + m)) = true then 2 else 0) else P.cntA l n f t m
def P.addCL (l : List Int) (n f t m : Int) : List Int := if P.addCE l n f t m = 0 then P.moreL l f.toNat t.toNat m else []
def P.takeCE (l : List Int) (n f t m : Int) : Int := if P.cntA l n f t m = 0 then (if (P.seg l f.toNat t.toNat).any (fun x => decide (x < m)) = true then 4 else 0) else P.cntA l n f t m
def P.takeCL (l : List Int) (n f t m : Int) : List Int := if P.takeCE l n f t m = 0 then P.moreL l f.toNat t.toNat (-m) else []
def P.fitsE (l : List Int) (n f t m k : Int) : Int := if P.cntA l n f t m = 0 then (if P.btw k 0 60 = true then 0 else 3) else P.cntA l n f t m
def P.fitsB (l : List Int) (n f t m k : Int) : Bool := decide (P.fitsE l n f t m k = 0) && !(P.seg l f.toNat t.toNat).any (fun x => decide (k < x + m))

set_option maxHeartbeats 1000000 in
theorem cntAdd_any (ao : Option Addr) (cap : Nat) (l : List Int) (n f t m : Int) (w : World) (hl : IntsAt w ao cap l) :
    Calls Try.prog 9 #[.slice ao l.length cap, .int .i64 n, .agg #[.int .i64 f, .int .i64 t], .int .i64 m] w fun e w' => ∃ v', e = .returned (.tuple #[v', .int .i64 (P.addCE l n f t m)]) ∧ OwnI w' w.heap.size v' (P.addCL l n f t m) ∧ Below w.heap.size w w' := by
  cases hz : (P.cntA l n f t m != 0)
  · have hz0 : P.cntA l n f t m = 0 := by simpa using hz
    obtain ⟨hB0, m0, m60⟩ := cntA_zero hz0
    obtain ⟨hln, n1, n7, hx, f0, ft, tn, _⟩ := cntB_zero hB0
    obtain ⟨F, rfl⟩ : ∃ F : Nat, f = F := ⟨f.toNat, by omega⟩
    obtain ⟨T, rfl⟩ : ∃ T : Nat, t = T := ⟨t.toNat, by omega⟩
    have hFT : F ≤ T := by omega
    have hTl : T ≤ l.length := by omega
    have hl7 : l.length ≤ 7 := by omega
    have HX : Aside (∀ x ∈ l, 0 ≤ x ∧ x ≤ 60) := hx
    clear hx hB0
    have hq : ∀ (b : Bool), (P.seg l F T).any (fun x => decide (60 < x + m)) = b → P.addCE l n F T m = if b = true then 2 else 0 := by
      intro b hb
      subst hb
      rw [P.addCE, if_pos hz0]
      rfl
    clear hz0
    cases ha : (P.seg l F T).any (fun x => decide (60 < x + m))
    · have HE : Aside (P.addCE l n F T m = 0) := hq _ ha
      have HL : Aside (P.addCL l n F T m = P.moreL l F T m) := by show _ = _; rw [P.addCL, if_pos HE.out]; simp
      clear hq
      go_enter Try.func9, Try.ntmps9
      go_wp2_with fail
      refine (cntAllE_any _ _ l _ _ _ _ _ (SlAt.below RInt.mono hl (by go_grown))).mono ?_
      rintro e w1 ⟨rfl, hb1⟩
      have hB1 : Below w.heap.size w w1 := bvia (by go_grown) hb1
      have c0 : w1.cell? ⟨w.heap.size, 0, none⟩ = some (.int .i64 F) := cellIn hb1 (by simp)
      have c1 : w1.cell? ⟨w.heap.size, 1, none⟩ = some (.int .i64 T) := cellIn hb1 (by simp)
      have c2 : w1.cell? ⟨w.heap.size + 1, 0, none⟩ = some (.int .i64 m) := cellIn hb1 (by simp)
      go_wp2_with fail
      refine (hasLeg_any _ _ l F T 31 #[.pointer (some ⟨w.heap.size + 1, 0, none⟩)] (fun x => decide (60 < x + m)) _ (SlAt.below RInt.mono hl hB1) hFT hTl (fun args wx => by go_simp) (fun x wx hx hb => by rw [arr2]; exact cntAdd1_any x m _ wx (HX.out x hx) ⟨m0, m60⟩ (cellIn hb c2))).mono ?_
      rintro e w2 ⟨rfl, hb2⟩
      rw [ha]
      have hB2 := bvia hB1 hb2
      have d0 := cellIn hb2 c0
      have d1 := cellIn hb2 c1
      have d2 := cellIn hb2 c2
      go_wp2_with fail
      refine (with_any _ _ l F T m _ (SlAt.below RInt.mono hl hB2) hFT hTl hl7 HX.out (by omega)).mono ?_
      rintro e w3 ⟨v3, rfl, own3, hb3⟩
      go_wp2
      go_ret2
      refine ⟨v3, ret2_int HE.out.symm, ?_, bvia hB2 hb3⟩
      rw [HL.out]
      exact World.ownsRow.mono own3 hB2.size
    · have HE : Aside (P.addCE l n F T m = 2) := hq _ ha
      have HL : Aside (P.addCL l n F T m = []) := by show _ = _; rw [P.addCL, if_neg (by rw [HE.out]; decide)]
      clear hq
      go_enter Try.func9, Try.ntmps9
      go_wp2_with fail
      refine (cntAllE_any _ _ l _ _ _ _ _ (SlAt.below RInt.mono hl (by go_grown))).mono ?_
      rintro e w1 ⟨rfl, hb1⟩
      have hB1 : Below w.heap.size w w1 := bvia (by go_grown) hb1
      have c0 : w1.cell? ⟨w.heap.size, 0, none⟩ = some (.int .i64 F) := cellIn hb1 (by simp)
      have c1 : w1.cell? ⟨w.heap.size, 1, none⟩ = some (.int .i64 T) := cellIn hb1 (by simp)
      have c2 : w1.cell? ⟨w.heap.size + 1, 0, none⟩ = some (.int .i64 m) := cellIn hb1 (by simp)
      go_wp2_with fail
      refine (hasLeg_any _ _ l F T 31 #[.pointer (some ⟨w.heap.size + 1, 0, none⟩)] (fun x => decide (60 < x + m)) _ (SlAt.below RInt.mono hl hB1) hFT hTl (fun args wx => by go_simp) (fun x wx hx hb => by rw [arr2]; exact cntAdd1_any x m _ wx (HX.out x hx) ⟨m0, m60⟩ (cellIn hb c2))).mono ?_
      rintro e w2 ⟨rfl, hb2⟩
      rw [ha]
      go_wp2
      go_ret2
      refine ⟨_, ret2_int HE.out.symm, ?_, bvia hB1 hb2⟩
      rw [HL.out]
      exact World.ownsRow_nil _ _ _ _
  · have HE : Aside (P.addCE l n f t m = P.cntA l n f t m) := by show _ = _; rw [P.addCE, if_neg (by simpa using hz)]
    have HL : Aside (P.addCL l n f t m = []) := by show _ = _; rw [P.addCL, if_neg (by rw [HE.out]; simpa using hz)]
    go_enter Try.func9, Try.ntmps9
    go_wp2_with fail
    refine (cntAllE_any _ _ l _ _ _ _ _ (SlAt.below RInt.mono hl (by go_grown))).mono ?_
    rintro e w1 ⟨rfl, hb1⟩
    go_wp2
    go_ret2
    refine ⟨_, ret2_int HE.out.symm, ?_, bvia (by go_grown) hb1⟩
    rw [HL.out]
    exact World.ownsRow_nil _ _ _ _

set_option maxHeartbeats 1000000 in
theorem cntTake_any (ao : Option Addr) (cap : Nat) (l : List Int) (n f t m : Int) (w : World) (hl : IntsAt w ao cap l) :
    Calls Try.prog 10 #[.slice ao l.length cap, .int .i64 n, .agg #[.int .i64 f, .int .i64 t], .int .i64 m] w fun e w' => ∃ v', e = .returned (.tuple #[v', .int .i64 (P.takeCE l n f t m)]) ∧ OwnI w' w.heap.size v' (P.takeCL l n f t m) ∧ Below w.heap.size w w' := by
  cases hz : (P.cntA l n f t m != 0)
  · have hz0 : P.cntA l n f t m = 0 := by simpa using hz
    obtain ⟨hB0, m0, m60⟩ := cntA_zero hz0
    obtain ⟨hln, n1, n7, hx, f0, ft, tn, _⟩ := cntB_zero hB0
    obtain ⟨F, rfl⟩ : ∃ F : Nat, f = F := ⟨f.toNat, by omega⟩
    obtain ⟨T, rfl⟩ : ∃ T : Nat, t = T := ⟨t.toNat, by omega⟩
    have hFT : F ≤ T := by omega
    have hTl : T ≤ l.length := by omega
    have hl7 : l.length ≤ 7 := by omega
    have HX : Aside (∀ x ∈ l, 0 ≤ x ∧ x ≤ 60) := hx
    clear hx hB0
    have hq : ∀ (b : Bool), (P.seg l F T).any (fun x => decide (x < m)) = b → P.takeCE l n F T m = if b = true then 4 else 0 := by
      intro b hb
      subst hb
      rw [P.takeCE, if_pos hz0]
      rfl
    clear hz0
    cases ha : (P.seg l F T).any (fun x => decide (x < m))
    · have HE : Aside (P.takeCE l n F T m = 0) := hq _ ha
      have HL : Aside (P.takeCL l n F T m = P.moreL l F T (-m)) := by show _ = _; rw [P.takeCL, if_pos HE.out]; simp
      clear hq
      go_enter Try.func10, Try.ntmps10
      go_wp2_with fail
      refine (cntAllE_any _ _ l _ _ _ _ _ (SlAt.below RInt.mono hl (by go_grown))).mono ?_
      rintro e w1 ⟨rfl, hb1⟩
      have hB1 : Below w.heap.size w w1 := bvia (by go_grown) hb1
      have c0 : w1.cell? ⟨w.heap.size, 0, none⟩ = some (.int .i64 F) := cellIn hb1 (by simp)
      have c1 : w1.cell? ⟨w.heap.size, 1, none⟩ = some (.int .i64 T) := cellIn hb1 (by simp)
      have c2 : w1.cell? ⟨w.heap.size + 1, 0, none⟩ = some (.int .i64 m) := cellIn hb1 (by simp)
      go_wp2_with fail
      refine (hasLeg_any _ _ l F T 33 #[.pointer (some ⟨w.heap.size + 1, 0, none⟩)] (fun x => decide (x < m)) _ (SlAt.below RInt.mono hl hB1) hFT hTl (fun args wx => by go_simp) (fun x wx hx hb => by rw [arr2]; exact cntTake1_any x m _ wx (cellIn hb c2))).mono ?_
      rintro e w2 ⟨rfl, hb2⟩
      rw [ha]
      have hB2 := bvia hB1 hb2
      have d0 := cellIn hb2 c0
      have d1 := cellIn hb2 c1
      have d2 := cellIn hb2 c2
      go_wp2_with fail
      refine (with_any _ _ l F T (-m) _ (SlAt.below RInt.mono hl hB2) hFT hTl hl7 HX.out (by omega)).mono ?_
      rintro e w3 ⟨v3, rfl, own3, hb3⟩
      go_wp2
      go_ret2
      refine ⟨v3, ret2_int HE.out.symm, ?_, bvia hB2 hb3⟩
      rw [HL.out]
      exact World.ownsRow.mono own3 hB2.size
    · have HE : Aside (P.takeCE l n F T m = 4) := hq _ ha
      have HL : Aside (P.takeCL l n F T m = []) := by show _ = _; rw [P.takeCL, if_neg (by rw [HE.out]; decide)]
      clear hq
      go_enter Try.func10, Try.ntmps10
      go_wp2_with fail
      refine (cntAllE_any _ _ l _ _ _ _ _ (SlAt.below RInt.mono hl (by go_grown))).mono ?_
      rintro e w1 ⟨rfl, hb1⟩
      have hB1 : Below w.heap.size w w1 := bvia (by go_grown) hb1
      have c0 : w1.cell? ⟨w.heap.size, 0, none⟩ = some (.int .i64 F) := cellIn hb1 (by simp)
      have c1 : w1.cell? ⟨w.heap.size, 1, none⟩ = some (.int .i64 T) := cellIn hb1 (by simp)
      have c2 : w1.cell? ⟨w.heap.size + 1, 0, none⟩ = some (.int .i64 m) := cellIn hb1 (by simp)
      go_wp2_with fail
      refine (hasLeg_any _ _ l F T 33 #[.pointer (some ⟨w.heap.size + 1, 0, none⟩)] (fun x => decide (x < m)) _ (SlAt.below RInt.mono hl hB1) hFT hTl (fun args wx => by go_simp) (fun x wx hx hb => by rw [arr2]; exact cntTake1_any x m _ wx (cellIn hb c2))).mono ?_
      rintro e w2 ⟨rfl, hb2⟩
      rw [ha]
      go_wp2
      go_ret2
      refine ⟨_, ret2_int HE.out.symm, ?_, bvia hB1 hb2⟩
      rw [HL.out]
      exact World.ownsRow_nil _ _ _ _
  · have HE : Aside (P.takeCE l n f t m = P.cntA l n f t m) := by show _ = _; rw [P.takeCE, if_neg (by simpa using hz)]
    have HL : Aside (P.takeCL l n f t m = []) := by show _ = _; rw [P.takeCL, if_neg (by rw [HE.out]; simpa using hz)]
    go_enter Try.func10, Try.ntmps10
    go_wp2_with fail
    refine (cntAllE_any _ _ l _ _ _ _ _ (SlAt.below RInt.mono hl (by go_grown))).mono ?_
    rintro e w1 ⟨rfl, hb1⟩
    go_wp2
    go_ret2
    refine ⟨_, ret2_int HE.out.symm, ?_, bvia (by go_grown) hb1⟩
    rw [HL.out]
    exact World.ownsRow_nil _ _ _ _

theorem ret2_bi {a b : Bool} {c d : Int} (h : a = b) (h2 : c = d) : Ending.returned (.tuple #[.bool a, .int .i64 c]) = .returned (.tuple #[.bool b, .int .i64 d]) := by rw [h, h2]

set_option maxHeartbeats 1000000 in
theorem cntFits_any (ao : Option Addr) (cap : Nat) (l : List Int) (n f t m k : Int) (w : World) (hl : IntsAt w ao cap l) :
    Calls Try.prog 11 #[.slice ao l.length cap, .int .i64 n, .agg #[.int .i64 f, .int .i64 t], .int .i64 m, .int .i64 k] w fun e w' => e = .returned (.tuple #[.bool (P.fitsB l n f t m k), .int .i64 (P.fitsE l n f t m k)]) ∧ Below w.heap.size w w' := by
  cases hz : (P.cntA l n f t m != 0)
  · have hz0 : P.cntA l n f t m = 0 := by simpa using hz
    cases hk : P.btw k 0 60
    · have HE : Aside (P.fitsE l n f t m k = 3) := by show _ = _; rw [P.fitsE, if_pos hz0, hk]; rfl
      have HF : Aside (P.fitsB l n f t m k = false) := by show _ = _; rw [P.fitsB, HE.out]; rfl
      clear hz0
      go_enter Try.func11, Try.ntmps11
      go_wp2_with fail
      refine (cntAllE_any _ _ l _ _ _ _ _ (SlAt.below RInt.mono hl (by go_grown))).mono ?_
      rintro e w1 ⟨rfl, hb1⟩
      have hB1 : Below w.heap.size w w1 := bvia (by go_grown) hb1
      have c2 : w1.cell? ⟨w.heap.size + 1 + 1, 0, none⟩ = some (.int .i64 k) := cellIn hb1 (by go_simp)
      go_wp2_with (go_at_call 34; refine (mayBe_any _ _).mono ?_; rintro e w2 ⟨rfl, rfl⟩; rw [hk])
      go_ret2
      exact ⟨ret2_bi HF.out.symm HE.out.symm, hB1⟩
    · obtain ⟨hB0, m0, m60⟩ := cntA_zero hz0
      obtain ⟨hln, n1, n7, hx, f0, ft, tn, _⟩ := cntB_zero hB0
      have HE : Aside (P.fitsE l n f t m k = 0) := by show _ = _; rw [P.fitsE, if_pos hz0, hk]; rfl
      have HF : Aside (P.fitsB l n f t m k = !(P.seg l f.toNat t.toNat).any (fun x => decide (k < x + m))) := by show _ = _; rw [P.fitsB, HE.out]; simp
      obtain ⟨F, rfl⟩ : ∃ F : Nat, f = F := ⟨f.toNat, by omega⟩
      obtain ⟨T, rfl⟩ : ∃ T : Nat, t = T := ⟨t.toNat, by omega⟩
      simp only [Int.toNat_natCast] at HF
      have hFT : F ≤ T := by omega
      have hTl : T ≤ l.length := by omega
      have HX : Aside (∀ x ∈ l, 0 ≤ x ∧ x ≤ 60) := hx
      clear hx hB0 hz0
      go_enter Try.func11, Try.ntmps11
      go_wp2_with fail
      refine (cntAllE_any _ _ l _ _ _ _ _ (SlAt.below RInt.mono hl (by go_grown))).mono ?_
      rintro e w1 ⟨rfl, hb1⟩
      have hB1 : Below w.heap.size w w1 := bvia (by go_grown) hb1
      have c0 : w1.cell? ⟨w.heap.size, 0, none⟩ = some (.int .i64 F) := cellIn hb1 (by go_simp)
      have c1 : w1.cell? ⟨w.heap.size, 1, none⟩ = some (.int .i64 T) := cellIn hb1 (by go_simp)
      have c2 : w1.cell? ⟨w.heap.size + 1, 0, none⟩ = some (.int .i64 m) := cellIn hb1 (by go_simp)
      have c3 : w1.cell? ⟨w.heap.size + 1 + 1, 0, none⟩ = some (.int .i64 k) := cellIn hb1 (by go_simp)
      go_wp2_with (first
        | (go_at_call 34; refine (mayBe_any _ _).mono ?_; rintro e w2 ⟨rfl, rfl⟩; rw [hk])
        | (go_at_call 30; refine (hasLeg_any _ _ l F T 35 #[.pointer (some ⟨w.heap.size + 1, 0, none⟩), .pointer (some ⟨w.heap.size + 1 + 1, 0, none⟩)] (fun x => decide (k < x + m)) _ (SlAt.below RInt.mono hl hB1) hFT hTl (fun args wx => by go_simp) (fun x wx hx hb => by rw [arr3]; exact cntFits1_any x m k _ _ wx (HX.out x hx) ⟨m0, m60⟩ (cellIn hb c2) (cellIn hb c3))).mono ?_; rintro e w3 ⟨rfl, hb3⟩))
      go_ret2
      exact ⟨ret2_bi HF.out.symm HE.out.symm, bvia hB1 hb3⟩
  · have HE : Aside (P.fitsE l n f t m k = P.cntA l n f t m) := by show _ = _; rw [P.fitsE, if_neg (by simpa using hz)]
    have HF : Aside (P.fitsB l n f t m k = false) := by show _ = _; rw [P.fitsB, HE.out]; simp at hz; simp [hz]
    go_enter Try.func11, Try.ntmps11
    go_wp2_with fail
    refine (cntAllE_any _ _ l _ _ _ _ _ (SlAt.below RInt.mono hl (by go_grown))).mono ?_
    rintro e w1 ⟨rfl, hb1⟩
    go_wp2
    go_ret2
    exact ⟨ret2_bi HF.out.symm HE.out.symm, bvia (by go_grown) hb1⟩

/-- The greatest number of the legs from f to ahead of t; the first leg that has it. -/
structure PeakAt (l : List Int) (f t : Nat) (m : Int) (a : Nat) : Prop where
  lo : f ≤ a
  hi : a < t
  is : l.getD a 0 = m
  most : ∀ i, f ≤ i → i < t → l.getD i 0 ≤ m
  first : ∀ i, f ≤ i → i < a → l.getD i 0 < m
theorem PeakAt.one {l : List Int} {f t : Nat} {m m' : Int} {a a' : Nat} (h : PeakAt l f t m a) (h' : PeakAt l f t m' a') : m = m' ∧ a = a' := by
  have h1 := h.most a' h'.lo h'.hi
  have h2 := h'.most a h.lo h.hi
  rw [h'.is] at h1
  rw [h.is] at h2
  have e : m = m' := by omega
  subst e
  refine ⟨rfl, ?_⟩
  rcases Nat.lt_trichotomy a a' with h3 | h3 | h3
  · have := h'.first a h.lo h3
    have := h.is
    omega
  · exact h3
  · have := h.first a' h'.lo h3
    have := h'.is
    omega

theorem seg_getD {l : List Int} {f t i : Nat} (hf : f ≤ t) (ht : t ≤ l.length) (hi : i < t - f) : (P.seg l f t).getD i 0 = l.getD (f + i) 0 := by
  have h1 : f + i < l.length := by omega
  simp [P.seg, List.getD_eq_getElem?_getD, hi]

theorem ret3_iii {a b c a' b' c' : Int} (h1 : a = a') (h2 : b = b') (h3 : c = c') : Ending.returned (.tuple #[.int .i64 a, .int .i64 b, .int .i64 c]) = .returned (.tuple #[.int .i64 a', .int .i64 b', .int .i64 c']) := by rw [h1, h2, h3]

set_option maxHeartbeats 1000000 in
theorem cntPeak_any (ao : Option Addr) (cap : Nat) (l : List Int) (n f t : Int) (w : World) (hl : IntsAt w ao cap l) :
    Calls Try.prog 12 #[.slice ao l.length cap, .int .i64 n, .agg #[.int .i64 f, .int .i64 t]] w fun e w' => ∃ (m : Int) (a : Nat), e = .returned (.tuple #[.int .i64 m, .int .i64 a, .int .i64 (P.cntB l n f t)]) ∧ (P.cntB l n f t ≠ 0 → m = 0 ∧ a = 0) ∧ (P.cntB l n f t = 0 → PeakAt l f.toNat t.toNat m a) ∧ Below w.heap.size w w' := by
  cases hz : (P.cntB l n f t != 0)
  · have hz0 : P.cntB l n f t = 0 := by simpa using hz
    obtain ⟨hln, n1, n7, hx, f0, ft, tn, _⟩ := cntB_zero hz0
    obtain ⟨F, rfl⟩ : ∃ F : Nat, f = F := ⟨f.toNat, by omega⟩
    obtain ⟨T, rfl⟩ : ∃ T : Nat, t = T := ⟨t.toNat, by omega⟩
    have hFT : F ≤ T := by omega
    have hTl : T ≤ l.length := by omega
    have hle := hl.le
    have HZ : Aside (P.cntB l n F T = 0) := hz0
    clear hx hz0
    have hsl := run_mid ao l.length cap F T hFT (by omega)
    go_enter Try.func12, Try.ntmps12
    go_wp2_with fail
    refine (cntBoth_any _ _ l _ _ _ _ (SlAt.below RInt.mono hl (by go_grown))).mono ?_
    rintro e w1 ⟨rfl, hb1⟩
    have hB1 : Below w.heap.size w w1 := bvia (by go_grown) hb1
    have c0 : w1.cell? ⟨w.heap.size, 0, none⟩ = some (.int .i64 F) := cellIn hb1 (by simp)
    have c1 : w1.cell? ⟨w.heap.size, 1, none⟩ = some (.int .i64 T) := cellIn hb1 (by simp)
    have hm := IntsAt.mid (SlAt.below RInt.mono hl hB1) hFT hTl
    have hsn := seg_len hFT hTl
    have hmx := max_any _ _ _ _ hm (by omega)
    rw [hsn] at hmx
    go_wp2_with fail
    refine hmx.mono ?_
    rintro e w2 ⟨m, rfl, hmem, hmost, rfl⟩
    have hix : ∀ (u : World), IntsAt u (midAt ao cap F) (cap - F) (P.seg l F T) → _ := fun u hu => index_any _ _ _ m u hu hmem
    rw [hsn] at hix
    have hi0 := idx_lt hmem
    rw [hsn] at hi0
    have hpk : PeakAt l F T m (F + P.idx (P.seg l F T) m) := by
      have hat := idx_is hmem
      rw [seg_getD hFT hTl hi0] at hat
      have hall : ∀ i, F ≤ i → i < T → l.getD i 0 ≤ m := by
        intro i h1 h2
        have h3 : i - F < (P.seg l F T).length := by omega
        have h4 := hmost _ (List.getElem_mem h3)
        have h5 := seg_getD hFT hTl (i := i - F) (by omega)
        rw [List.getD_eq_getElem?_getD, List.getElem?_eq_getElem h3, show F + (i - F) = i by omega] at h5
        simp only [Option.getD_some] at h5
        omega
      refine ⟨by omega, by omega, hat, hall, fun i h1 h2 => ?_⟩
      have h3 := idx_first (l := P.seg l F T) (m := m) (j := i - F) (by omega)
      rw [seg_getD hFT hTl (by omega), show F + (i - F) = i by omega] at h3
      have := hall i h1 (by omega)
      omega
    have HPK : Aside (PeakAt l F T m (F + P.idx (P.seg l F T) m)) := hpk
    clear hmem hmost hmx hpk
    generalize P.idx (P.seg l F T) m = a at hix hi0 HPK
    have i1 : (a : Int) < 7 := by omega
    have i2 : (F : Int) < 7 := by omega
    go_wp2
    go_quiet ((go_at_call 38; exact Calls.quiet_of_same (hix _ (SlAt.below RInt.mono hm (below_drewN (Below.refl _ _) _)))))
    go_wp2
    go_ret3
    refine ⟨m, F + a, ret3_iii rfl (by simp) HZ.out.symm, fun h => absurd HZ.out h, fun _ => HPK.out, below_drewN hB1 _⟩
  · have HZ : Aside (P.cntB l n f t ≠ 0) := by show _ ≠ _; simpa using hz
    go_enter Try.func12, Try.ntmps12
    go_wp2_with fail
    refine (cntBoth_any _ _ l _ _ _ _ (SlAt.below RInt.mono hl (by go_grown))).mono ?_
    rintro e w1 ⟨rfl, hb1⟩
    go_wp2
    go_ret3
    exact ⟨0, 0, rfl, fun _ => ⟨rfl, rfl⟩, fun h => absurd h HZ.out, bvia (by go_grown) hb1⟩

end Go.Proofs.Ytcifdkggigfnlab
