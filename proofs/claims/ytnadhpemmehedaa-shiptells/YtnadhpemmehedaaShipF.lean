/- Walks of Serves and Order of package ship. -/
import Derived.Test.YtnadhpemmehedaaShipE
namespace Go.Proofs.Ytnadhpemmehedaa
open Go.RowKit Go.Maps Go.WideMaps
set_option linter.unusedSimpArgs false
set_option linter.unusedVariables false

theorem Try.aggRow (w : World) : (isAgg 57).run Try.prog w = .ok true w := by kernel_rfl
theorem Try.aggBool (w : World) : (isAgg 4).run Try.prog w = .ok false w := by kernel_rfl
theorem Try.sizeRow (w : World) : (sizeOf 57).run Try.prog w = .ok 5 w := by kernel_rfl
theorem Try.sizeBool (w : World) : (sizeOf 4).run Try.prog w = .ok 1 w := by kernel_rfl

theorem run_tab1 (T : Tab) (a : Nat) (ha : a < 5) (wx : World) : (Instr.index 67 (.agg (P.row T).toArray) (.int .i64 (a : Int))).run Try.prog wx = .ok (.agg (List.take 5 (List.drop (a * 5) (P.row T))).toArray) wx := by
  have h1 : (a : Int) < 5 := by omega
  simp [Instr.index, asIntOf, run_underlying Try.underlying67, part, Try.aggRow, Try.sizeRow, h1]
  intro h; omega
theorem run_tab2 (T : Tab) (a b : Nat) (ha : a < 5) (hb : b < 5) (wx : World) : (Instr.index 57 (.agg (List.take 5 (List.drop (a * 5) (P.row T))).toArray) (.int .i64 (b : Int))).run Try.prog wx = .ok (.bool (T a b)) wx := by
  have h1 : (b : Int) < 5 := by omega
  have h2 : (List.take 5 (List.drop (a * 5) (P.row T)))[b]? = some (.bool (T a b)) := by
    rw [List.getElem?_take, if_pos hb, List.getElem?_drop]
    have e1 : (a * 5 + b) / 5 = a := by omega
    have e2 : (a * 5 + b) % 5 = b := by omega
    have hlt : a * 5 + b < 25 := by omega
    simp [P.row, hlt, e1, e2]
  simp [Instr.index, asIntOf, run_underlying Try.underlying57, part, Try.aggBool, Try.sizeBool, h1, h2, hb]

def P.servesE (legs souls : Int) (cs : List Cat) (bs : List Cab) (a b : Int) : Int :=
  if P.shipE legs souls cs bs = 0 then (if (P.btw a 0 (cs.length - 1) && P.btw b 0 (cs.length - 1)) = true then 0 else 3) else P.shipE legs souls cs bs
def P.serves (cs : List Cat) (a b : Int) : Bool := P.war (P.base cs) cs.length a.toNat b.toNat
def P.servesB (legs souls : Int) (cs : List Cat) (bs : List Cab) (a b : Int) : Bool := decide (P.servesE legs souls cs bs a b = 0) && P.serves cs a b

theorem ship_ok {legs souls : Int} {cs : List Cat} {bs : List Cab} (h : P.shipE legs souls cs bs = 0) : 1 ≤ cs.length ∧ cs.length ≤ 5 ∧ (∀ c ∈ cs, P.high cs.length [] c.2 = 0) ∧ P.circle cs = false ∧ bs.length ≤ 12 := by
  unfold P.shipE at h
  split at h
  · rename_i h1
    have hz := size_ok h1
    split at h
    · rename_i h2
      split at h
      · omega
      · rename_i h3
        exact ⟨hz.2.2.2.2.1, hz.2.2.2.2.2.1, cats_ok h2, by simpa using h3, hz.2.2.2.2.2.2.2⟩
    · contradiction
  · contradiction

set_option maxHeartbeats 1000000 in
theorem serves_any (legs souls : Int) (cao bao : Option Addr) (cc bc : Nat) (cs : List Cat) (bs : List Cab) (a b : Int) (w : World) (hs : ShipAt w cao bao cc bc cs bs) :
    Calls Try.prog 24 #[.agg #[.int .i64 legs, .int .i64 souls, .slice cao cs.length cc, .slice bao bs.length bc], .int .i64 a, .int .i64 b] w fun e w' => e = .returned (.tuple #[.bool (P.servesB legs souls cs bs a b), .int .i64 (P.servesE legs souls cs bs a b)]) ∧ Below w.heap.size w w' := by
  cases h1 : (P.shipE legs souls cs bs != 0)
  · have h1' : P.shipE legs souls cs bs = 0 := by simpa using h1
    obtain ⟨hc1, hc5, hok, _, _⟩ := ship_ok h1'
    have HO : Aside (∀ c ∈ cs, ∀ h ∈ c.2, 0 ≤ h ∧ h < cs.length) := fun c hc h hx => by have := high_ok (hok c hc) h hx; omega
    have HE : Aside (P.servesE legs souls cs bs a b = (if (P.btw a 0 (cs.length - 1) && P.btw b 0 (cs.length - 1)) = true then 0 else 3)) := by show _ = _; rw [P.servesE, if_pos h1']
    clear h1' hok
    cases h2 : P.btw a 0 (cs.length - 1)
    · have HF : Aside (P.servesE legs souls cs bs a b = 3) := by have := HE.out; rw [h2] at this; exact this
      have HB : Aside (P.servesB legs souls cs bs a b = false) := by show _ = _; rw [P.servesB, HF.out]; rfl
      clear HE
      go_enter Try.func24, Try.ntmps24
      go_wp2_with (first
        | (go_at_call 28; refine (shipCheck_any _ _ _ _ _ _ cs bs _ (hs.below (by go_grown))).mono ?_; rintro e w1 ⟨rfl, hbb1⟩; obtain ⟨hcc1, _⟩ := bcell hbb1; have hw1 : Below w.heap.size w w1 := bvia (by go_grown) hbb1)
        | (go_at_call 42; refine (within_any _ _ _ _).mono ?_; rintro e w2 ⟨rfl, rfl⟩; rw [h2]))
      go_ret2
      exact ⟨by rw [HB.out, HF.out]; rfl, hw1⟩
    · cases h3 : P.btw b 0 (cs.length - 1)
      · have HF : Aside (P.servesE legs souls cs bs a b = 3) := by have := HE.out; rw [h2, h3] at this; exact this
        have HB : Aside (P.servesB legs souls cs bs a b = false) := by show _ = _; rw [P.servesB, HF.out]; rfl
        clear HE
        go_enter Try.func24, Try.ntmps24
        go_wp2_with (first
          | (go_at_call 28; refine (shipCheck_any _ _ _ _ _ _ cs bs _ (hs.below (by go_grown))).mono ?_; rintro e w1 ⟨rfl, hbb1⟩; obtain ⟨hcc1, _⟩ := bcell hbb1; have hw1 : Below w.heap.size w w1 := bvia (by go_grown) hbb1)
          | (go_at_call 42; refine (within_any _ _ _ _).mono ?_; rintro e w2 ⟨rfl, rfl⟩; first | rw [h2] | rw [h3]))
        go_ret2
        exact ⟨by rw [HB.out, HF.out]; rfl, hw1⟩
      · obtain ⟨A, rfl⟩ : ∃ A : Nat, a = A := ⟨a.toNat, by simp [P.btw] at h2; omega⟩
        obtain ⟨B, rfl⟩ : ∃ B : Nat, b = B := ⟨b.toNat, by simp [P.btw] at h3; omega⟩
        have hA : A < cs.length := by simp [P.btw] at h2; omega
        have hB' : B < cs.length := by simp [P.btw] at h3; omega
        have HF : Aside (P.servesE legs souls cs bs A B = 0) := by have := HE.out; rw [h2, h3] at this; exact this
        have HB : Aside (P.servesB legs souls cs bs A B = P.war (P.base cs) cs.length A B) := by show _ = _; rw [P.servesB, HF.out, P.serves]; simp
        clear HE
        have hx1 := run_tab1 (P.war (P.base cs) cs.length) A (by omega)
        have hx2 := run_tab2 (P.war (P.base cs) cs.length) A B (by omega) (by omega)
        go_enter Try.func24, Try.ntmps24
        go_wp2_with (first
          | (go_at_call 28; refine (shipCheck_any _ _ _ _ _ _ cs bs _ (hs.below (by go_grown))).mono ?_; rintro e w1 ⟨rfl, hbb1⟩; obtain ⟨hcc1, _⟩ := bcell hbb1; have hw1 : Below w.heap.size w w1 := bvia (by go_grown) hbb1)
          | (go_at_call 42; refine (within_any _ _ _ _).mono ?_; rintro e w2 ⟨rfl, rfl⟩; first | rw [h2] | rw [h3])
          | (go_at_call 43; refine (whoServes_any _ _ cs _ (hs.below hw1).cats hc5 HO.out).mono ?_; rintro e w3 ⟨rfl, hbb3⟩))
        go_ret2
        exact ⟨by rw [HB.out, HF.out]; rfl, bvia hw1 hbb3⟩
  · have HF : Aside (P.servesE legs souls cs bs a b = P.shipE legs souls cs bs) := by show _ = _; rw [P.servesE, if_neg (by simpa using h1)]
    have HB : Aside (P.servesB legs souls cs bs a b = false) := by show _ = _; rw [P.servesB, HF.out, decide_eq_false (by simpa using h1)]; rfl
    go_enter Try.func24, Try.ntmps24
    go_wp2_with (go_at_call 28; refine (shipCheck_any _ _ _ _ _ _ cs bs _ (hs.below (by go_grown))).mono ?_; rintro e w1 ⟨rfl, hbb1⟩)
    go_ret2
    exact ⟨by rw [HB.out, HF.out]; rfl, bvia (by go_grown) hbb1⟩

end Go.Proofs.Ytnadhpemmehedaa
