/- Walks of with, Add, Cancel. -/
import Derived.Test.YtagjlckmemmflacFolE
namespace Go.Proofs.Ytagjlckmemmflac
open Go.RowKit
set_option linter.unusedSimpArgs false
set_option linter.unusedVariables false

/-- The sum of the entries that count, plainly. -/
def P.ftot (p : Ent → Bool) : List Ent → Int
  | [] => 0
  | x :: r => (if p x = true then x.2.2 else 0) + P.ftot p r
theorem sums_ftot (p : Ent → Bool) : ∀ (l : List Ent) (s : Int), (P.sumsL p s l).foldl (fun _ x => x) s = s + P.ftot p l := by
  intro l
  induction l with
  | nil => intro s; simp [P.sumsL, P.ftot]
  | cons x r ih =>
    intro s
    rw [P.sumsL, P.ftot]
    split
    · rw [List.foldl_cons, ih]; omega
    · rw [ih]; omega
theorem sumL_ftot (p : Ent → Bool) (l : List Ent) : P.sumL p l = P.ftot p l := by
  have := sums_ftot p l 0
  rw [P.sumL, P.last, this]; omega
theorem ftot_append (p : Ent → Bool) (a b : List Ent) : P.ftot p (a ++ b) = P.ftot p a + P.ftot p b := by
  induction a with
  | nil => simp [P.ftot]
  | cons x r ih => rw [List.cons_append, P.ftot, P.ftot, ih]; omega
theorem ftot_bound (p : Ent → Bool) : ∀ (l : List Ent), (∀ x ∈ l, -100000000 ≤ x.2.2 ∧ x.2.2 ≤ 100000000) → -100000000 * (l.length : Int) ≤ P.ftot p l ∧ P.ftot p l ≤ 100000000 * (l.length : Int) := by
  intro l
  induction l with
  | nil => intro _; simp [P.ftot]
  | cons x r ih =>
    intro h
    have h1 := h x (by simp)
    have h2 := ih (fun y hy => h y (by simp [hy]))
    rw [P.ftot, List.length_cons]
    split <;> omega
theorem ftot_12 (p : Ent → Bool) {l : List Ent} (h : ∀ x ∈ l, -100000000 ≤ x.2.2 ∧ x.2.2 ≤ 100000000) (h12 : l.length ≤ 12) : -1200000000 ≤ P.ftot p l ∧ P.ftot p l ≤ 1200000000 := by
  have := ftot_bound p l h
  omega

/-- What 'with' hands back. -/
def P.plus (l c : List Ent) : List Ent := if P.folE (l ++ c) = 0 then l ++ c else []

set_option maxHeartbeats 1000000 in
theorem with_any' (ao : Option Addr) (cap : Nat) (l : List Ent) (bo : Option Addr) (bc : Nat) (c : List Ent) (w : World) (hl : EntsAt w ao cap l) (hc : EntsAt w bo bc c) (h12 : l.length ≤ 12) (h13 : c.length ≤ 12) :
    Calls Try.prog 44 #[.slice ao l.length cap, .slice bo c.length bc] w fun e w' => ∃ v, e = .returned (.tuple #[v, .int .i64 (P.folE (l ++ c))]) ∧ OwnN w' w.heap.size v (P.plus l c) ∧ Below w.heap.size w w' := by
  have hle := hl.le
  have hmx := hl.max
  unfold maxLen at hmx
  have hle2 := hc.le
  have hmx2 := hc.max
  unfold maxLen at hmx2
  obtain ⟨i0, hi, hi0, hi1, hi2⟩ := info_parts Try.infoEntry
  obtain ⟨L, hL⟩ : ∃ L, l ++ c = L := ⟨_, rfl⟩
  rw [hL]
  have HL : Aside (l ++ c = L) := hL
  clear hL
  go_enter Try.func44, Try.ntmps44
  have HN : Aside (∀ w', w.grownBy w' none → Below w.heap.size w w') := fun w' hg => (Below.refl _ w).grown hg (Nat.le_refl _) (fun j hj => by cases hj)
  go_wp2_with (first
    | (at_make; refine wpList_make_own _ rfl _ _ 42 rfl w.heap.size 44 i0 _ 3 Try.underlying42 hi hi0 hi1 .i64 .i64 _ (l.length + c.length) rfl rfl (by first | rfl | (simp; omega) | omega) (by rw [hi2]; omega) (by unfold maxLen; omega) (Nat.le_refl _) ?_; intro w0 hown0 hgrow0; have hB0 := HN.out _ hgrow0; have hl0 := SlAt.below REnt.mono hl hB0; have hc0 := SlAt.below REnt.mono hc hB0; have hs0 := hB0.size; clear hgrow0)
    | (at_builtin; refine wpList_app_ents rfl (.tmp 14) (.tmp 15) rfl w.heap.size _ [] ao cap l rfl hown0 rfl hl0 hs0 (by simp) (by omega) ?_; intro v1 w1 hown1 hgr1; have hB1 := OwnC.grown (cells := cellsN) (l := []) hB0 hown0 (Nat.le_refl _) hgr1; have hc1 := SlAt.below REnt.mono hc hB1; have hs1 := hB1.size; clear hgr1)
    | (at_builtin; refine wpList_app_ents rfl (.tmp 17) (.tmp 18) rfl w.heap.size _ l bo bc c rfl hown1 rfl hc1 hs1 (by omega) (by omega) ?_; intro v2 w2 hown2 hgr2; have hB2 := OwnC.grown hB1 hown1 (Nat.le_refl _) hgr2; rw [HL.out] at hown2; obtain ⟨ao2, cap2, rfl, hl2⟩ := hown2.at; clear hgr2)
    | fail)
  refine (folCheck_any _ _ _ _ hl2).mono ?_
  rintro e w3 ⟨rfl, hb3⟩
  have hown3 := OwnC.below hown2 hb3
  have HO : Aside (OwnN w3 w.heap.size (.slice ao2 L.length cap2) L) := hown3
  clear hown0 hown1 hown2 hown3 hl0 hc0 hc1 hl2
  by_cases he : P.folE L = 0
  · rw [he]
    go_wp2
    go_ret2
    exact ⟨_, ret2_int he.symm, by rw [P.plus, HL.out, if_pos he]; exact HO.out, bvia hB2 hb3⟩
  · have he2 : (P.folE L == 0) = false := by simpa using he
    go_wp2
    go_ret2
    exact ⟨_, rfl, by rw [P.plus, HL.out, if_neg he]; exact OwnC.nil _ _, bvia hB2 hb3⟩

/-- One entry in a block of its own. -/
theorem ents_one {w : World} {b : Nat} (d k m : Int) (hb : w.heap[b]? = some (.cells #[.int .i64 d, .int .i64 k, .int .i64 m] 44 (0, 0))) : EntsAt w (some ⟨b, 0, none⟩) 1 [(d, k, m)] :=
  SlAt.ofBlock (l := [((d, k, m) : Ent)]) [[.int .i64 d, .int .i64 k, .int .i64 m]] hb rfl rfl (fun i hi => by
    obtain rfl : i = 0 := by simp at hi; omega
    exact ⟨_, rfl, rfl⟩) (by simp) (by simp [maxLen])

def P.addE (l : List Ent) (x : Ent) : Int := if P.folE l = 0 then P.folE (l ++ [x]) else P.folE l
def P.add (l : List Ent) (x : Ent) : List Ent := if P.folE l = 0 then P.plus l [x] else []

set_option maxHeartbeats 1000000 in
theorem add_any (ao : Option Addr) (cap : Nat) (l : List Ent) (d k m : Int) (w : World) (hl : EntsAt w ao cap l) :
    Calls Try.prog 20 #[.slice ao l.length cap, .agg #[.int .i64 d, .int .i64 k, .int .i64 m]] w fun e w' => ∃ v, e = .returned (.tuple #[v, .int .i64 (P.addE l (d, k, m))]) ∧ OwnN w' w.heap.size v (P.add l (d, k, m)) ∧ Below w.heap.size w w' := by
  by_cases he : P.folE l = 0
  · have HE : Aside (P.addE l (d, k, m) = P.folE (l ++ [(d, k, m)])) := by show _ = _; rw [P.addE, if_pos he]
    have HV : Aside (P.add l (d, k, m) = P.plus l [(d, k, m)]) := by show _ = _; rw [P.add, if_pos he]
    have h12 := folE_len he
    go_enter Try.func20, Try.ntmps20
    go_wp2_with fail
    refine (folCheck_any ao cap l _ (SlAt.below REnt.mono hl (by go_grown))).mono ?_
    rintro e w1 ⟨rfl, hb1⟩
    have k0 : w1.cell? ⟨w.heap.size, 0, none⟩ = some (.int .i64 d) := cellIn hb1 (by simp)
    have k1 : w1.cell? ⟨w.heap.size, 1, none⟩ = some (.int .i64 k) := cellIn hb1 (by simp)
    have k2 : w1.cell? ⟨w.heap.size, 2, none⟩ = some (.int .i64 m) := cellIn hb1 (by simp)
    have hB1 : Below w.heap.size w w1 := bvia (by go_grown) hb1
    clear hb1
    rw [he]
    go_wp2_with fail
    refine (with_any' ao cap l _ 1 [(d, k, m)] _ (SlAt.below REnt.mono hl (bvia hB1 (by go_grown))) (ents_one d k m (heap_alloc_new _ _)) h12 (by simp)).mono ?_
    rintro e w2 ⟨v, rfl, hown, hb2⟩
    have hb2' : Below w.heap.size w w2 := bvia (bvia hB1 (by go_grown)) hb2
    have HO : Aside (OwnN w2 w.heap.size v (P.plus l [(d, k, m)])) := by
      refine ⟨hown.1, hown.2.imp id ?_⟩
      rintro ⟨g, c, cur, h1, h2, h3⟩
      have := hB1.size
      exact ⟨g, c, cur, h1, by simp at h2; omega, h3⟩
    clear hown
    go_wp2
    go_ret2
    exact ⟨_, ret2_int HE.out.symm, by rw [HV.out]; exact HO.out, hb2'⟩
  · have he2 : (P.folE l == 0) = false := by simpa using he
    have HE : Aside (P.addE l (d, k, m) = P.folE l) := by show _ = _; rw [P.addE, if_neg he]
    have HV : Aside (P.add l (d, k, m) = []) := by show _ = _; rw [P.add, if_neg he]
    go_enter Try.func20, Try.ntmps20
    go_wp2_with fail
    refine (folCheck_any ao cap l _ (SlAt.below REnt.mono hl (by go_grown))).mono ?_
    rintro e w1 ⟨rfl, hb1⟩
    have hB1 : Below w.heap.size w w1 := bvia (by go_grown) hb1
    clear hb1
    go_wp2
    go_ret2
    exact ⟨_, ret2_int HE.out.symm, by rw [HV.out]; exact OwnC.nil _ _, hB1⟩

end Go.Proofs.Ytagjlckmemmflac
