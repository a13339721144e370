import Derived.Test.YtlamhfbdeinkkaeGreatFoBt
set_option maxRecDepth 10000
/- Walks of CancelOf, folioIs. -/
namespace Go.Proofs.YtlamhfbdeinkkaeGreat.Fo
open Go.RowKit
set_option linter.unusedSimpArgs false
set_option linter.unusedVariables false

theorem fares_two (l : List Ent) : P.ftot (P.ofKind 1) l + P.ftot (P.ofKind 4) l = P.ftot P.isFare l := by
  induction l with
  | nil => rfl
  | cons x r ih =>
    rw [P.ftot, P.ftot, P.ftot, ← ih]
    by_cases h1 : x.2.1 = 1
    · simp [P.ofKind, P.isFare, h1]; omega
    · by_cases h4 : x.2.1 = 4
      · simp [P.ofKind, P.isFare, h4]; omega
      · simp [P.ofKind, P.isFare, h1, h4]

/-- What the reference lays behind all, step by step. -/
theorem come_steps (l : List Ent) (day pen F S : Int) (hF : P.ftot P.isFare l = F) (hS : P.ftot P.all l - F + pen = S) :
    P.come l day pen = (if F = 0 then [] else [(day, 4, -F)]) ++ (if pen = 0 then [] else [(day, 3, pen)]) ++ (if S < 0 then [(day, 4, -S)] else []) := by
  unfold P.come P.worth
  rw [hF, hS]
  by_cases h1 : F = 0 <;> by_cases h2 : pen = 0 <;> by_cases h3 : S < 0
  all_goals
    have h4 : max 0 (-S) = if S < 0 then -S else 0 := by split <;> omega
    have h5 : S < 0 → S ≠ 0 := fun h => by omega
    simp_all

set_option maxHeartbeats 8000000 in
theorem cancelOf_any (ao : Option Addr) (cap : Nat) (l : List Ent) (day pen : Int) (w : World) (hl : EntsAt w ao cap l) (hz : P.folE l = 0) (hp0 : 0 ≤ pen) (hp1 : pen ≤ 100000000) :
    Calls Tryz.prog 134 #[.slice ao l.length cap, .int .i64 day, .int .i64 pen] w fun e w' => ∃ v, e = .returned (.tuple #[v, .int .i64 (P.folE (l ++ P.come l day pen))]) ∧ OwnN w' w.heap.size v (P.plus l (P.come l day pen)) ∧ Below w.heap.size w w' := by
  have hle := hl.le
  have hmx := hl.max
  unfold maxLen at hmx
  have h12 := folE_len hz
  have HA : Aside (∀ x ∈ l, -100000000 ≤ x.2.2 ∧ x.2.2 ≤ 100000000) := folE_amt hz
  have b1 := ftot_12 (P.ofKind 1) HA.out h12
  have b4 := ftot_12 (P.ofKind 4) HA.out h12
  have bT := ftot_12 P.all HA.out h12
  obtain ⟨a1, ha1⟩ : ∃ a, P.ftot (P.ofKind 1) l = a := ⟨_, rfl⟩
  obtain ⟨a4, ha4⟩ : ∃ a, P.ftot (P.ofKind 4) l = a := ⟨_, rfl⟩
  have hF : P.ftot P.isFare l = a1 + a4 := by rw [← fares_two, ha1, ha4]
  obtain ⟨S, hS⟩ : ∃ S, P.ftot P.all l - (a1 + a4) + pen = S := ⟨_, rfl⟩
  have hcome := come_steps l day pen _ _ hF hS
  have HS1 : Aside (∀ wx, EntsAt wx ao cap l → Calls Tryz.prog 79 #[.slice ao l.length cap, .int .i64 1] wx fun e w' => e = .returned (.int .i64 a1) ∧ Below wx.heap.size wx w') := fun wx hx => by
    rw [← ha1]; exact sumOf_any ao cap l 1 wx hx (by omega) (fun x hx => by have := HA.out x hx; omega)
  have HS4 : Aside (∀ wx, EntsAt wx ao cap l → Calls Tryz.prog 79 #[.slice ao l.length cap, .int .i64 4] wx fun e w' => e = .returned (.int .i64 a4) ∧ Below wx.heap.size wx w') := fun wx hx => by
    rw [← ha4]; exact sumOf_any ao cap l 4 wx hx (by omega) (fun x hx => by have := HA.out x hx; omega)
  obtain ⟨X1, hX1⟩ : ∃ X, X = l ++ (if a1 + a4 = 0 then [] else [((day, 4, -(a1 + a4)) : Ent)]) := ⟨_, rfl⟩
  obtain ⟨X2, hX2⟩ : ∃ X, X = X1 ++ (if pen = 0 then [] else [((day, 3, pen) : Ent)]) := ⟨_, rfl⟩
  obtain ⟨X3, hX3⟩ : ∃ X, X = X2 ++ (if S < 0 then [((day, 4, -S) : Ent)] else []) := ⟨_, rfl⟩
  have HX : Aside (l ++ P.come l day pen = X3) := by show _ = _; rw [hcome, hX3, hX2, hX1]; simp
  have hn1 : X1.length ≤ 13 := by rw [hX1, List.length_append]; split <;> simp <;> omega
  have hn2 : X2.length ≤ 14 := by rw [hX2, List.length_append]; split <;> simp <;> omega
  have HA2 : ∀ x ∈ X2, -10000000000 ≤ x.2.2 ∧ x.2.2 ≤ 10000000000 := by
    rw [ha1] at b1
    rw [ha4] at b4
    intro x hx
    rw [hX2, hX1] at hx
    simp only [List.mem_append] at hx
    rcases hx with (hx | hx) | hx
    · have := HA.out x hx; omega
    · split at hx
      · simp at hx
      · simp at hx; subst hx; simp; omega
    · split at hx
      · simp at hx
      · simp at hx; subst hx; simp; omega
  have hT2 : P.ftot (P.ofKind 0) X2 = S := by
    rw [ofKind_zero, hX2, hX1, ftot_append, ftot_append, ← hS]
    split <;> split <;> simp_all [P.ftot] <;> omega
  have HS0 : Aside (∀ wx bo bc, EntsAt wx bo bc X2 → Calls Tryz.prog 79 #[.slice bo X2.length bc, .int .i64 0] wx fun e w' => e = .returned (.int .i64 S) ∧ Below wx.heap.size wx w') := fun wx bo bc hx => by
    rw [← hT2]; exact sumOf_any bo bc X2 0 wx hx (by omega) HA2
  rw [ha1] at b1
  rw [ha4] at b4
  have bS : -10000000000 ≤ S ∧ S ≤ 10000000000 := by omega
  clear HA2 hT2 hcome hF ha1 ha4
  rw [P.plus, HX.out]
  have HX1 : Aside (X1 = l ++ (if a1 + a4 = 0 then [] else [((day, 4, -(a1 + a4)) : Ent)])) := hX1
  have HX2 : Aside (X2 = X1 ++ (if pen = 0 then [] else [((day, 3, pen) : Ent)])) := hX2
  have HX3 : Aside (X3 = X2 ++ (if S < 0 then [((day, 4, -S) : Ent)] else [])) := hX3
  clear hX1 hX2 hX3 hS
  obtain ⟨V, hV⟩ : ∃ V, V = (if P.folE X3 = 0 then X3 else []) := ⟨_, rfl⟩
  rw [← hV]
  have HV : Aside (V = if P.folE X3 = 0 then X3 else []) := hV
  clear hV
  have hown : OwnN (w.alloc (.cells #[] 59)) w.heap.size (.slice (some ⟨w.heap.size, 0, none⟩) 0 0) [] := OwnC.empty w _ (Nat.le_refl _)
  have hB : Below w.heap.size w (w.alloc (.cells #[] 59)) := by go_grown
  have HC1 : Aside (a1 + a4 = 0 → l = X1) := fun h => by rw [HX1.out, if_pos h, List.append_nil]
  have HC2 : Aside (pen = 0 → X1 = X2) := fun h => by rw [HX2.out, if_pos h, List.append_nil]
  have HC3 : Aside (¬ S < 0 → X2 = X3) := fun h => by rw [HX3.out, if_neg h, List.append_nil]
  have HN1 : Aside (¬ a1 + a4 = 0 → l ++ [(day, 4, -(a1 + a4))] = X1) := fun h => by rw [HX1.out, if_neg h]
  have HN2 : Aside (¬ pen = 0 → X1 ++ [(day, 3, pen)] = X2) := fun h => by rw [HX2.out, if_neg h]
  have HN3 : Aside (S < 0 → X2 ++ [(day, 4, -S)] = X3) := fun h => by rw [HX3.out, if_pos h]
  go_enter Tryz.func134, Tryz.ntmps134
  go_wp2_with (first
    | (at_builtin; refine wpList_app_ents rfl (.tmp 11) (.tmp 12) rfl w.heap.size _ [] ao cap l rfl hown rfl (SlAt.below REnt.mono hl hB) hB.size (by simp) (by omega) ?_; intro v1 w1 h1 hgr; replace hB := OwnC.grown (cells := cellsN) (l := []) hB hown (Nat.le_refl _) hgr; replace hown : OwnN w1 w.heap.size v1 l := h1; clear hgr h1)
    | fail)
  refine Calls.mono (HS1.out _ (SlAt.below REnt.mono hl hB)) ?_
  rintro e w2 ⟨rfl, hb⟩
  replace hown := OwnC.below hown hb
  replace hB := bvia hB hb
  clear hb
  go_wp2_with fail
  refine Calls.mono (HS4.out _ (SlAt.below REnt.mono hl hB)) ?_
  rintro e w3 ⟨rfl, hb⟩
  replace hown := OwnC.below hown hb
  replace hB := bvia hB hb
  clear hb
  by_cases hf : a1 + a4 = 0 <;> by_cases hp : pen = 0
  all_goals
    have HH : Aside (_ ∧ _) := ⟨hf, hp⟩
    first | (have hf2 : (a1 + a4 == 0) = false := by simpa using hf; clear hf) | skip
    first | (have hp2 : (pen == 0) = false := by simpa using hp; clear hp) | skip
    first | rw [HC1.out HH.out.1] at hown | skip
    go_wp2_with (first
      | (at_builtin; refine wpList_app_ent rfl (.tmp 21) (.tmp 26) rfl w.heap.size _ l day 4 (-(a1 + a4)) rfl hown _ rfl rfl hB.size (by omega) ?_; intro v4 w4 h4 hgr; replace hB := OwnC.grown hB hown (Nat.le_refl _) hgr; replace hown : OwnN w4 w.heap.size v4 X1 := (by rw [← HN1.out HH.out.1]; exact h4); clear hgr h4)
      | (at_builtin; refine wpList_app_ent rfl (.tmp 30) (.tmp 34) rfl w.heap.size _ X1 day 3 pen rfl hown _ rfl rfl hB.size (by omega) ?_; intro v5 w5 h5 hgr; replace hB := OwnC.grown hB hown (Nat.le_refl _) hgr; replace hown : OwnN w5 w.heap.size v5 X2 := (by rw [← HN2.out HH.out.2]; exact h5); clear hgr h5)
      | fail)
    first | rw [HC2.out HH.out.2] at hown | skip
    obtain ⟨ao6, cap6, rfl, s6⟩ := OwnN.at hown
    refine Calls.mono (HS0.out _ _ _ s6) ?_
    rintro e w6 ⟨rfl, hb⟩
    replace hown := OwnC.below hown hb
    replace hB := bvia hB hb
    clear hb s6
    by_cases hn : S < 0
    · go_wp2_with (first
        | (at_builtin; refine wpList_app_ent rfl (.tmp 40) (.tmp 45) rfl w.heap.size _ X2 day 4 (-S) rfl hown _ rfl rfl hB.size (by omega) ?_; intro v7 w7 h7 hgr; replace hB := OwnC.grown hB hown (Nat.le_refl _) hgr; replace hown : OwnN w7 w.heap.size v7 X3 := (by rw [← HN3.out hn]; exact h7); clear hgr h7)
        | fail)
      obtain ⟨ao8, cap8, rfl, s8⟩ := OwnN.at hown
      refine (checkFolio_any _ _ X3 _ s8).mono ?_
      rintro e w9 ⟨rfl, hb⟩
      have HO : Aside (OwnN w9 w.heap.size (.slice ao8 X3.length cap8) X3) := OwnC.below hown hb
      replace hB := bvia hB hb
      clear hb s8 hown
      by_cases he : P.folE X3 = 0
      · have hV := HV.out
        rw [if_pos he] at hV
        rw [he]
        go_wp2
        go_ret2
        exact ⟨_, ret2_int he.symm, by rw [hV]; exact HO.out, hB⟩
      · have he2 : (P.folE X3 == 0) = false := by simpa using he
        have hV := HV.out
        rw [if_neg he] at hV
        go_wp2
        go_ret2
        exact ⟨_, rfl, by rw [hV]; exact OwnC.nil _ _, hB⟩
    · have hX23 : X2 = X3 := HC3.out (by omega)
      rw [hX23] at hown
      go_wp2_with fail
      have HO0 : OwnN w6 w.heap.size _ X3 := hown
      obtain ⟨ao8, cap8, hv8, s8⟩ := OwnN.at hown
      rw [hv8] at HO0
      rw [hv8]
      refine (checkFolio_any _ _ X3 _ s8).mono ?_
      rintro e w9 ⟨rfl, hb⟩
      have HO : Aside (OwnN w9 w.heap.size (.slice ao8 X3.length cap8) X3) := OwnC.below HO0 hb
      replace hB := bvia hB hb
      clear hb s8 hown HO0 hv8
      by_cases he : P.folE X3 = 0
      · have hV := HV.out
        rw [if_pos he] at hV
        rw [he]
        go_wp2
        go_ret2
        exact ⟨_, ret2_int he.symm, by rw [hV]; exact HO.out, hB⟩
      · have he2 : (P.folE X3 == 0) = false := by simpa using he
        have hV := HV.out
        rw [if_neg he] at hV
        go_wp2
        go_ret2
        exact ⟨_, rfl, by rw [hV]; exact OwnC.nil _ _, hB⟩

end Go.Proofs.YtlamhfbdeinkkaeGreat.Fo
