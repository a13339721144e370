import Derived.Test.YtlamhfbdeinkkaeGreatFoBo
import Derived.Test.YtlamhfbdeinkkaeGreatChRo
import Derived.Test.YtlamhfbdeinkkaeGreatTwAo
import Derived.Deep.RegionHeld3
set_option maxRecDepth 10000
/- Walks of CancelOf, folioIs. -/
namespace Go.Proofs.YtlamhfbdeinkkaeGreat.Fo
open Go.RowKit
set_option linter.unusedSimpArgs false
set_option linter.unusedVariables false

theorem fares_two (l : List Ent) : P.ftot (P.ofKind 1) l + P.ftot (P.ofKind 4) l = P.ftot P.isFare l := by
  induction l with
  | nil => rfl
  | cons x r ih =>
    rw [P.ftot, P.ftot, P.ftot, ← ih]
    by_cases h1 : x.2.1 = 1
    · simp [P.ofKind, P.isFare, h1]; omega
    · by_cases h4 : x.2.1 = 4
      · simp [P.ofKind, P.isFare, h4]; omega
      · simp [P.ofKind, P.isFare, h1, h4]

/-- What the reference lays behind all, step by step. -/
theorem come_steps (l : List Ent) (day pen F S : Int) (hF : P.ftot P.isFare l = F) (hS : P.ftot P.all l - F + pen = S) :
    P.come l day pen = (if F = 0 then [] else [(day, 4, -F)]) ++ (if pen = 0 then [] else [(day, 3, pen)]) ++ (if S < 0 then [(day, 4, -S)] else []) := by
  unfold P.come P.worth
  rw [hF, hS]
  by_cases h1 : F = 0 <;> by_cases h2 : pen = 0 <;> by_cases h3 : S < 0
  all_goals
    have h4 : max 0 (-S) = if S < 0 then -S else 0 := by split <;> omega
    have h5 : S < 0 → S ≠ 0 := fun h => by omega
    simp_all

set_option maxHeartbeats 8000000 in
theorem cancelOf_any (ao : Option Addr) (cap : Nat) (l : List Ent) (day pen : Int) (w : World) (hl : EntsAt w ao cap l) (hz : P.folE l = 0) (hp0 : 0 ≤ pen) (hp1 : pen ≤ 100000000) :
    Calls Tryz.prog 134 #[.slice ao l.length cap, .int .i64 day, .int .i64 pen] w fun e w' => ∃ v, e = .returned (.tuple #[v, .int .i64 (P.folE (l ++ P.come l day pen))]) ∧ OwnN w' w.heap.size v (P.plus l (P.come l day pen)) ∧ Below w.heap.size w w' := by
  have hle := hl.le
  have hmx := hl.max
  unfold maxLen at hmx
  have h12 := folE_len hz
  have HA : Aside (∀ x ∈ l, -100000000 ≤ x.2.2 ∧ x.2.2 ≤ 100000000) := folE_amt hz
  have b1 := ftot_12 (P.ofKind 1) HA.out h12
  have b4 := ftot_12 (P.ofKind 4) HA.out h12
  have bT := ftot_12 P.all HA.out h12
  obtain ⟨a1, ha1⟩ : ∃ a, P.ftot (P.ofKind 1) l = a := ⟨_, rfl⟩
  obtain ⟨a4, ha4⟩ : ∃ a, P.ftot (P.ofKind 4) l = a := ⟨_, rfl⟩
  have hF : P.ftot P.isFare l = a1 + a4 := by rw [← fares_two, ha1, ha4]
  obtain ⟨S, hS⟩ : ∃ S, P.ftot P.all l - (a1 + a4) + pen = S := ⟨_, rfl⟩
  have hcome := come_steps l day pen _ _ hF hS
  have HS1 : Aside (∀ wx, EntsAt wx ao cap l → Calls Tryz.prog 79 #[.slice ao l.length cap, .int .i64 1] wx fun e w' => e = .returned (.int .i64 a1) ∧ Below wx.heap.size wx w') := fun wx hx => by
    rw [← ha1]; exact sumOf_any ao cap l 1 wx hx (by omega) (fun x hx => by have := HA.out x hx; omega)
  have HS4 : Aside (∀ wx, EntsAt wx ao cap l → Calls Tryz.prog 79 #[.slice ao l.length cap, .int .i64 4] wx fun e w' => e = .returned (.int .i64 a4) ∧ Below wx.heap.size wx w') := fun wx hx => by
    rw [← ha4]; exact sumOf_any ao cap l 4 wx hx (by omega) (fun x hx => by have := HA.out x hx; omega)
  obtain ⟨X1, hX1⟩ : ∃ X, X = l ++ (if a1 + a4 = 0 then [] else [((day, 4, -(a1 + a4)) : Ent)]) := ⟨_, rfl⟩
  obtain ⟨X2, hX2⟩ : ∃ X, X = X1 ++ (if pen = 0 then [] else [((day, 3, pen) : Ent)]) := ⟨_, rfl⟩
  obtain ⟨X3, hX3⟩ : ∃ X, X = X2 ++ (if S < 0 then [((day, 4, -S) : Ent)] else []) := ⟨_, rfl⟩
  have HX : Aside (l ++ P.come l day pen = X3) := by show _ = _; rw [hcome, hX3, hX2, hX1]; simp
  have hn1 : X1.length ≤ 13 := by rw [hX1, List.length_append]; split <;> simp <;> omega
  have hn2 : X2.length ≤ 14 := by rw [hX2, List.length_append]; split <;> simp <;> omega
  have HA2 : ∀ x ∈ X2, -10000000000 ≤ x.2.2 ∧ x.2.2 ≤ 10000000000 := by
    rw [ha1] at b1
    rw [ha4] at b4
    intro x hx
    rw [hX2, hX1] at hx
    simp only [List.mem_append] at hx
    rcases hx with (hx | hx) | hx
    · have := HA.out x hx; omega
    · split at hx
      · simp at hx
      · simp at hx; subst hx; simp; omega
    · split at hx
      · simp at hx
      · simp at hx; subst hx; simp; omega
  have hT2 : P.ftot (P.ofKind 0) X2 = S := by
    rw [ofKind_zero, hX2, hX1, ftot_append, ftot_append, ← hS]
    split <;> split <;> simp_all [P.ftot] <;> omega
  have HS0 : Aside (∀ wx bo bc, EntsAt wx bo bc X2 → Calls Tryz.prog 79 #[.slice bo X2.length bc, .int .i64 0] wx fun e w' => e = .returned (.int .i64 S) ∧ Below wx.heap.size wx w') := fun wx bo bc hx => by
    rw [← hT2]; exact sumOf_any bo bc X2 0 wx hx (by omega) HA2
  rw [ha1] at b1
  rw [ha4] at b4
  have bS : -10000000000 ≤ S ∧ S ≤ 10000000000 := by omega
  clear HA2 hT2 hcome hF ha1 ha4
  rw [P.plus, HX.out]
  have HX1 : Aside (X1 = l ++ (if a1 + a4 = 0 then [] else [((day, 4, -(a1 + a4)) : Ent)])) := hX1
  have HX2 : Aside (X2 = X1 ++ (if pen = 0 then [] else [((day, 3, pen) : Ent)])) := hX2
  have HX3 : Aside (X3 = X2 ++ (if S < 0 then [((day, 4, -S) : Ent)] else [])) := hX3
  clear hX1 hX2 hX3 hS
  obtain ⟨V, hV⟩ : ∃ V, V = (if P.folE X3 = 0 then X3 else []) := ⟨_, rfl⟩
  rw [← hV]
  have HV : Aside (V = if P.folE X3 = 0 then X3 else []) := hV
  clear hV
  have hown : OwnN (w.alloc (.cells #[] 59)) w.heap.size (.slice (some ⟨w.heap.size, 0, none⟩) 0 0) [] := OwnC.empty w _ (Nat.le_refl _)
  have hB : Below w.heap.size w (w.alloc (.cells #[] 59)) := by go_grown
  have HC1 : Aside (a1 + a4 = 0 → l = X1) := fun h => by rw [HX1.out, if_pos h, List.append_nil]
  have HC2 : Aside (pen = 0 → X1 = X2) := fun h => by rw [HX2.out, if_pos h, List.append_nil]
  have HC3 : Aside (¬ S < 0 → X2 = X3) := fun h => by rw [HX3.out, if_neg h, List.append_nil]
  have HN1 : Aside (¬ a1 + a4 = 0 → l ++ [(day, 4, -(a1 + a4))] = X1) := fun h => by rw [HX1.out, if_neg h]
  have HN2 : Aside (¬ pen = 0 → X1 ++ [(day, 3, pen)] = X2) := fun h => by rw [HX2.out, if_neg h]
  have HN3 : Aside (S < 0 → X2 ++ [(day, 4, -S)] = X3) := fun h => by rw [HX3.out, if_pos h]
  go_enter Tryz.func134, Tryz.ntmps134
  go_wp2_with (first
    | (at_builtin; refine wpList_app_ents rfl (.tmp 11) (.tmp 12) rfl w.heap.size _ [] ao cap l rfl hown rfl (SlAt.below REnt.mono hl hB) hB.size (by simp) (by omega) ?_; intro v1 w1 h1 hgr; replace hB := OwnC.grown (cells := cellsN) (l := []) hB hown (Nat.le_refl _) hgr; replace hown : OwnN w1 w.heap.size v1 l := h1; clear hgr h1)
    | fail)
  refine Calls.mono (HS1.out _ (SlAt.below REnt.mono hl hB)) ?_
  rintro e w2 ⟨rfl, hb⟩
  replace hown := OwnC.below hown hb
  replace hB := bvia hB hb
  clear hb
  go_wp2_with fail
  refine Calls.mono (HS4.out _ (SlAt.below REnt.mono hl hB)) ?_
  rintro e w3 ⟨rfl, hb⟩
  replace hown := OwnC.below hown hb
  replace hB := bvia hB hb
  clear hb
  by_cases hf : a1 + a4 = 0 <;> by_cases hp : pen = 0
  all_goals
    have HH : Aside (_ ∧ _) := ⟨hf, hp⟩
    first | (have hf2 : (a1 + a4 == 0) = false := by simpa using hf; clear hf) | skip
    first | (have hp2 : (pen == 0) = false := by simpa using hp; clear hp) | skip
    first | rw [HC1.out HH.out.1] at hown | skip
    go_wp2_with (first
      | (at_builtin; refine wpList_app_ent rfl (.tmp 21) (.tmp 26) rfl w.heap.size _ l day 4 (-(a1 + a4)) rfl hown _ rfl rfl hB.size (by omega) ?_; intro v4 w4 h4 hgr; replace hB := OwnC.grown hB hown (Nat.le_refl _) hgr; replace hown : OwnN w4 w.heap.size v4 X1 := (by rw [← HN1.out HH.out.1]; exact h4); clear hgr h4)
      | (at_builtin; refine wpList_app_ent rfl (.tmp 30) (.tmp 34) rfl w.heap.size _ X1 day 3 pen rfl hown _ rfl rfl hB.size (by omega) ?_; intro v5 w5 h5 hgr; replace hB := OwnC.grown hB hown (Nat.le_refl _) hgr; replace hown : OwnN w5 w.heap.size v5 X2 := (by rw [← HN2.out HH.out.2]; exact h5); clear hgr h5)
      | fail)
    first | rw [HC2.out HH.out.2] at hown | skip
    obtain ⟨ao6, cap6, rfl, s6⟩ := OwnN.at hown
    refine Calls.mono (HS0.out _ _ _ s6) ?_
    rintro e w6 ⟨rfl, hb⟩
    replace hown := OwnC.below hown hb
    replace hB := bvia hB hb
    clear hb s6
    by_cases hn : S < 0
    · go_wp2_with (first
        | (at_builtin; refine wpList_app_ent rfl (.tmp 40) (.tmp 45) rfl w.heap.size _ X2 day 4 (-S) rfl hown _ rfl rfl hB.size (by omega) ?_; intro v7 w7 h7 hgr; replace hB := OwnC.grown hB hown (Nat.le_refl _) hgr; replace hown : OwnN w7 w.heap.size v7 X3 := (by rw [← HN3.out hn]; exact h7); clear hgr h7)
        | fail)
      obtain ⟨ao8, cap8, rfl, s8⟩ := OwnN.at hown
      refine (checkFolio_any _ _ X3 _ s8).mono ?_
      rintro e w9 ⟨rfl, hb⟩
      have HO : Aside (OwnN w9 w.heap.size (.slice ao8 X3.length cap8) X3) := OwnC.below hown hb
      replace hB := bvia hB hb
      clear hb s8 hown
      by_cases he : P.folE X3 = 0
      · have hV := HV.out
        rw [if_pos he] at hV
        rw [he]
        go_wp2
        go_ret2
        exact ⟨_, ret2_int he.symm, by rw [hV]; exact HO.out, hB⟩
      · have he2 : (P.folE X3 == 0) = false := by simpa using he
        have hV := HV.out
        rw [if_neg he] at hV
        go_wp2
        go_ret2
        exact ⟨_, rfl, by rw [hV]; exact OwnC.nil _ _, hB⟩
    · have hX23 : X2 = X3 := HC3.out (by omega)
      rw [hX23] at hown
      go_wp2_with fail
      have HO0 : OwnN w6 w.heap.size _ X3 := hown
      obtain ⟨ao8, cap8, hv8, s8⟩ := OwnN.at hown
      rw [hv8] at HO0
      rw [hv8]
      refine (checkFolio_any _ _ X3 _ s8).mono ?_
      rintro e w9 ⟨rfl, hb⟩
      have HO : Aside (OwnN w9 w.heap.size (.slice ao8 X3.length cap8) X3) := OwnC.below HO0 hb
      replace hB := bvia hB hb
      clear hb s8 hown HO0 hv8
      by_cases he : P.folE X3 = 0
      · have hV := HV.out
        rw [if_pos he] at hV
        rw [he]
        go_wp2
        go_ret2
        exact ⟨_, ret2_int he.symm, by rw [hV]; exact HO.out, hB⟩
      · have he2 : (P.folE X3 == 0) = false := by simpa using he
        have hV := HV.out
        rw [if_neg he] at hV
        go_wp2
        go_ret2
        exact ⟨_, rfl, by rw [hV]; exact OwnC.nil _ _, hB⟩

end Go.Proofs.YtlamhfbdeinkkaeGreat.Fo
namespace Go.Proofs.YtlamhfbdeinkkaeGreat.St
open Go.RowKit Bk
set_option linter.unusedSimpArgs false
set_option linter.unusedVariables false
set_option maxRecDepth 10000

/-- A booking that goes on a day: its penalty; what its folio is then; what is wrong with that. -/
def P.goP (x : Sail) (b : Bkg) (day : Int) : Int := if b.state = 2 ∧ 0 < Fo.P.ftot Fo.P.isFare b.fol then Fo.P.penV x.B (Fo.P.ftot Fo.P.isFare b.fol) (P.mx (x.lvs - day)) else 0
def P.goL (x : Sail) (b : Bkg) (day : Int) : List Fo.Ent := Fo.P.plus b.fol (Fo.P.come b.fol day (P.goP x b day))
def P.goE (x : Sail) (b : Bkg) (day : Int) : Int := if b.state = 2 ∧ 100000000 < Fo.P.ftot Fo.P.isFare b.fol then 3 else Fo.P.folE (b.fol ++ Fo.P.come b.fol day (P.goP x b day))

set_option maxHeartbeats 16000000 in
theorem goneOf_any (x : Sail) (a : SailA) (b : Bkg) (fo : Option Addr) (fc : Nat) (day : Int) (w : World) (hs : SailAt w x a) (hf : Fo.EntsAt w fo fc b.fol) (h0 : Fo.P.folE b.fol = 0) (hBB : ∀ z ∈ x.B, 0 ≤ z.2 ∧ z.2 ≤ 100) (hd : 0 ≤ day ∧ day ≤ 9999) (hl : 0 ≤ x.lvs ∧ x.lvs ≤ 9999) :
    Calls Tryz.prog 81 #[V.sail x a, V.bk b fo fc, .int .i64 day] w fun e w' => ∃ b' fo' fc', e = .returned (.tuple #[V.bk b' fo' fc', .int .i64 (P.goE x b day)]) ∧ Below w.heap.size w w' ∧ (¬ P.goE x b day = 0 → b' = b ∧ fo' = fo ∧ fc' = fc) ∧ (P.goE x b day = 0 → b' = P.goneB b (P.goL x b day) ∧ Fo.OwnN w' w.heap.size (.slice fo' b'.fol.length fc') b'.fol) := by
  have HS : Aside (SailAt w x a) := hs
  have HFE : Aside (Fo.EntsAt w fo fc b.fol) := hf
  have HF0 : Aside (Fo.P.folE b.fol = 0) := h0
  have HBB : Aside (∀ z ∈ x.B, 0 ≤ z.2 ∧ z.2 ≤ 100) := hBB
  have hf12 := Fo.folE_len h0
  have HAM : Aside (∀ z ∈ b.fol, -10000000000 ≤ z.2.2 ∧ z.2.2 ≤ 10000000000) := fun z hz => by
    have := Fo.folE_amt h0 z hz
    omega
  obtain ⟨F1, hF1⟩ : ∃ n, Fo.P.ftot (Fo.P.ofKind 1) b.fol = n := ⟨_, rfl⟩
  obtain ⟨F4, hF4⟩ : ∃ n, Fo.P.ftot (Fo.P.ofKind 4) b.fol = n := ⟨_, rfl⟩
  obtain ⟨N, hN⟩ : ∃ n, Fo.P.ftot Fo.P.isFare b.fol = n := ⟨_, rfl⟩
  have hsum : F1 + F4 = N := by rw [← hF1, ← hF4, ← hN]; exact Fo.fares_two b.fol
  have hb1 := Fo.ftot_12 Fo.P.isFare (Fo.folE_amt h0) hf12
  rw [hN] at hb1
  have hwr : IntKind.i64.wrap (F1 + F4) = N := by rw [hsum, IntKind.wrap_i64]; omega
  have HN : Aside (Fo.P.ftot Fo.P.isFare b.fol = N) := hN
  have HS1 : Aside (∀ wx, Fo.EntsAt wx fo fc b.fol → Calls Tryz.prog 79 #[.slice fo b.fol.length fc, .int .i64 1] wx fun e w' => e = .returned (.int .i64 F1) ∧ Below wx.heap.size wx w') := fun wx hx => by
    rw [← hF1]
    exact Fo.sumOf_any fo fc b.fol 1 wx hx (by omega) HAM.out
  have HS4 : Aside (∀ wx, Fo.EntsAt wx fo fc b.fol → Calls Tryz.prog 79 #[.slice fo b.fol.length fc, .int .i64 4] wx fun e w' => e = .returned (.int .i64 F4) ∧ Below wx.heap.size wx w') := fun wx hx => by
    rw [← hF4]
    exact Fo.sumOf_any fo fc b.fol 4 wx hx (by omega) HAM.out
  have hw2 : IntKind.i64.wrap (x.lvs - day) = x.lvs - day := by rw [IntKind.wrap_i64]; omega
  have HX : Aside (SRow (((w.alloc (.cells (C.sail x a) 32)).alloc (.cells (C.bk b fo fc) 37)).alloc O.bk0) w.heap.size x a) := ((RowIs.new w (C.sail x a) 32).below (al _ _)).below (al _ _)
  have HY : Aside (RowIs (((w.alloc (.cells (C.sail x a) 32)).alloc (.cells (C.bk b fo fc) 37)).alloc O.bk0) (w.heap.size + 1) (C.bk b fo fc)) := by
    have := (RowIs.new (w.alloc (.cells (C.sail x a) 32)) (C.bk b fo fc) 37).below (al _ O.bk0)
    rwa [World.size_alloc] at this
  have HZ : Aside (RowIs (((w.alloc (.cells (C.sail x a) 32)).alloc (.cells (C.bk b fo fc) 37)).alloc O.bk0) (w.heap.size + 1 + 1) C.bk0) := by
    have := RowIs.new ((w.alloc (.cells (C.sail x a) 32)).alloc (.cells (C.bk b fo fc) 37)) C.bk0 37
    rwa [World.size_alloc, World.size_alloc] at this
  have HB : Aside (Below w.heap.size w (((w.alloc (.cells (C.sail x a) 32)).alloc (.cells (C.bk b fo fc) 37)).alloc O.bk0)) := bvia (al _ _) (bvia (al _ _) (al _ _))
  clear hs hf h0 hBB hF1 hF4 hN hsum
  go_enter Tryz.func81, Tryz.ntmps81
  go_wp2
  change Code.wp Tryz.prog _ _ _ (((w.alloc (.cells (C.sail x a) 32)).alloc (.cells (C.bk b fo fc) 37)).alloc O.bk0)
  generalize ((w.alloc (.cells (C.sail x a) 32)).alloc (.cells (C.bk b fo fc) 37)).alloc O.bk0 = wB at HX HY HZ HB ⊢
  have k10 : wB.cell? ⟨w.heap.size + 1, 10, none⟩ = some (.slice fo b.fol.length fc) := HY.out.cell 10
  go_region_held3 (fun u => u.cell? ⟨w.heap.size + 1, 10, none⟩ = some (.slice fo b.fol.length fc))
    (first | with_reducible exact m10 | with_reducible exact l10 | with_reducible exact k10 | go_keep)
    (first
      | (have hh := l10; go_at_call 79; refine Calls.mono (HS4.out _ (SlAt.below Fo.REnt.mono HFE.out (bvia HB.out hb5))) ?_; rintro e w6 ⟨rfl, hb6'⟩; have hb6 : Below wB.heap.size wB w6 := bvia hb5 hb6'; have m10 : w6.cell? ⟨w.heap.size + 1, 10, none⟩ = some (.slice fo b.fol.length fc) := cellIn hb6 k10)
      | (go_at_call 79; refine Calls.mono (HS1.out _ (SlAt.below Fo.REnt.mono HFE.out (bvia HB.out (dr _)))) ?_; rintro e w5 ⟨rfl, hb5'⟩; have hb5 : Below wB.heap.size wB w5 := bvia (dr _) hb5'; have l10 : w5.cell? ⟨w.heap.size + 1, 10, none⟩ = some (.slice fo b.fol.length fc) := cellIn hb5 k10))
  have HX6 : Aside (SRow w6 w.heap.size x a) := HX.out.below hb6
  have HY6 : Aside (RowIs w6 (w.heap.size + 1) (C.bk b fo fc)) := HY.out.below hb6
  have HZ6 : Aside (RowIs w6 (w.heap.size + 1 + 1) C.bk0) := HZ.out.below hb6
  have hB6 := bvia HB.out hb6
  clear k10 l10 m10 hh hb5 hb5' hb6 hb6' HX HY HZ HB HS1 HS4
  obtain ⟨z0, z1, z2, z3, z4, z5, z6, z7, z8, z9, z10⟩ := HY6.out.bbox
  cases h2 : (b.state == 2)
  · have hn2 : ¬ b.state = 2 := by simpa using h2
    have HNB : Aside (¬ (b.state = 2 ∧ 100000000 < Fo.P.ftot Fo.P.isFare b.fol)) := fun h => hn2 h.1
    have HPN : Aside (P.goP x b day = 0 ∧ (0 : Int) ≤ 0 ∧ (0 : Int) ≤ 100000000) := ⟨by rw [P.goP, if_neg (fun h => hn2 h.1)], by decide, by decide⟩
    clear hn2 z0 z1 z2 z3 z4 z5 z6 z7 z8 z9 z10
    have HCN : Aside (∀ wx, Fo.EntsAt wx fo fc b.fol → Calls Tryz.prog 134 #[.slice fo b.fol.length fc, .int .i64 day, .int .i64 (0)] wx fun e w' => ∃ v, e = .returned (.tuple #[v, .int .i64 (P.goE x b day)]) ∧ Fo.OwnN w' wx.heap.size v (P.goL x b day) ∧ Below wx.heap.size wx w') := fun wx hx => by
      have h := Fo.cancelOf_any fo fc b.fol day (0) wx hx HF0.out (HPN.out.2.1) (HPN.out.2.2)
      rw [show P.goE x b day = Fo.P.folE (b.fol ++ Fo.P.come b.fol day (0)) by rw [P.goE, if_neg HNB.out, HPN.out.1], show P.goL x b day = Fo.P.plus b.fol (Fo.P.come b.fol day (0)) by rw [P.goL, HPN.out.1]]
      exact h
    obtain ⟨z0, z1, z2, z3, z4, z5, z6, z7, z8, z9, z10⟩ := HY6.out.bbox
    obtain ⟨L, hL⟩ : ∃ L, P.goL x b day = L := ⟨_, rfl⟩
    rw [hL] at HCN
    have HLL : Aside (P.goL x b day = L) := hL
    clear hL
    go_wp2_with fail
    refine Calls.mono (HCN.out _ (SlAt.below Fo.REnt.mono HFE.out hB6)) ?_
    rintro e w8 ⟨v, rfl, hv, hb8⟩
    obtain ⟨ao8, cap8, rfl⟩ := OwnC.form hv
    have HY8 : Aside (RowIs w8 (w.heap.size + 1) (C.bk b fo fc)) := HY6.out.below hb8
    have HZ8 : Aside (RowIs w8 (w.heap.size + 1 + 1) C.bk0) := HZ6.out.below hb8
    have HO8 : Aside (Fo.OwnN w8 w6.heap.size (.slice ao8 L.length cap8) L) := hv
    have hB8 := bvia hB6 hb8
    have HB8 : Aside (Below w.heap.size w w8) := hB8
    have hlz := HZ6.out.lt
    clear z0 z1 z2 z3 z4 z5 z6 z7 z8 z9 z10 hv hb8 HCN
    obtain ⟨z0, z1, z2, z3, z4, z5, z6, z7, z8, z9, z10⟩ := HY8.out.bbox
    cases hz : (P.goE x b day != 0)
    rotate_left
    · have HE : Aside (¬ P.goE x b day = 0) := by show ¬ _; simpa using hz
      go_wp2_with ((with_reducible refine wpList_stO (w.heap.size + 1 + 1) C.bk0 (C.bk b fo fc) ?_ ?_ ?_ HZ8.out ?_ ?_ ?_); exact Tryz.sizeBg; rfl; rfl; rfl; exact all_one rfl; intro w9 hr9 hg9)
      exact bodyPost_ret (res2 rfl hr9 _ rfl rfl Tryz.underlying37 rfl Tryz.sizeBg) rfl ⟨b, fo, fc, rfl, below_gr hB8 hB8.size hg9 (by omega), fun h => ⟨rfl, rfl, rfl⟩, fun h => absurd h HE.out⟩
    have HE : Aside (P.goE x b day = 0) := by show _ = _; simpa using hz
    obtain ⟨V, hV⟩ : ∃ V, (.slice ao8 L.length cap8 : Value) = V := ⟨_, rfl⟩
    have g1 := grown_st w8 (w.heap.size + 1) 10 V
    have g2 := grown_st (w8.setCell ⟨w.heap.size + 1, 10, none⟩ V) (w.heap.size + 1) 2 (.int .i64 3)
    have g3 := grown_st ((w8.setCell ⟨w.heap.size + 1, 10, none⟩ V).setCell ⟨w.heap.size + 1, 2, none⟩ (.int .i64 3)) (w.heap.size + 1) 9 (.int .i64 0)
    have hlt8 := HY8.out.lt
    have HZ9 : Aside (RowIs (((w8.setCell ⟨w.heap.size + 1, 10, none⟩ V).setCell ⟨w.heap.size + 1, 2, none⟩ (.int .i64 3)).setCell ⟨w.heap.size + 1, 9, none⟩ (.int .i64 0)) (w.heap.size + 1 + 1) C.bk0) := ((HZ8.out.gr g1 (by simp)).gr g2 (by simp)).gr g3 (by simp)
    have HB9 : Aside (Below w.heap.size w (((w8.setCell ⟨w.heap.size + 1, 10, none⟩ V).setCell ⟨w.heap.size + 1, 2, none⟩ (.int .i64 3)).setCell ⟨w.heap.size + 1, 9, none⟩ (.int .i64 0))) :=
      below_gr (below_gr (below_gr hB8 hB8.size g1 (by omega)) (Nat.le_trans hB8.size g1.size) g2 (by omega)) (Nat.le_trans (Nat.le_trans hB8.size g1.size) g2.size) g3 (by omega)
    have HO9 : Aside (Fo.OwnN (((w8.setCell ⟨w.heap.size + 1, 10, none⟩ V).setCell ⟨w.heap.size + 1, 2, none⟩ (.int .i64 3)).setCell ⟨w.heap.size + 1, 9, none⟩ (.int .i64 0)) w6.heap.size (.slice ao8 L.length cap8) L) := by
      have o1 := OwnC.apart HO8.out g1 (fun r e hv => by cases e; have := (HO8.out.lt _ hv).1; omega)
      have o2 := OwnC.apart o1 g2 (fun r e hv => by cases e; have := (o1.lt _ hv).1; omega)
      exact OwnC.apart o2 g3 (fun r e hv => by cases e; have := (o2.lt _ hv).1; omega)
    have f2 := HY8.out.free 2
    have f9 := HY8.out.free 9
    have f10 := HY8.out.free 10
    have HZB : Aside (w.heap.size ≤ w6.heap.size) := by have := HZ6.out.lt; show _ ≤ _; omega
    clear g1 g2 g3 hB8
    subst hV
    go_wp2_with ((with_reducible refine wpList_stO (w.heap.size + 1 + 1) C.bk0 (C.bk (P.goneB b L) ao8 cap8) ?_ ?_ ?_ HZ9.out ?_ ?_ ?_); exact Tryz.sizeBg; rfl; rfl; rfl; exact all_one rfl; intro w9 hr9 hg9)
    have hB9 := below_gr HB9.out HB9.out.size hg9 (by omega)
    have own9 := Fo.OwnC.weaken (OwnC.apart HO9.out hg9 (fun r e hv => by cases e; have := (HO9.out.lt _ hv).1; omega)) HZB.out
    exact bodyPost_ret (res2 rfl hr9 _ rfl rfl Tryz.underlying37 rfl Tryz.sizeBg) rfl ⟨P.goneB b L, ao8, cap8, rfl, hB9, fun h => absurd HE.out h, fun h => ⟨by rw [HLL.out], own9⟩⟩
  have hs2 : Aside (b.state = 2) := by show _ = _; simpa using h2
  by_cases h3 : 0 < N
  rotate_left
  · have HNB : Aside (¬ (b.state = 2 ∧ 100000000 < Fo.P.ftot Fo.P.isFare b.fol)) := by show ¬ _; rw [HN.out]; omega
    have HPN : Aside (P.goP x b day = 0 ∧ (0 : Int) ≤ 0 ∧ (0 : Int) ≤ 100000000) := ⟨by rw [P.goP, HN.out, if_neg (fun h => h3 h.2)], by decide, by decide⟩
    clear z0 z1 z2 z3 z4 z5 z6 z7 z8 z9 z10
    have HCN : Aside (∀ wx, Fo.EntsAt wx fo fc b.fol → Calls Tryz.prog 134 #[.slice fo b.fol.length fc, .int .i64 day, .int .i64 (0)] wx fun e w' => ∃ v, e = .returned (.tuple #[v, .int .i64 (P.goE x b day)]) ∧ Fo.OwnN w' wx.heap.size v (P.goL x b day) ∧ Below wx.heap.size wx w') := fun wx hx => by
      have h := Fo.cancelOf_any fo fc b.fol day (0) wx hx HF0.out (HPN.out.2.1) (HPN.out.2.2)
      rw [show P.goE x b day = Fo.P.folE (b.fol ++ Fo.P.come b.fol day (0)) by rw [P.goE, if_neg HNB.out, HPN.out.1], show P.goL x b day = Fo.P.plus b.fol (Fo.P.come b.fol day (0)) by rw [P.goL, HPN.out.1]]
      exact h
    obtain ⟨z0, z1, z2, z3, z4, z5, z6, z7, z8, z9, z10⟩ := HY6.out.bbox
    obtain ⟨L, hL⟩ : ∃ L, P.goL x b day = L := ⟨_, rfl⟩
    rw [hL] at HCN
    have HLL : Aside (P.goL x b day = L) := hL
    clear hL
    go_wp2_with fail
    refine Calls.mono (HCN.out _ (SlAt.below Fo.REnt.mono HFE.out hB6)) ?_
    rintro e w8 ⟨v, rfl, hv, hb8⟩
    obtain ⟨ao8, cap8, rfl⟩ := OwnC.form hv
    have HY8 : Aside (RowIs w8 (w.heap.size + 1) (C.bk b fo fc)) := HY6.out.below hb8
    have HZ8 : Aside (RowIs w8 (w.heap.size + 1 + 1) C.bk0) := HZ6.out.below hb8
    have HO8 : Aside (Fo.OwnN w8 w6.heap.size (.slice ao8 L.length cap8) L) := hv
    have hB8 := bvia hB6 hb8
    have HB8 : Aside (Below w.heap.size w w8) := hB8
    have hlz := HZ6.out.lt
    clear z0 z1 z2 z3 z4 z5 z6 z7 z8 z9 z10 hv hb8 HCN
    obtain ⟨z0, z1, z2, z3, z4, z5, z6, z7, z8, z9, z10⟩ := HY8.out.bbox
    cases hz : (P.goE x b day != 0)
    rotate_left
    · have HE : Aside (¬ P.goE x b day = 0) := by show ¬ _; simpa using hz
      go_wp2_with ((with_reducible refine wpList_stO (w.heap.size + 1 + 1) C.bk0 (C.bk b fo fc) ?_ ?_ ?_ HZ8.out ?_ ?_ ?_); exact Tryz.sizeBg; rfl; rfl; rfl; exact all_one rfl; intro w9 hr9 hg9)
      exact bodyPost_ret (res2 rfl hr9 _ rfl rfl Tryz.underlying37 rfl Tryz.sizeBg) rfl ⟨b, fo, fc, rfl, below_gr hB8 hB8.size hg9 (by omega), fun h => ⟨rfl, rfl, rfl⟩, fun h => absurd h HE.out⟩
    have HE : Aside (P.goE x b day = 0) := by show _ = _; simpa using hz
    obtain ⟨V, hV⟩ : ∃ V, (.slice ao8 L.length cap8 : Value) = V := ⟨_, rfl⟩
    have g1 := grown_st w8 (w.heap.size + 1) 10 V
    have g2 := grown_st (w8.setCell ⟨w.heap.size + 1, 10, none⟩ V) (w.heap.size + 1) 2 (.int .i64 3)
    have g3 := grown_st ((w8.setCell ⟨w.heap.size + 1, 10, none⟩ V).setCell ⟨w.heap.size + 1, 2, none⟩ (.int .i64 3)) (w.heap.size + 1) 9 (.int .i64 0)
    have hlt8 := HY8.out.lt
    have HZ9 : Aside (RowIs (((w8.setCell ⟨w.heap.size + 1, 10, none⟩ V).setCell ⟨w.heap.size + 1, 2, none⟩ (.int .i64 3)).setCell ⟨w.heap.size + 1, 9, none⟩ (.int .i64 0)) (w.heap.size + 1 + 1) C.bk0) := ((HZ8.out.gr g1 (by simp)).gr g2 (by simp)).gr g3 (by simp)
    have HB9 : Aside (Below w.heap.size w (((w8.setCell ⟨w.heap.size + 1, 10, none⟩ V).setCell ⟨w.heap.size + 1, 2, none⟩ (.int .i64 3)).setCell ⟨w.heap.size + 1, 9, none⟩ (.int .i64 0))) :=
      below_gr (below_gr (below_gr hB8 hB8.size g1 (by omega)) (Nat.le_trans hB8.size g1.size) g2 (by omega)) (Nat.le_trans (Nat.le_trans hB8.size g1.size) g2.size) g3 (by omega)
    have HO9 : Aside (Fo.OwnN (((w8.setCell ⟨w.heap.size + 1, 10, none⟩ V).setCell ⟨w.heap.size + 1, 2, none⟩ (.int .i64 3)).setCell ⟨w.heap.size + 1, 9, none⟩ (.int .i64 0)) w6.heap.size (.slice ao8 L.length cap8) L) := by
      have o1 := OwnC.apart HO8.out g1 (fun r e hv => by cases e; have := (HO8.out.lt _ hv).1; omega)
      have o2 := OwnC.apart o1 g2 (fun r e hv => by cases e; have := (o1.lt _ hv).1; omega)
      exact OwnC.apart o2 g3 (fun r e hv => by cases e; have := (o2.lt _ hv).1; omega)
    have f2 := HY8.out.free 2
    have f9 := HY8.out.free 9
    have f10 := HY8.out.free 10
    have HZB : Aside (w.heap.size ≤ w6.heap.size) := by have := HZ6.out.lt; show _ ≤ _; omega
    clear g1 g2 g3 hB8
    subst hV
    go_wp2_with ((with_reducible refine wpList_stO (w.heap.size + 1 + 1) C.bk0 (C.bk (P.goneB b L) ao8 cap8) ?_ ?_ ?_ HZ9.out ?_ ?_ ?_); exact Tryz.sizeBg; rfl; rfl; rfl; exact all_one rfl; intro w9 hr9 hg9)
    have hB9 := below_gr HB9.out HB9.out.size hg9 (by omega)
    have own9 := Fo.OwnC.weaken (OwnC.apart HO9.out hg9 (fun r e hv => by cases e; have := (HO9.out.lt _ hv).1; omega)) HZB.out
    exact bodyPost_ret (res2 rfl hr9 _ rfl rfl Tryz.underlying37 rfl Tryz.sizeBg) rfl ⟨P.goneB b L, ao8, cap8, rfl, hB9, fun h => absurd HE.out h, fun h => ⟨by rw [HLL.out], own9⟩⟩
  by_cases h4 : 100000000 < N
  · have HGE : Aside (P.goE x b day = 3) := by show _ = _; rw [P.goE, HN.out, if_pos ⟨hs2.out, h4⟩]
    go_wp2_with ((with_reducible refine wpList_stO (w.heap.size + 1 + 1) C.bk0 (C.bk b fo fc) ?_ ?_ ?_ HZ6.out ?_ ?_ ?_); exact Tryz.sizeBg; rfl; rfl; rfl; exact all_one rfl; intro w9 hr9 hg9)
    exact bodyPost_ret (res2 rfl hr9 _ rfl rfl Tryz.underlying37 rfl Tryz.sizeBg) rfl ⟨b, fo, fc, by rw [HGE.out]; rfl, below_gr hB6 hB6.size hg9 (by omega), fun h => ⟨rfl, rfl, rfl⟩, fun h => absurd h (by rw [HGE.out]; decide)⟩
  have HNB : Aside (¬ (b.state = 2 ∧ 100000000 < Fo.P.ftot Fo.P.isFare b.fol)) := by show ¬ _; rw [HN.out]; omega
  have HPV : ∀ d, 0 ≤ Fo.P.penV x.B N d ∧ Fo.P.penV x.B N d ≤ 100000000 := fun d => by
    have := Fo.penV_in (d := d) HBB.out (show 0 ≤ N by omega)
    omega
  by_cases h5 : x.lvs < day
  · have hmx : P.mx (x.lvs - day) = 0 := by rw [P.mx, if_neg (by omega)]
    have HPN : Aside (P.goP x b day = Fo.P.penV x.B N 0 ∧ 0 ≤ Fo.P.penV x.B N 0 ∧ Fo.P.penV x.B N 0 ≤ 100000000) := ⟨by rw [P.goP, HN.out, if_pos ⟨hs2.out, h3⟩, hmx], HPV 0⟩
    have HPQ : Aside (∀ wx, Fo.FareAt wx a.lo a.bo a.lc a.bc x.L x.B → Calls Tryz.prog 133 #[Fo.V.fare a.lo a.bo a.lc a.bc x.L x.al x.th x.B x.dn, .int .i64 N, .int .i64 0] wx fun e w' => e = .returned (.int .i64 (Fo.P.penV x.B N 0)) ∧ Below wx.heap.size wx w') := fun wx hx => Fo.penaltyOf_any a.lo a.bo a.lc a.bc x.L x.al x.th x.B x.dn N 0 wx hx HBB.out ⟨by omega, by omega⟩
    generalize Fo.P.penV x.B N 0 = PN at HPQ HPN
    clear HPV hmx
    have h5' : x.lvs - day < 0 := by omega
    obtain ⟨d0, d1, d2, d3, d4, d5, d6, d7, d8, d9, d10, d11, d12⟩ := SRow.box HX6.out
    go_wp2_with fail
    refine Calls.mono (HPQ.out _ (HS.out.below hB6).fare) ?_
    rintro e w7 ⟨rfl, hb7⟩
    have HY7 : Aside (RowIs w7 (w.heap.size + 1) (C.bk b fo fc)) := HY6.out.below hb7
    have HZ7 : Aside (RowIs w7 (w.heap.size + 1 + 1) C.bk0) := HZ6.out.below hb7
    have hB7 := bvia hB6 hb7
    clear d0 d1 d2 d3 d4 d5 d6 d7 d8 d9 d10 d11 d12 z0 z1 z2 z3 z4 z5 z6 z7 z8 z9 z10 hb7
    have HCN : Aside (∀ wx, Fo.EntsAt wx fo fc b.fol → Calls Tryz.prog 134 #[.slice fo b.fol.length fc, .int .i64 day, .int .i64 (PN)] wx fun e w' => ∃ v, e = .returned (.tuple #[v, .int .i64 (P.goE x b day)]) ∧ Fo.OwnN w' wx.heap.size v (P.goL x b day) ∧ Below wx.heap.size wx w') := fun wx hx => by
      have h := Fo.cancelOf_any fo fc b.fol day (PN) wx hx HF0.out (HPN.out.2.1) (HPN.out.2.2)
      rw [show P.goE x b day = Fo.P.folE (b.fol ++ Fo.P.come b.fol day (PN)) by rw [P.goE, if_neg HNB.out, HPN.out.1], show P.goL x b day = Fo.P.plus b.fol (Fo.P.come b.fol day (PN)) by rw [P.goL, HPN.out.1]]
      exact h
    obtain ⟨z0, z1, z2, z3, z4, z5, z6, z7, z8, z9, z10⟩ := HY7.out.bbox
    obtain ⟨L, hL⟩ : ∃ L, P.goL x b day = L := ⟨_, rfl⟩
    rw [hL] at HCN
    have HLL : Aside (P.goL x b day = L) := hL
    clear hL
    go_wp2_with fail
    refine Calls.mono (HCN.out _ (SlAt.below Fo.REnt.mono HFE.out hB7)) ?_
    rintro e w8 ⟨v, rfl, hv, hb8⟩
    obtain ⟨ao8, cap8, rfl⟩ := OwnC.form hv
    have HY8 : Aside (RowIs w8 (w.heap.size + 1) (C.bk b fo fc)) := HY7.out.below hb8
    have HZ8 : Aside (RowIs w8 (w.heap.size + 1 + 1) C.bk0) := HZ7.out.below hb8
    have HO8 : Aside (Fo.OwnN w8 w7.heap.size (.slice ao8 L.length cap8) L) := hv
    have hB8 := bvia hB7 hb8
    have HB8 : Aside (Below w.heap.size w w8) := hB8
    have hlz := HZ7.out.lt
    clear z0 z1 z2 z3 z4 z5 z6 z7 z8 z9 z10 hv hb8 HCN
    obtain ⟨z0, z1, z2, z3, z4, z5, z6, z7, z8, z9, z10⟩ := HY8.out.bbox
    cases hz : (P.goE x b day != 0)
    rotate_left
    · have HE : Aside (¬ P.goE x b day = 0) := by show ¬ _; simpa using hz
      go_wp2_with ((with_reducible refine wpList_stO (w.heap.size + 1 + 1) C.bk0 (C.bk b fo fc) ?_ ?_ ?_ HZ8.out ?_ ?_ ?_); exact Tryz.sizeBg; rfl; rfl; rfl; exact all_one rfl; intro w9 hr9 hg9)
      exact bodyPost_ret (res2 rfl hr9 _ rfl rfl Tryz.underlying37 rfl Tryz.sizeBg) rfl ⟨b, fo, fc, rfl, below_gr hB8 hB8.size hg9 (by omega), fun h => ⟨rfl, rfl, rfl⟩, fun h => absurd h HE.out⟩
    have HE : Aside (P.goE x b day = 0) := by show _ = _; simpa using hz
    obtain ⟨V, hV⟩ : ∃ V, (.slice ao8 L.length cap8 : Value) = V := ⟨_, rfl⟩
    have g1 := grown_st w8 (w.heap.size + 1) 10 V
    have g2 := grown_st (w8.setCell ⟨w.heap.size + 1, 10, none⟩ V) (w.heap.size + 1) 2 (.int .i64 3)
    have g3 := grown_st ((w8.setCell ⟨w.heap.size + 1, 10, none⟩ V).setCell ⟨w.heap.size + 1, 2, none⟩ (.int .i64 3)) (w.heap.size + 1) 9 (.int .i64 0)
    have hlt8 := HY8.out.lt
    have HZ9 : Aside (RowIs (((w8.setCell ⟨w.heap.size + 1, 10, none⟩ V).setCell ⟨w.heap.size + 1, 2, none⟩ (.int .i64 3)).setCell ⟨w.heap.size + 1, 9, none⟩ (.int .i64 0)) (w.heap.size + 1 + 1) C.bk0) := ((HZ8.out.gr g1 (by simp)).gr g2 (by simp)).gr g3 (by simp)
    have HB9 : Aside (Below w.heap.size w (((w8.setCell ⟨w.heap.size + 1, 10, none⟩ V).setCell ⟨w.heap.size + 1, 2, none⟩ (.int .i64 3)).setCell ⟨w.heap.size + 1, 9, none⟩ (.int .i64 0))) :=
      below_gr (below_gr (below_gr hB8 hB8.size g1 (by omega)) (Nat.le_trans hB8.size g1.size) g2 (by omega)) (Nat.le_trans (Nat.le_trans hB8.size g1.size) g2.size) g3 (by omega)
    have HO9 : Aside (Fo.OwnN (((w8.setCell ⟨w.heap.size + 1, 10, none⟩ V).setCell ⟨w.heap.size + 1, 2, none⟩ (.int .i64 3)).setCell ⟨w.heap.size + 1, 9, none⟩ (.int .i64 0)) w7.heap.size (.slice ao8 L.length cap8) L) := by
      have o1 := OwnC.apart HO8.out g1 (fun r e hv => by cases e; have := (HO8.out.lt _ hv).1; omega)
      have o2 := OwnC.apart o1 g2 (fun r e hv => by cases e; have := (o1.lt _ hv).1; omega)
      exact OwnC.apart o2 g3 (fun r e hv => by cases e; have := (o2.lt _ hv).1; omega)
    have f2 := HY8.out.free 2
    have f9 := HY8.out.free 9
    have f10 := HY8.out.free 10
    have HZB : Aside (w.heap.size ≤ w7.heap.size) := by have := HZ7.out.lt; show _ ≤ _; omega
    clear g1 g2 g3 hB8
    subst hV
    go_wp2_with ((with_reducible refine wpList_stO (w.heap.size + 1 + 1) C.bk0 (C.bk (P.goneB b L) ao8 cap8) ?_ ?_ ?_ HZ9.out ?_ ?_ ?_); exact Tryz.sizeBg; rfl; rfl; rfl; exact all_one rfl; intro w9 hr9 hg9)
    have hB9 := below_gr HB9.out HB9.out.size hg9 (by omega)
    have own9 := Fo.OwnC.weaken (OwnC.apart HO9.out hg9 (fun r e hv => by cases e; have := (HO9.out.lt _ hv).1; omega)) HZB.out
    exact bodyPost_ret (res2 rfl hr9 _ rfl rfl Tryz.underlying37 rfl Tryz.sizeBg) rfl ⟨P.goneB b L, ao8, cap8, rfl, hB9, fun h => absurd HE.out h, fun h => ⟨by rw [HLL.out], own9⟩⟩
  have hmx : P.mx (x.lvs - day) = x.lvs - day := by rw [P.mx]; split <;> omega
  have HPN : Aside (P.goP x b day = Fo.P.penV x.B N (x.lvs - day) ∧ 0 ≤ Fo.P.penV x.B N (x.lvs - day) ∧ Fo.P.penV x.B N (x.lvs - day) ≤ 100000000) := ⟨by rw [P.goP, HN.out, if_pos ⟨hs2.out, h3⟩, hmx], HPV _⟩
  have HPQ : Aside (∀ wx, Fo.FareAt wx a.lo a.bo a.lc a.bc x.L x.B → Calls Tryz.prog 133 #[Fo.V.fare a.lo a.bo a.lc a.bc x.L x.al x.th x.B x.dn, .int .i64 N, .int .i64 (x.lvs - day)] wx fun e w' => e = .returned (.int .i64 (Fo.P.penV x.B N (x.lvs - day))) ∧ Below wx.heap.size wx w') := fun wx hx => Fo.penaltyOf_any a.lo a.bo a.lc a.bc x.L x.al x.th x.B x.dn N (x.lvs - day) wx hx HBB.out ⟨by omega, by omega⟩
  generalize Fo.P.penV x.B N (x.lvs - day) = PN at HPQ HPN
  clear HPV hmx
  have h5' : ¬ x.lvs - day < 0 := by omega
  obtain ⟨d0, d1, d2, d3, d4, d5, d6, d7, d8, d9, d10, d11, d12⟩ := SRow.box HX6.out
  go_wp2_with fail
  refine Calls.mono (HPQ.out _ (HS.out.below hB6).fare) ?_
  rintro e w7 ⟨rfl, hb7⟩
  have HY7 : Aside (RowIs w7 (w.heap.size + 1) (C.bk b fo fc)) := HY6.out.below hb7
  have HZ7 : Aside (RowIs w7 (w.heap.size + 1 + 1) C.bk0) := HZ6.out.below hb7
  have hB7 := bvia hB6 hb7
  clear d0 d1 d2 d3 d4 d5 d6 d7 d8 d9 d10 d11 d12 z0 z1 z2 z3 z4 z5 z6 z7 z8 z9 z10 hb7
  have HCN : Aside (∀ wx, Fo.EntsAt wx fo fc b.fol → Calls Tryz.prog 134 #[.slice fo b.fol.length fc, .int .i64 day, .int .i64 (PN)] wx fun e w' => ∃ v, e = .returned (.tuple #[v, .int .i64 (P.goE x b day)]) ∧ Fo.OwnN w' wx.heap.size v (P.goL x b day) ∧ Below wx.heap.size wx w') := fun wx hx => by
    have h := Fo.cancelOf_any fo fc b.fol day (PN) wx hx HF0.out (HPN.out.2.1) (HPN.out.2.2)
    rw [show P.goE x b day = Fo.P.folE (b.fol ++ Fo.P.come b.fol day (PN)) by rw [P.goE, if_neg HNB.out, HPN.out.1], show P.goL x b day = Fo.P.plus b.fol (Fo.P.come b.fol day (PN)) by rw [P.goL, HPN.out.1]]
    exact h
  obtain ⟨z0, z1, z2, z3, z4, z5, z6, z7, z8, z9, z10⟩ := HY7.out.bbox
  obtain ⟨L, hL⟩ : ∃ L, P.goL x b day = L := ⟨_, rfl⟩
  rw [hL] at HCN
  have HLL : Aside (P.goL x b day = L) := hL
  clear hL
  go_wp2_with fail
  refine Calls.mono (HCN.out _ (SlAt.below Fo.REnt.mono HFE.out hB7)) ?_
  rintro e w8 ⟨v, rfl, hv, hb8⟩
  obtain ⟨ao8, cap8, rfl⟩ := OwnC.form hv
  have HY8 : Aside (RowIs w8 (w.heap.size + 1) (C.bk b fo fc)) := HY7.out.below hb8
  have HZ8 : Aside (RowIs w8 (w.heap.size + 1 + 1) C.bk0) := HZ7.out.below hb8
  have HO8 : Aside (Fo.OwnN w8 w7.heap.size (.slice ao8 L.length cap8) L) := hv
  have hB8 := bvia hB7 hb8
  have HB8 : Aside (Below w.heap.size w w8) := hB8
  have hlz := HZ7.out.lt
  clear z0 z1 z2 z3 z4 z5 z6 z7 z8 z9 z10 hv hb8 HCN
  obtain ⟨z0, z1, z2, z3, z4, z5, z6, z7, z8, z9, z10⟩ := HY8.out.bbox
  cases hz : (P.goE x b day != 0)
  rotate_left
  · have HE : Aside (¬ P.goE x b day = 0) := by show ¬ _; simpa using hz
    go_wp2_with ((with_reducible refine wpList_stO (w.heap.size + 1 + 1) C.bk0 (C.bk b fo fc) ?_ ?_ ?_ HZ8.out ?_ ?_ ?_); exact Tryz.sizeBg; rfl; rfl; rfl; exact all_one rfl; intro w9 hr9 hg9)
    exact bodyPost_ret (res2 rfl hr9 _ rfl rfl Tryz.underlying37 rfl Tryz.sizeBg) rfl ⟨b, fo, fc, rfl, below_gr hB8 hB8.size hg9 (by omega), fun h => ⟨rfl, rfl, rfl⟩, fun h => absurd h HE.out⟩
  have HE : Aside (P.goE x b day = 0) := by show _ = _; simpa using hz
  obtain ⟨V, hV⟩ : ∃ V, (.slice ao8 L.length cap8 : Value) = V := ⟨_, rfl⟩
  have g1 := grown_st w8 (w.heap.size + 1) 10 V
  have g2 := grown_st (w8.setCell ⟨w.heap.size + 1, 10, none⟩ V) (w.heap.size + 1) 2 (.int .i64 3)
  have g3 := grown_st ((w8.setCell ⟨w.heap.size + 1, 10, none⟩ V).setCell ⟨w.heap.size + 1, 2, none⟩ (.int .i64 3)) (w.heap.size + 1) 9 (.int .i64 0)
  have hlt8 := HY8.out.lt
  have HZ9 : Aside (RowIs (((w8.setCell ⟨w.heap.size + 1, 10, none⟩ V).setCell ⟨w.heap.size + 1, 2, none⟩ (.int .i64 3)).setCell ⟨w.heap.size + 1, 9, none⟩ (.int .i64 0)) (w.heap.size + 1 + 1) C.bk0) := ((HZ8.out.gr g1 (by simp)).gr g2 (by simp)).gr g3 (by simp)
  have HB9 : Aside (Below w.heap.size w (((w8.setCell ⟨w.heap.size + 1, 10, none⟩ V).setCell ⟨w.heap.size + 1, 2, none⟩ (.int .i64 3)).setCell ⟨w.heap.size + 1, 9, none⟩ (.int .i64 0))) :=
    below_gr (below_gr (below_gr hB8 hB8.size g1 (by omega)) (Nat.le_trans hB8.size g1.size) g2 (by omega)) (Nat.le_trans (Nat.le_trans hB8.size g1.size) g2.size) g3 (by omega)
  have HO9 : Aside (Fo.OwnN (((w8.setCell ⟨w.heap.size + 1, 10, none⟩ V).setCell ⟨w.heap.size + 1, 2, none⟩ (.int .i64 3)).setCell ⟨w.heap.size + 1, 9, none⟩ (.int .i64 0)) w7.heap.size (.slice ao8 L.length cap8) L) := by
    have o1 := OwnC.apart HO8.out g1 (fun r e hv => by cases e; have := (HO8.out.lt _ hv).1; omega)
    have o2 := OwnC.apart o1 g2 (fun r e hv => by cases e; have := (o1.lt _ hv).1; omega)
    exact OwnC.apart o2 g3 (fun r e hv => by cases e; have := (o2.lt _ hv).1; omega)
  have f2 := HY8.out.free 2
  have f9 := HY8.out.free 9
  have f10 := HY8.out.free 10
  have HZB : Aside (w.heap.size ≤ w7.heap.size) := by have := HZ7.out.lt; show _ ≤ _; omega
  clear g1 g2 g3 hB8
  subst hV
  go_wp2_with ((with_reducible refine wpList_stO (w.heap.size + 1 + 1) C.bk0 (C.bk (P.goneB b L) ao8 cap8) ?_ ?_ ?_ HZ9.out ?_ ?_ ?_); exact Tryz.sizeBg; rfl; rfl; rfl; exact all_one rfl; intro w9 hr9 hg9)
  have hB9 := below_gr HB9.out HB9.out.size hg9 (by omega)
  have own9 := Fo.OwnC.weaken (OwnC.apart HO9.out hg9 (fun r e hv => by cases e; have := (HO9.out.lt _ hv).1; omega)) HZB.out
  exact bodyPost_ret (res2 rfl hr9 _ rfl rfl Tryz.underlying37 rfl Tryz.sizeBg) rfl ⟨P.goneB b L, ao8, cap8, rfl, hB9, fun h => absurd HE.out h, fun h => ⟨by rw [HLL.out], own9⟩⟩

/-- The two tell alike. -/
theorem gone_cn {x : Sail} {b : Bkg} (hE : P.SailE x 0) (hb : b ∈ x.bks) (h3 : b.state ≠ 3) : P.cnE x b = P.goE x b x.day ∧ (P.cnE x b = 0 → P.cnB x b = P.goneB b (P.goL x b x.day)) := by
  obtain ⟨hp, hf, h0, hbk, _⟩ := sail_ok hE
  obtain ⟨_, g2, g3, g4, _⟩ := frame_zero hf
  obtain ⟨_, _, _, _, _, _, _, hst, hfo⟩ := bk_ok (hbk b hb)
  have hBB := Fo.bandsE_in (Fo.fareE_zero g2).2.2.2.2.2.2.2
  have hmx : ∀ n, 0 ≤ P.mx n := fun n => by rw [P.mx]; split <;> omega
  have key : ∀ pen : Int, 0 ≤ pen → pen ≤ 100000000 → Fo.P.canE b.fol x.day pen = Fo.P.folE (b.fol ++ Fo.P.come b.fol x.day pen) ∧ Fo.P.can b.fol x.day pen = Fo.P.plus b.fol (Fo.P.come b.fol x.day pen) := fun pen h1 h2 => by
    rw [Fo.P.canE, Fo.P.can, if_pos hfo, if_pos hfo, if_neg (by omega), if_neg (by omega)]
    exact ⟨rfl, rfl⟩
  rcases hst with h1 | h1 | h1
  · have e1 : P.canE x b = 0 := by rw [P.canE, if_pos h1]
    have e2 : P.canP x b = 0 := by rw [P.canP, if_pos h1]
    have e3 : P.goP x b x.day = 0 := by rw [P.goP, if_neg (by omega)]
    obtain ⟨k1, k2⟩ := key 0 (by decide) (by decide)
    have e4 : P.cnE x b = P.goE x b x.day := by rw [P.cnE, if_pos e1, e2, k1, P.goE, if_neg (by omega), e3]
    exact ⟨e4, fun _ => by rw [P.cnB, e2, k2, P.goL, e3]⟩
  · have e1 : P.canE x b = Fo.P.penE x.L x.al x.th x.B x.dn x.s.cs.length x.s.legs (P.mx (Fo.P.ftot Fo.P.isFare b.fol)) (P.mx (x.lvs - x.day)) := by rw [P.canE, if_neg (by omega)]
    have e2 : P.canP x b = Fo.P.pen x.L x.al x.th x.B x.dn x.s.cs.length x.s.legs (P.mx (Fo.P.ftot Fo.P.isFare b.fol)) (P.mx (x.lvs - x.day)) := by rw [P.canP, if_neg (by omega)]
    have hfe : Fo.P.fareE x.L x.al x.th x.B x.dn x.s.cs.length x.s.legs = 0 := g2
    have hd0 := hmx (x.lvs - x.day)
    have hn0 := hmx (Fo.P.ftot Fo.P.isFare b.fol)
    by_cases hbig : 100000000 < Fo.P.ftot Fo.P.isFare b.fol
    · have hm : P.mx (Fo.P.ftot Fo.P.isFare b.fol) = Fo.P.ftot Fo.P.isFare b.fol := by rw [P.mx, if_pos (by omega)]
      have hP : Fo.P.fareP x.L x.al x.th x.B x.dn x.s.cs.length x.s.legs (P.mx (Fo.P.ftot Fo.P.isFare b.fol)) = 3 := by
        rw [Fo.P.fareP, if_pos hfe, if_neg]
        rw [hm]
        simp [P.btw]
        omega
      have e3 : P.canE x b = 3 := by rw [e1, Fo.P.penE, if_neg (by rw [hP]; decide), hP]
      have e4 : P.cnE x b = 3 := by rw [P.cnE, if_neg (by rw [e3]; decide), e3]
      exact ⟨by rw [e4, P.goE, if_pos ⟨h1, hbig⟩], fun h => absurd (e4.symm.trans h) (by decide)⟩
    · have hle : P.mx (Fo.P.ftot Fo.P.isFare b.fol) ≤ 100000000 := by rw [P.mx]; split <;> omega
      have hP : Fo.P.fareP x.L x.al x.th x.B x.dn x.s.cs.length x.s.legs (P.mx (Fo.P.ftot Fo.P.isFare b.fol)) = 0 := by
        rw [Fo.P.fareP, if_pos hfe, if_pos]
        simp [P.btw]
        omega
      have e3 : P.canE x b = 0 := by rw [e1, Fo.P.penE, if_pos hP, if_neg (by omega)]
      have e4 : P.canP x b = Fo.P.penV x.B (P.mx (Fo.P.ftot Fo.P.isFare b.fol)) (P.mx (x.lvs - x.day)) := by rw [e2, Fo.P.pen, if_pos (by rw [← e1, e3])]
      have hpv := Fo.penV_in (d := P.mx (x.lvs - x.day)) hBB hn0
      have e5 : P.canP x b = P.goP x b x.day := by
        rw [e4, P.goP]
        by_cases hn : 0 < Fo.P.ftot Fo.P.isFare b.fol
        · rw [if_pos ⟨h1, hn⟩]
          congr 1
          rw [P.mx, if_pos hn]
        · rw [if_neg (fun h => hn h.2)]
          have hm : P.mx (Fo.P.ftot Fo.P.isFare b.fol) = 0 := by rw [P.mx, if_neg hn]
          rw [hm] at hpv ⊢
          omega
      obtain ⟨k1, k2⟩ := key (P.canP x b) (by rw [e4]; omega) (by rw [e4]; omega)
      have e6 : P.cnE x b = P.goE x b x.day := by rw [P.cnE, if_pos e3, k1, P.goE, if_neg (fun h => hbig h.2), e5]
      exact ⟨e6, fun _ => by rw [P.cnB, k2, P.goL, e5]⟩
  · exact absurd h1 h3

end Go.Proofs.YtlamhfbdeinkkaeGreat.St
