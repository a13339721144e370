/- Walk of folioIs; the walk of FolioTells. -/
import Derived.Test.YtagjlckmemmflacFolK
import Derived.Test.YtagjlckmemmflacGenC
namespace Go.Proofs.Ytagjlckmemmflac
open Go.RowKit
set_option linter.unusedSimpArgs false
set_option linter.unusedVariables false

set_option maxHeartbeats 1000000 in
theorem folioIs_true (ao bo : Option Addr) (ca cb : Nat) (a b : List Ent) (e : Int) (w : World) (ha : EntsAt w ao ca a) (hb : EntsAt w bo cb b) (h1 : e = 0 → a = b) (h2 : e ≠ 0 → a = []) :
    Calls Try.prog 27 #[.slice ao a.length ca, .int .i64 e, .int .i64 e, .slice bo b.length cb] w fun e w' => e = .returned (.bool true) ∧ Below w.heap.size w w' := by
  by_cases he : e = 0
  · have h := h1 he
    subst h he
    clear h1 h2
    go_enter Try.func27, Try.ntmps27
    go_wp2_with fail
    refine (sameFolio_any ao bo ca cb a a _ ha hb).mono ?_
    rintro e w1 ⟨rfl, hb1⟩
    rw [show decide (a = a) = true by simp]
    go_wp2
    go_ret
    exact ⟨rfl, hb1⟩
  · have h := h2 he
    subst h
    have he2 : (e == 0) = false := by simpa using he
    clear h1 h2 he
    go_enter Try.func27, Try.ntmps27
    go_wp2_with fail
    refine (sameFolio_any ao none ca 0 [] [] _ ha (SlAt.nilOf _)).mono ?_
    rintro e w1 ⟨rfl, hb1⟩
    go_wp2
    go_ret
    exact ⟨by simp, hb1⟩

theorem add_nil {l : List Ent} {x : Ent} (h : P.addE l x ≠ 0) : P.add l x = [] := by
  unfold P.addE at h
  unfold P.add
  split
  · rw [if_pos (by assumption)] at h
    exact plus_neg h
  · rfl

theorem heap_new2N (w : World) (a b : Obj) : ((w.alloc a).alloc b).heap[w.heap.size + 1]? = some b := by
  have := heap_alloc_new (w.alloc a) b
  rwa [World.size_alloc] at this
theorem heap_old2N (w : World) (a b : Obj) : ((w.alloc a).alloc b).heap[w.heap.size]? = some a := (Below.heap_alloc _ _ _ (by simp)).trans (heap_alloc_new w a)

/-- 'append([]Entry{}, x...)' -/
theorem wpN_app1 {o : Oper} {a : Act} {K : Act → World → Prop} {Q : Exit → Act → World → Prop} {u W0 : World} (s x : Operand) (ho : o.op = .call { callee := .builtin .append, args := #[s, x], argTypes := #[42, 42] }) (B : Nat) (hao : Option Addr) (hcap : Nat) (l : List Ent)
    (hv : a.eval s = .slice (some ⟨B, 0, none⟩) 0 0) (hbase : W0.heap.size ≤ B) (hB : u.heap[B]? = some (.cells #[] 44 (0, 0))) (hx : a.eval x = .slice hao l.length hcap) (hin : EntsAt u hao hcap l) (hl : l.length ≤ 1000) (hB0 : Below W0.heap.size W0 u)
    (h : ∀ ao cap u', OwnN u' W0.heap.size (.slice ao l.length cap) l → Below u.heap.size u u' → Below W0.heap.size W0 u' → K (a.put o.dst (.slice ao l.length cap)) u') : o.wp Try.prog a u K Q :=
  wpC_app1 Try.infoEntry Try.underlying42 rfl (by decide) cellsN_len cellsN_one (by decide) s x ho B hao hcap l hv hbase hB hx hin hl hB0 h
/-- 'append(v, y)' -/
theorem wpN_app3 {o : Oper} {a : Act} {K : Act → World → Prop} {Q : Exit → Act → World → Prop} {u : World} {base : Nat} (s x : Operand) (ho : o.op = .call { callee := .builtin .append, args := #[s, x], argTypes := #[42, 42] }) (v : Value) (B : Nat) (l L : List Ent) (d k m : Int) (hL : l ++ [(d, k, m)] = L)
    (hv : a.eval s = v) (hown : OwnN u base v l) (hx : a.eval x = .slice (some ⟨B, 0, none⟩) 1 1) (h0 : u.cell? ⟨B, 0, none⟩ = some (.int .i64 d)) (h1 : u.cell? ⟨B, 1, none⟩ = some (.int .i64 k)) (h2 : u.cell? ⟨B, 2, none⟩ = some (.int .i64 m)) (hl : l.length ≤ 1000) (hbase : base ≤ u.heap.size)
    (h : ∀ g cap u', OwnN u' base (.slice (some ⟨g, 0, none⟩) L.length cap) L → u.grownBy u' v.ownBlock → K (a.put o.dst (.slice (some ⟨g, 0, none⟩) L.length cap)) u') : o.wp Try.prog a u K Q :=
  wpC_app3 Try.infoEntry Try.underlying42 rfl (by decide) cellsN_len cellsN_one (by decide) s x ho v B l L (d, k, m) hL hv hown hx (fun j c hj => by
    match j, hj with
    | 0, hj => simp [cellsN] at hj; subst hj; exact h0
    | 1, hj => simp [cellsN] at hj; subst hj; exact h1
    | 2, hj => simp [cellsN] at hj; subst hj; exact h2) hl hbase h
theorem OwnN.at' {w : World} {base : Nat} {ao : Option Addr} {n cap : Nat} {l : List Ent} (h : OwnN w base (.slice ao n cap) l) : EntsAt w ao cap l := by
  obtain ⟨ao', cap', e, h2⟩ := OwnN.at h
  simp only [Value.slice.injEq] at e
  obtain ⟨rfl, rfl, rfl⟩ := e
  exact h2

/-- The box of an entry that was handed in. -/
structure BoxN (w : World) (b : Nat) (d k m : Int) : Prop where
  c0 : w.cell? ⟨b, 0, none⟩ = some (.int .i64 d)
  c1 : w.cell? ⟨b, 1, none⟩ = some (.int .i64 k)
  c2 : w.cell? ⟨b, 2, none⟩ = some (.int .i64 m)
theorem BoxN.below {w w' : World} {b : Nat} {d k m : Int} (h : BoxN w b d k m) (hb : Below w.heap.size w w') : BoxN w' b d k m := ⟨cellIn hb h.c0, cellIn hb h.c1, cellIn hb h.c2⟩

set_option maxHeartbeats 8000000 in
theorem folioTells_walk (ao : Option Addr) (cap : Nat) (l : List Ent) (d k m day pen : Int) (w : World) (hl : EntsAt w ao cap l) :
    Calls Try.prog 6 #[.slice ao l.length cap, .agg #[.int .i64 d, .int .i64 k, .int .i64 m], .int .i64 day, .int .i64 pen] w fun e w' => e = .returned (.bool true) ∧ Below w.heap.size w w' := by
  have hle := hl.le
  have hmx := hl.max
  unfold maxLen at hmx
  obtain ⟨A, hA⟩ : ∃ A, P.add l (d, k, m) = A := ⟨_, rfl⟩
  obtain ⟨eA, heA⟩ : ∃ A, P.addE l (d, k, m) = A := ⟨_, rfl⟩
  obtain ⟨B, hBl⟩ : ∃ A, P.can l day pen = A := ⟨_, rfl⟩
  obtain ⟨eB, heB⟩ : ∃ A, P.canE l day pen = A := ⟨_, rfl⟩
  have HA : Aside (P.add l (d, k, m) = A ∧ P.addE l (d, k, m) = eA ∧ P.can l day pen = B ∧ P.canE l day pen = eB) := ⟨hA, heA, hBl, heB⟩
  have HNA : Aside (eA ≠ 0 → A = []) := fun h => by rw [← hA]; exact add_nil (by rw [heA]; exact h)
  have HNB : Aside (eB ≠ 0 → B = []) := fun h => by rw [← hBl]; exact can_nil (by rw [heB]; exact h)
  clear hA heA hBl heB
  go_enter Try.func6, Try.ntmps6
  go_wp2_with fail
  refine (owed_any ao cap l _ (SlAt.below REnt.mono hl (by go_grown))).mono ?_
  rintro e w1 ⟨rfl, hb1⟩
  have hB : Below w.heap.size w w1 := bvia (by go_grown) hb1
  have k0 : w1.cell? ⟨w.heap.size, 0, none⟩ = some (.int .i64 d) := cellIn hb1 (by simp)
  have k1 : w1.cell? ⟨w.heap.size, 1, none⟩ = some (.int .i64 k) := cellIn hb1 (by simp)
  have k2 : w1.cell? ⟨w.heap.size, 2, none⟩ = some (.int .i64 m) := cellIn hb1 (by simp)
  clear hb1
  go_wp2_with fail
  refine (add_any ao cap l d k m _ (SlAt.below REnt.mono hl hB)).mono ?_
  rintro e w2 ⟨v2, rfl, hown2, hb2⟩
  rw [HA.out.1] at hown2
  obtain ⟨ao2, cap2, rfl, s2⟩ := OwnN.at hown2
  clear hown2
  replace hB := bvia hB hb2
  obtain ⟨k0, k1, k2⟩ := (BoxN.mk k0 k1 k2).below hb2
  clear hb2
  rw [HA.out.2.1]
  go_wp2_with fail
  refine (cancel_any ao cap l day pen _ (SlAt.below REnt.mono hl hB)).mono ?_
  rintro e w3 ⟨v3, rfl, hown3, hb3⟩
  rw [HA.out.2.2.1] at hown3
  obtain ⟨ao3, cap3, rfl, s3⟩ := OwnN.at hown3
  clear hown3
  replace hB := bvia hB hb3
  replace s2 := SlAt.below REnt.mono s2 hb3
  obtain ⟨k0, k1, k2⟩ := (BoxN.mk k0 k1 k2).below hb3
  clear hb3
  rw [HA.out.2.2.2]
  go_wp2_with fail
  refine (checkFolio_any ao cap l _ (SlAt.below REnt.mono hl hB)).mono ?_
  rintro e w4 ⟨rfl, hb4⟩
  replace hB := bvia hB hb4
  replace s2 := SlAt.below REnt.mono s2 hb4
  replace s3 := SlAt.below REnt.mono s3 hb4
  obtain ⟨k0, k1, k2⟩ := (BoxN.mk k0 k1 k2).below hb4
  clear hb4
  by_cases he : P.folE l = 0
  rotate_left
  · have he2 : (P.folE l == 0) = false := by simpa using he
    have hA := HA.out
    rw [P.add, if_neg he, P.addE, if_neg he, P.can, if_neg he, P.canE, if_neg he] at hA
    obtain ⟨rfl, rfl, rfl, rfl⟩ := hA
    have ho : P.owed l = 0 := by rw [P.owed, if_neg he]
    rw [ho]
    clear HA HNA HNB
    go_wp2_with fail
    refine (folioBegun_any _).mono ?_
    rintro e w5 ⟨rfl, hb5⟩
    replace hB := bvia hB hb5
    replace s2 := SlAt.below REnt.mono s2 hb5
    replace s3 := SlAt.below REnt.mono s3 hb5
    clear hb5
    go_wp2_with fail
    refine (folCheck_any ao cap l _ (SlAt.below REnt.mono hl hB)).mono ?_
    rintro e w6 ⟨rfl, hb6⟩
    replace hB := bvia hB hb6
    replace s2 := SlAt.below REnt.mono s2 hb6
    replace s3 := SlAt.below REnt.mono s3 hb6
    clear hb6
    go_wp2_with fail
    refine (folioIs_true ao2 none cap2 0 [] [] _ _ s2 (SlAt.nilOf _) (fun _ => rfl) (fun _ => rfl)).mono ?_
    rintro e w7 ⟨rfl, hb7⟩
    replace hB := bvia hB hb7
    replace s3 := SlAt.below REnt.mono s3 hb7
    clear hb7
    go_wp2_with fail
    refine (folioIs_true ao3 none cap3 0 [] [] _ _ s3 (SlAt.nilOf _) (fun _ => rfl) (fun _ => rfl)).mono ?_
    rintro e w8 ⟨rfl, hb8⟩
    replace hB := bvia hB hb8
    clear hb8
    go_wp2
    go_ret
    exact ⟨rfl, hB⟩
  have h12 := folE_len he
  have ho : P.owed l = P.ftot P.all l := by rw [P.owed, if_pos he, sumL_ftot]
  rw [ho, he]
  have HS : Aside (∀ wx, EntsAt wx ao cap l → Calls Try.prog 23 #[.slice ao l.length cap, .int .i64 0] wx fun e w' => e = .returned (.int .i64 (P.ftot P.all l)) ∧ Below wx.heap.size wx w') := fun wx hx => by
    rw [← ofKind_zero]; exact sumOf_any ao cap l 0 wx hx (by omega) (fun x hx => by have := folE_amt he x hx; omega)
  generalize P.ftot P.all l = T at HS
  obtain ⟨L, hL⟩ : ∃ L, l ++ [((d, k, m) : Ent)] = L := ⟨_, rfl⟩
  have HL : Aside (l ++ [((d, k, m) : Ent)] = L ∧ P.folE L = eA ∧ (eA = 0 → A = L)) := by
    refine ⟨hL, ?_, fun h => ?_⟩
    · rw [← HA.out.2.1, P.addE, if_pos he, hL]
    · have h' : P.folE (l ++ [((d, k, m) : Ent)]) = 0 := by rw [← h, ← HA.out.2.1, P.addE, if_pos he]
      rw [← HA.out.1, P.add, if_pos he, plus_pos h', hL]
  clear hL ho
  go_wp2_with fail
  refine Calls.mono (HS.out _ (SlAt.below REnt.mono hl hB)) ?_
  rintro e w5 ⟨rfl, hb5⟩
  replace hB := bvia hB hb5
  replace s2 := SlAt.below REnt.mono s2 hb5
  replace s3 := SlAt.below REnt.mono s3 hb5
  obtain ⟨k0, k1, k2⟩ := (BoxN.mk k0 k1 k2).below hb5
  clear hb5
  have hl5 := SlAt.below REnt.mono hl hB
  have hlt5 : w.heap.size < w5.heap.size := World.block_lt_of_cell? w5 _ k0
  go_wp2_with fail
  go_region_held3 (fun u => u.cell? ⟨w.heap.size, 0, none⟩ = some (.int .i64 d) ∧ u.cell? ⟨w.heap.size, 1, none⟩ = some (.int .i64 k) ∧ u.cell? ⟨w.heap.size, 2, none⟩ = some (.int .i64 m))
    (first
      | exact ⟨cellIn bW2 k0, cellIn bW2 k1, cellIn bW2 k2⟩
      | exact ⟨cellIn bW k0, cellIn bW k1, cellIn bW k2⟩
      | go_keep)
    (first
      | (refine step_of' (by rfl) (wpN_app1 (W0 := w5) _ _ (by rfl) _ ao cap l (by rfl) (by first | exact Nat.le_refl _ | exact Nat.le_add_right _ _) (by first | exact heap_alloc_new _ _ | exact heap_old2N _ _ _ | exact heap_new2N _ _ _) (by rfl) (SlAt.below REnt.mono hl5 (by go_grown)) (by omega) (by go_grown) ?_); intro ao6 cap6 u6 own6 bu6 bW)
      | (refine step_of' (by rfl) (wpN_app3 (base := w5.heap.size) _ _ (by rfl) _ _ l L d k m HL.out.1 (by rfl) (by first | exact own6 | exact OwnC.below own6 (by go_grown)) (by rfl) (by first | simp | exact cellIn bu6 (by simp)) (by first | simp | exact cellIn bu6 (by simp)) (by first | simp | exact cellIn bu6 (by simp)) (by omega) (by first | exact bW.size | (have := bW.size; simp; omega)) ?_); intro g7 cap7 u7 own7 gr7; have bW2 : Below w5.heap.size w5 u7 := (by first | exact OwnC.grown bW own6 (Nat.le_refl _) gr7 | exact OwnC.grown (bvia bW (by go_grown)) (OwnC.below own6 (by go_grown)) (Nat.le_refl _) gr7)))
  all_goals (
    replace hB := bvia hB bW2
    replace s2 := SlAt.below REnt.mono s2 bW2
    replace s3 := SlAt.below REnt.mono s3 bW2
    have s7 := OwnN.at' own7
    clear own6 own7 bu6 bW bW2 k0 k1 k2 hl5 hlt5
    go_wp2_with fail
    refine (checkFolio_any _ cap7 L _ s7).mono ?_
    rintro e w8 ⟨rfl, hb8⟩
    replace hB := bvia hB hb8
    replace s2 := SlAt.below REnt.mono s2 hb8
    replace s3 := SlAt.below REnt.mono s3 hb8
    replace s7 := SlAt.below REnt.mono s7 hb8
    clear hb8
    rw [HL.out.2.1]
    by_cases hp : pen < 0 ∨ 100000000 < pen
    · have hb := HA.out.2.2
      rw [P.can, if_pos he, if_pos hp, P.canE, if_pos he, if_pos hp] at hb
      obtain ⟨rfl, rfl⟩ := hb
      by_cases hp0 : pen < 0
      · clear hp
        go_wp2_with fail
        refine (folioBegun_any _).mono ?_
        rintro e w10 ⟨rfl, hbx⟩
        replace hB := bvia hB hbx
        replace s2 := SlAt.below REnt.mono s2 hbx
        replace s3 := SlAt.below REnt.mono s3 hbx
        replace s7 := SlAt.below REnt.mono s7 hbx 
        clear hbx
        go_wp2_with fail
        refine (folCheck_any ao cap l _ (SlAt.below REnt.mono hl hB)).mono ?_
        rintro e w11 ⟨rfl, hbx⟩
        replace hB := bvia hB hbx
        replace s2 := SlAt.below REnt.mono s2 hbx
        replace s3 := SlAt.below REnt.mono s3 hbx
        replace s7 := SlAt.below REnt.mono s7 hbx 
        clear hbx
        rw [he]
        go_wp2_with fail
        refine (folioIs_true ao2 _ cap2 _ A L eA _ s2 s7 HL.out.2.2 HNA.out).mono ?_
        rintro e w12 ⟨rfl, hbx⟩
        replace hB := bvia hB hbx
        replace s3 := SlAt.below REnt.mono s3 hbx 
        clear hbx
        go_wp2_with fail
        refine (folioIs_true ao3 none cap3 0 [] [] 3 _ s3 (SlAt.nilOf _) (fun _ => rfl) (fun _ => rfl)).mono ?_
        rintro e w13 ⟨rfl, hbx⟩
        replace hB := bvia hB hbx
        clear hbx
        go_wp2
        go_ret
        exact ⟨rfl, hB⟩
      · have hp1 : 100000000 < pen := hp.resolve_left hp0
        clear hp
        go_wp2_with fail
        refine (folioBegun_any _).mono ?_
        rintro e w10 ⟨rfl, hbx⟩
        replace hB := bvia hB hbx
        replace s2 := SlAt.below REnt.mono s2 hbx
        replace s3 := SlAt.below REnt.mono s3 hbx
        replace s7 := SlAt.below REnt.mono s7 hbx 
        clear hbx
        go_wp2_with fail
        refine (folCheck_any ao cap l _ (SlAt.below REnt.mono hl hB)).mono ?_
        rintro e w11 ⟨rfl, hbx⟩
        replace hB := bvia hB hbx
        replace s2 := SlAt.below REnt.mono s2 hbx
        replace s3 := SlAt.below REnt.mono s3 hbx
        replace s7 := SlAt.below REnt.mono s7 hbx 
        clear hbx
        rw [he]
        go_wp2_with fail
        refine (folioIs_true ao2 _ cap2 _ A L eA _ s2 s7 HL.out.2.2 HNA.out).mono ?_
        rintro e w12 ⟨rfl, hbx⟩
        replace hB := bvia hB hbx
        replace s3 := SlAt.below REnt.mono s3 hbx 
        clear hbx
        go_wp2_with fail
        refine (folioIs_true ao3 none cap3 0 [] [] 3 _ s3 (SlAt.nilOf _) (fun _ => rfl) (fun _ => rfl)).mono ?_
        rintro e w13 ⟨rfl, hbx⟩
        replace hB := bvia hB hbx
        clear hbx
        go_wp2
        go_ret
        exact ⟨rfl, hB⟩
    · have hp0 : ¬ pen < 0 := fun h => hp (.inl h)
      have hp1 : ¬ 100000000 < pen := fun h => hp (.inr h)
      have hb := HA.out.2.2
      rw [P.can, if_pos he, if_neg hp, P.canE, if_pos he, if_neg hp] at hb
      clear hp
      have HCO : Aside (∀ wx, EntsAt wx ao cap l → Calls Try.prog 24 #[.slice ao l.length cap, .int .i64 day, .int .i64 pen] wx fun e w' => ∃ v, e = .returned (.tuple #[v, .int .i64 eB]) ∧ OwnN w' wx.heap.size v B ∧ Below wx.heap.size wx w') := fun wx hx => by
        rw [← hb.1, ← hb.2]; exact cancelOf_any ao cap l day pen wx hx he (by omega) (by omega)
      clear hb
      obtain ⟨C, hCB⟩ : ∃ C, B = C := ⟨_, rfl⟩
      have HC : Aside (eB = 0 → B = C) := fun _ => hCB
      have HCB : Aside (B = C) := hCB
      clear hCB
      go_wp2_with fail
      refine Calls.mono (HCO.out _ (SlAt.below REnt.mono hl hB)) ?_
      rintro e w9 ⟨v9, rfl, hown9, hbx⟩
      rw [HCB.out] at hown9
      obtain ⟨ao9, cap9, rfl, s9⟩ := OwnN.at hown9
      clear hown9
      replace hB := bvia hB hbx
      replace s2 := SlAt.below REnt.mono s2 hbx
      replace s3 := SlAt.below REnt.mono s3 hbx
      replace s7 := SlAt.below REnt.mono s7 hbx
      clear hbx
      by_cases hx0 : True
      · skip
        go_wp2_with fail
        refine (folioBegun_any _).mono ?_
        rintro e w10 ⟨rfl, hbx⟩
        replace hB := bvia hB hbx
        replace s2 := SlAt.below REnt.mono s2 hbx
        replace s3 := SlAt.below REnt.mono s3 hbx
        replace s7 := SlAt.below REnt.mono s7 hbx
        replace s9 := SlAt.below REnt.mono s9 hbx
        clear hbx
        go_wp2_with fail
        refine (folCheck_any ao cap l _ (SlAt.below REnt.mono hl hB)).mono ?_
        rintro e w11 ⟨rfl, hbx⟩
        replace hB := bvia hB hbx
        replace s2 := SlAt.below REnt.mono s2 hbx
        replace s3 := SlAt.below REnt.mono s3 hbx
        replace s7 := SlAt.below REnt.mono s7 hbx
        replace s9 := SlAt.below REnt.mono s9 hbx
        clear hbx
        rw [he]
        go_wp2_with fail
        refine (folioIs_true ao2 _ cap2 _ A L eA _ s2 s7 HL.out.2.2 HNA.out).mono ?_
        rintro e w12 ⟨rfl, hbx⟩
        replace hB := bvia hB hbx
        replace s3 := SlAt.below REnt.mono s3 hbx
        replace s9 := SlAt.below REnt.mono s9 hbx
        clear hbx
        go_wp2_with fail
        refine (folioIs_true ao3 _ cap3 _ B C eB _ s3 s9 HC.out HNB.out).mono ?_
        rintro e w13 ⟨rfl, hbx⟩
        replace hB := bvia hB hbx
        clear hbx
        go_wp2
        go_ret
        exact ⟨rfl, hB⟩
      · exact absurd trivial hx0)

end Go.Proofs.Ytagjlckmemmflac
