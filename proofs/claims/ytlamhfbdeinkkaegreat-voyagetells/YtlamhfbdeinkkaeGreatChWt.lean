/- The reference: goneOf. -/
import Derived.Test.YtlamhfbdeinkkaeGreatChGt
import Derived.Test.YtlamhfbdeinkkaeGreatTwAt
import Derived.Test.YtlamhfbdeinkkaeGreatFoCt
import Derived.Deep.RegionHeld3
namespace Go.Proofs.YtlamhfbdeinkkaeGreat.St
open Go.RowKit Bk
set_option linter.unusedSimpArgs false
set_option linter.unusedVariables false
set_option maxRecDepth 10000

/-- A booking that goes on a day: its penalty; what its folio is then; what is wrong with that. -/
def P.goP (x : Sail) (b : Bkg) (day : Int) : Int := if b.state = 2 ∧ 0 < Fo.P.ftot Fo.P.isFare b.fol then Fo.P.penV x.B (Fo.P.ftot Fo.P.isFare b.fol) (P.mx (x.lvs - day)) else 0
def P.goL (x : Sail) (b : Bkg) (day : Int) : List Fo.Ent := Fo.P.plus b.fol (Fo.P.come b.fol day (P.goP x b day))
def P.goE (x : Sail) (b : Bkg) (day : Int) : Int := if b.state = 2 ∧ 100000000 < Fo.P.ftot Fo.P.isFare b.fol then 3 else Fo.P.folE (b.fol ++ Fo.P.come b.fol day (P.goP x b day))

set_option maxHeartbeats 16000000 in
theorem goneOf_any (x : Sail) (a : SailA) (b : Bkg) (fo : Option Addr) (fc : Nat) (day : Int) (w : World) (hs : SailAt w x a) (hf : Fo.EntsAt w fo fc b.fol) (h0 : Fo.P.folE b.fol = 0) (hBB : ∀ z ∈ x.B, 0 ≤ z.2 ∧ z.2 ≤ 100) (hd : 0 ≤ day ∧ day ≤ 9999) (hl : 0 ≤ x.lvs ∧ x.lvs ≤ 9999) :
    Calls Tryz.prog 81 #[V.sail x a, V.bk b fo fc, .int .i64 day] w fun e w' => ∃ b' fo' fc', e = .returned (.tuple #[V.bk b' fo' fc', .int .i64 (P.goE x b day)]) ∧ Below w.heap.size w w' ∧ (¬ P.goE x b day = 0 → b' = b ∧ fo' = fo ∧ fc' = fc) ∧ (P.goE x b day = 0 → b' = P.goneB b (P.goL x b day) ∧ Fo.OwnN w' w.heap.size (.slice fo' b'.fol.length fc') b'.fol) := by
  have HS : Aside (SailAt w x a) := hs
  have HFE : Aside (Fo.EntsAt w fo fc b.fol) := hf
  have HF0 : Aside (Fo.P.folE b.fol = 0) := h0
  have HBB : Aside (∀ z ∈ x.B, 0 ≤ z.2 ∧ z.2 ≤ 100) := hBB
  have hf12 := Fo.folE_len h0
  have HAM : Aside (∀ z ∈ b.fol, -10000000000 ≤ z.2.2 ∧ z.2.2 ≤ 10000000000) := fun z hz => by
    have := Fo.folE_amt h0 z hz
    omega
  obtain ⟨F1, hF1⟩ : ∃ n, Fo.P.ftot (Fo.P.ofKind 1) b.fol = n := ⟨_, rfl⟩
  obtain ⟨F4, hF4⟩ : ∃ n, Fo.P.ftot (Fo.P.ofKind 4) b.fol = n := ⟨_, rfl⟩
  obtain ⟨N, hN⟩ : ∃ n, Fo.P.ftot Fo.P.isFare b.fol = n := ⟨_, rfl⟩
  have hsum : F1 + F4 = N := by rw [← hF1, ← hF4, ← hN]; exact Fo.fares_two b.fol
  have hb1 := Fo.ftot_12 Fo.P.isFare (Fo.folE_amt h0) hf12
  rw [hN] at hb1
  have hwr : IntKind.i64.wrap (F1 + F4) = N := by rw [hsum, IntKind.wrap_i64]; omega
  have HN : Aside (Fo.P.ftot Fo.P.isFare b.fol = N) := hN
  have HS1 : Aside (∀ wx, Fo.EntsAt wx fo fc b.fol → Calls Tryz.prog 79 #[.slice fo b.fol.length fc, .int .i64 1] wx fun e w' => e = .returned (.int .i64 F1) ∧ Below wx.heap.size wx w') := fun wx hx => by
    rw [← hF1]
    exact Fo.sumOf_any fo fc b.fol 1 wx hx (by omega) HAM.out
  have HS4 : Aside (∀ wx, Fo.EntsAt wx fo fc b.fol → Calls Tryz.prog 79 #[.slice fo b.fol.length fc, .int .i64 4] wx fun e w' => e = .returned (.int .i64 F4) ∧ Below wx.heap.size wx w') := fun wx hx => by
    rw [← hF4]
    exact Fo.sumOf_any fo fc b.fol 4 wx hx (by omega) HAM.out
  have hw2 : IntKind.i64.wrap (x.lvs - day) = x.lvs - day := by rw [IntKind.wrap_i64]; omega
  have HX : Aside (SRow (((w.alloc (.cells (C.sail x a) 32)).alloc (.cells (C.bk b fo fc) 37)).alloc O.bk0) w.heap.size x a) := ((RowIs.new w (C.sail x a) 32).below (al _ _)).below (al _ _)
  have HY : Aside (RowIs (((w.alloc (.cells (C.sail x a) 32)).alloc (.cells (C.bk b fo fc) 37)).alloc O.bk0) (w.heap.size + 1) (C.bk b fo fc)) := by
    have := (RowIs.new (w.alloc (.cells (C.sail x a) 32)) (C.bk b fo fc) 37).below (al _ O.bk0)
    rwa [World.size_alloc] at this
  have HZ : Aside (RowIs (((w.alloc (.cells (C.sail x a) 32)).alloc (.cells (C.bk b fo fc) 37)).alloc O.bk0) (w.heap.size + 1 + 1) C.bk0) := by
    have := RowIs.new ((w.alloc (.cells (C.sail x a) 32)).alloc (.cells (C.bk b fo fc) 37)) C.bk0 37
    rwa [World.size_alloc, World.size_alloc] at this
  have HB : Aside (Below w.heap.size w (((w.alloc (.cells (C.sail x a) 32)).alloc (.cells (C.bk b fo fc) 37)).alloc O.bk0)) := bvia (al _ _) (bvia (al _ _) (al _ _))
  clear hs hf h0 hBB hF1 hF4 hN hsum
  go_enter Tryz.func81, Tryz.ntmps81
  go_wp2
  change Code.wp Tryz.prog _ _ _ (((w.alloc (.cells (C.sail x a) 32)).alloc (.cells (C.bk b fo fc) 37)).alloc O.bk0)
  generalize ((w.alloc (.cells (C.sail x a) 32)).alloc (.cells (C.bk b fo fc) 37)).alloc O.bk0 = wB at HX HY HZ HB ⊢
  have k10 : wB.cell? ⟨w.heap.size + 1, 10, none⟩ = some (.slice fo b.fol.length fc) := HY.out.cell 10
  go_region_held3 (fun u => u.cell? ⟨w.heap.size + 1, 10, none⟩ = some (.slice fo b.fol.length fc))
    (first | with_reducible exact m10 | with_reducible exact l10 | with_reducible exact k10 | go_keep)
    (first
      | (have hh := l10; go_at_call 79; refine Calls.mono (HS4.out _ (SlAt.below Fo.REnt.mono HFE.out (bvia HB.out hb5))) ?_; rintro e w6 ⟨rfl, hb6'⟩; have hb6 : Below wB.heap.size wB w6 := bvia hb5 hb6'; have m10 : w6.cell? ⟨w.heap.size + 1, 10, none⟩ = some (.slice fo b.fol.length fc) := cellIn hb6 k10)
      | (go_at_call 79; refine Calls.mono (HS1.out _ (SlAt.below Fo.REnt.mono HFE.out (bvia HB.out (dr _)))) ?_; rintro e w5 ⟨rfl, hb5'⟩; have hb5 : Below wB.heap.size wB w5 := bvia (dr _) hb5'; have l10 : w5.cell? ⟨w.heap.size + 1, 10, none⟩ = some (.slice fo b.fol.length fc) := cellIn hb5 k10))
  have HX6 : Aside (SRow w6 w.heap.size x a) := HX.out.below hb6
  have HY6 : Aside (RowIs w6 (w.heap.size + 1) (C.bk b fo fc)) := HY.out.below hb6
  have HZ6 : Aside (RowIs w6 (w.heap.size + 1 + 1) C.bk0) := HZ.out.below hb6
  have hB6 := bvia HB.out hb6
  clear k10 l10 m10 hh hb5 hb5' hb6 hb6' HX HY HZ HB HS1 HS4
  obtain ⟨z0, z1, z2, z3, z4, z5, z6, z7, z8, z9, z10⟩ := HY6.out.bbox
  cases h2 : (b.state == 2)
  · have hn2 : ¬ b.state = 2 := by simpa using h2
    have HNB : Aside (¬ (b.state = 2 ∧ 100000000 < Fo.P.ftot Fo.P.isFare b.fol)) := fun h => hn2 h.1
    have HPN : Aside (P.goP x b day = 0 ∧ (0 : Int) ≤ 0 ∧ (0 : Int) ≤ 100000000) := ⟨by rw [P.goP, if_neg (fun h => hn2 h.1)], by decide, by decide⟩
    clear hn2 z0 z1 z2 z3 z4 z5 z6 z7 z8 z9 z10
    have HCN : Aside (∀ wx, Fo.EntsAt wx fo fc b.fol → Calls Tryz.prog 134 #[.slice fo b.fol.length fc, .int .i64 day, .int .i64 (0)] wx fun e w' => ∃ v, e = .returned (.tuple #[v, .int .i64 (P.goE x b day)]) ∧ Fo.OwnN w' wx.heap.size v (P.goL x b day) ∧ Below wx.heap.size wx w') := fun wx hx => by
      have h := Fo.cancelOf_any fo fc b.fol day (0) wx hx HF0.out (HPN.out.2.1) (HPN.out.2.2)
      rw [show P.goE x b day = Fo.P.folE (b.fol ++ Fo.P.come b.fol day (0)) by rw [P.goE, if_neg HNB.out, HPN.out.1], show P.goL x b day = Fo.P.plus b.fol (Fo.P.come b.fol day (0)) by rw [P.goL, HPN.out.1]]
      exact h
    obtain ⟨z0, z1, z2, z3, z4, z5, z6, z7, z8, z9, z10⟩ := HY6.out.bbox
    obtain ⟨L, hL⟩ : ∃ L, P.goL x b day = L := ⟨_, rfl⟩
    rw [hL] at HCN
    have HLL : Aside (P.goL x b day = L) := hL
    clear hL
    go_wp2_with fail
    refine Calls.mono (HCN.out _ (SlAt.below Fo.REnt.mono HFE.out hB6)) ?_
    rintro e w8 ⟨v, rfl, hv, hb8⟩
    obtain ⟨ao8, cap8, rfl⟩ := OwnC.form hv
    have HY8 : Aside (RowIs w8 (w.heap.size + 1) (C.bk b fo fc)) := HY6.out.below hb8
    have HZ8 : Aside (RowIs w8 (w.heap.size + 1 + 1) C.bk0) := HZ6.out.below hb8
    have HO8 : Aside (Fo.OwnN w8 w6.heap.size (.slice ao8 L.length cap8) L) := hv
    have hB8 := bvia hB6 hb8
    have HB8 : Aside (Below w.heap.size w w8) := hB8
    have hlz := HZ6.out.lt
    clear z0 z1 z2 z3 z4 z5 z6 z7 z8 z9 z10 hv hb8 HCN
    obtain ⟨z0, z1, z2, z3, z4, z5, z6, z7, z8, z9, z10⟩ := HY8.out.bbox
    cases hz : (P.goE x b day != 0)
    rotate_left
    · have HE : Aside (¬ P.goE x b day = 0) := by show ¬ _; simpa using hz
      go_wp2_with ((with_reducible refine wpList_stO (w.heap.size + 1 + 1) C.bk0 (C.bk b fo fc) ?_ ?_ ?_ HZ8.out ?_ ?_ ?_); exact Tryz.sizeBg; rfl; rfl; rfl; exact all_one rfl; intro w9 hr9 hg9)
      exact bodyPost_ret (res2 rfl hr9 _ rfl rfl Tryz.underlying37 rfl Tryz.sizeBg) rfl ⟨b, fo, fc, rfl, below_gr hB8 hB8.size hg9 (by omega), fun h => ⟨rfl, rfl, rfl⟩, fun h => absurd h HE.out⟩
    have HE : Aside (P.goE x b day = 0) := by show _ = _; simpa using hz
    obtain ⟨V, hV⟩ : ∃ V, (.slice ao8 L.length cap8 : Value) = V := ⟨_, rfl⟩
    have g1 := grown_st w8 (w.heap.size + 1) 10 V
    have g2 := grown_st (w8.setCell ⟨w.heap.size + 1, 10, none⟩ V) (w.heap.size + 1) 2 (.int .i64 3)
    have g3 := grown_st ((w8.setCell ⟨w.heap.size + 1, 10, none⟩ V).setCell ⟨w.heap.size + 1, 2, none⟩ (.int .i64 3)) (w.heap.size + 1) 9 (.int .i64 0)
    have hlt8 := HY8.out.lt
    have HZ9 : Aside (RowIs (((w8.setCell ⟨w.heap.size + 1, 10, none⟩ V).setCell ⟨w.heap.size + 1, 2, none⟩ (.int .i64 3)).setCell ⟨w.heap.size + 1, 9, none⟩ (.int .i64 0)) (w.heap.size + 1 + 1) C.bk0) := ((HZ8.out.gr g1 (by simp)).gr g2 (by simp)).gr g3 (by simp)
    have HB9 : Aside (Below w.heap.size w (((w8.setCell ⟨w.heap.size + 1, 10, none⟩ V).setCell ⟨w.heap.size + 1, 2, none⟩ (.int .i64 3)).setCell ⟨w.heap.size + 1, 9, none⟩ (.int .i64 0))) :=
      below_gr (below_gr (below_gr hB8 hB8.size g1 (by omega)) (Nat.le_trans hB8.size g1.size) g2 (by omega)) (Nat.le_trans (Nat.le_trans hB8.size g1.size) g2.size) g3 (by omega)
    have HO9 : Aside (Fo.OwnN (((w8.setCell ⟨w.heap.size + 1, 10, none⟩ V).setCell ⟨w.heap.size + 1, 2, none⟩ (.int .i64 3)).setCell ⟨w.heap.size + 1, 9, none⟩ (.int .i64 0)) w6.heap.size (.slice ao8 L.length cap8) L) := by
      have o1 := OwnC.apart HO8.out g1 (fun r e hv => by cases e; have := (HO8.out.lt _ hv).1; omega)
      have o2 := OwnC.apart o1 g2 (fun r e hv => by cases e; have := (o1.lt _ hv).1; omega)
      exact OwnC.apart o2 g3 (fun r e hv => by cases e; have := (o2.lt _ hv).1; omega)
    have f2 := HY8.out.free 2
    have f9 := HY8.out.free 9
    have f10 := HY8.out.free 10
    have HZB : Aside (w.heap.size ≤ w6.heap.size) := by have := HZ6.out.lt; show _ ≤ _; omega
    clear g1 g2 g3 hB8
    subst hV
    go_wp2_with ((with_reducible refine wpList_stO (w.heap.size + 1 + 1) C.bk0 (C.bk (P.goneB b L) ao8 cap8) ?_ ?_ ?_ HZ9.out ?_ ?_ ?_); exact Tryz.sizeBg; rfl; rfl; rfl; exact all_one rfl; intro w9 hr9 hg9)
    have hB9 := below_gr HB9.out HB9.out.size hg9 (by omega)
    have own9 := Fo.OwnC.weaken (OwnC.apart HO9.out hg9 (fun r e hv => by cases e; have := (HO9.out.lt _ hv).1; omega)) HZB.out
    exact bodyPost_ret (res2 rfl hr9 _ rfl rfl Tryz.underlying37 rfl Tryz.sizeBg) rfl ⟨P.goneB b L, ao8, cap8, rfl, hB9, fun h => absurd HE.out h, fun h => ⟨by rw [HLL.out], own9⟩⟩
  have hs2 : Aside (b.state = 2) := by show _ = _; simpa using h2
  by_cases h3 : 0 < N
  rotate_left
  · have HNB : Aside (¬ (b.state = 2 ∧ 100000000 < Fo.P.ftot Fo.P.isFare b.fol)) := by show ¬ _; rw [HN.out]; omega
    have HPN : Aside (P.goP x b day = 0 ∧ (0 : Int) ≤ 0 ∧ (0 : Int) ≤ 100000000) := ⟨by rw [P.goP, HN.out, if_neg (fun h => h3 h.2)], by decide, by decide⟩
    clear z0 z1 z2 z3 z4 z5 z6 z7 z8 z9 z10
    have HCN : Aside (∀ wx, Fo.EntsAt wx fo fc b.fol → Calls Tryz.prog 134 #[.slice fo b.fol.length fc, .int .i64 day, .int .i64 (0)] wx fun e w' => ∃ v, e = .returned (.tuple #[v, .int .i64 (P.goE x b day)]) ∧ Fo.OwnN w' wx.heap.size v (P.goL x b day) ∧ Below wx.heap.size wx w') := fun wx hx => by
      have h := Fo.cancelOf_any fo fc b.fol day (0) wx hx HF0.out (HPN.out.2.1) (HPN.out.2.2)
      rw [show P.goE x b day = Fo.P.folE (b.fol ++ Fo.P.come b.fol day (0)) by rw [P.goE, if_neg HNB.out, HPN.out.1], show P.goL x b day = Fo.P.plus b.fol (Fo.P.come b.fol day (0)) by rw [P.goL, HPN.out.1]]
      exact h
    obtain ⟨z0, z1, z2, z3, z4, z5, z6, z7, z8, z9, z10⟩ := HY6.out.bbox
    obtain ⟨L, hL⟩ : ∃ L, P.goL x b day = L := ⟨_, rfl⟩
    rw [hL] at HCN
    have HLL : Aside (P.goL x b day = L) := hL
    clear hL
    go_wp2_with fail
    refine Calls.mono (HCN.out _ (SlAt.below Fo.REnt.mono HFE.out hB6)) ?_
    rintro e w8 ⟨v, rfl, hv, hb8⟩
    obtain ⟨ao8, cap8, rfl⟩ := OwnC.form hv
    have HY8 : Aside (RowIs w8 (w.heap.size + 1) (C.bk b fo fc)) := HY6.out.below hb8
    have HZ8 : Aside (RowIs w8 (w.heap.size + 1 + 1) C.bk0) := HZ6.out.below hb8
    have HO8 : Aside (Fo.OwnN w8 w6.heap.size (.slice ao8 L.length cap8) L) := hv
    have hB8 := bvia hB6 hb8
    have HB8 : Aside (Below w.heap.size w w8) := hB8
    have hlz := HZ6.out.lt
    clear z0 z1 z2 z3 z4 z5 z6 z7 z8 z9 z10 hv hb8 HCN
    obtain ⟨z0, z1, z2, z3, z4, z5, z6, z7, z8, z9, z10⟩ := HY8.out.bbox
    cases hz : (P.goE x b day != 0)
    rotate_left
    · have HE : Aside (¬ P.goE x b day = 0) := by show ¬ _; simpa using hz
      go_wp2_with ((with_reducible refine wpList_stO (w.heap.size + 1 + 1) C.bk0 (C.bk b fo fc) ?_ ?_ ?_ HZ8.out ?_ ?_ ?_); exact Tryz.sizeBg; rfl; rfl; rfl; exact all_one rfl; intro w9 hr9 hg9)
      exact bodyPost_ret (res2 rfl hr9 _ rfl rfl Tryz.underlying37 rfl Tryz.sizeBg) rfl ⟨b, fo, fc, rfl, below_gr hB8 hB8.size hg9 (by omega), fun h => ⟨rfl, rfl, rfl⟩, fun h => absurd h HE.out⟩
    have HE : Aside (P.goE x b day = 0) := by show _ = _; simpa using hz
    obtain ⟨V, hV⟩ : ∃ V, (.slice ao8 L.length cap8 : Value) = V := ⟨_, rfl⟩
    have g1 := grown_st w8 (w.heap.size + 1) 10 V
    have g2 := grown_st (w8.setCell ⟨w.heap.size + 1, 10, none⟩ V) (w.heap.size + 1) 2 (.int .i64 3)
    have g3 := grown_st ((w8.setCell ⟨w.heap.size + 1, 10, none⟩ V).setCell ⟨w.heap.size + 1, 2, none⟩ (.int .i64 3)) (w.heap.size + 1) 9 (.int .i64 0)
    have hlt8 := HY8.out.lt
    have HZ9 : Aside (RowIs (((w8.setCell ⟨w.heap.size + 1, 10, none⟩ V).setCell ⟨w.heap.size + 1, 2, none⟩ (.int .i64 3)).setCell ⟨w.heap.size + 1, 9, none⟩ (.int .i64 0)) (w.heap.size + 1 + 1) C.bk0) := ((HZ8.out.gr g1 (by simp)).gr g2 (by simp)).gr g3 (by simp)
    have HB9 : Aside (Below w.heap.size w (((w8.setCell ⟨w.heap.size + 1, 10, none⟩ V).setCell ⟨w.heap.size + 1, 2, none⟩ (.int .i64 3)).setCell ⟨w.heap.size + 1, 9, none⟩ (.int .i64 0))) :=
      below_gr (below_gr (below_gr hB8 hB8.size g1 (by omega)) (Nat.le_trans hB8.size g1.size) g2 (by omega)) (Nat.le_trans (Nat.le_trans hB8.size g1.size) g2.size) g3 (by omega)
    have HO9 : Aside (Fo.OwnN (((w8.setCell ⟨w.heap.size + 1, 10, none⟩ V).setCell ⟨w.heap.size + 1, 2, none⟩ (.int .i64 3)).setCell ⟨w.heap.size + 1, 9, none⟩ (.int .i64 0)) w6.heap.size (.slice ao8 L.length cap8) L) := by
      have o1 := OwnC.apart HO8.out g1 (fun r e hv => by cases e; have := (HO8.out.lt _ hv).1; omega)
      have o2 := OwnC.apart o1 g2 (fun r e hv => by cases e; have := (o1.lt _ hv).1; omega)
      exact OwnC.apart o2 g3 (fun r e hv => by cases e; have := (o2.lt _ hv).1; omega)
    have f2 := HY8.out.free 2
    have f9 := HY8.out.free 9
    have f10 := HY8.out.free 10
    have HZB : Aside (w.heap.size ≤ w6.heap.size) := by have := HZ6.out.lt; show _ ≤ _; omega
    clear g1 g2 g3 hB8
    subst hV
    go_wp2_with ((with_reducible refine wpList_stO (w.heap.size + 1 + 1) C.bk0 (C.bk (P.goneB b L) ao8 cap8) ?_ ?_ ?_ HZ9.out ?_ ?_ ?_); exact Tryz.sizeBg; rfl; rfl; rfl; exact all_one rfl; intro w9 hr9 hg9)
    have hB9 := below_gr HB9.out HB9.out.size hg9 (by omega)
    have own9 := Fo.OwnC.weaken (OwnC.apart HO9.out hg9 (fun r e hv => by cases e; have := (HO9.out.lt _ hv).1; omega)) HZB.out
    exact bodyPost_ret (res2 rfl hr9 _ rfl rfl Tryz.underlying37 rfl Tryz.sizeBg) rfl ⟨P.goneB b L, ao8, cap8, rfl, hB9, fun h => absurd HE.out h, fun h => ⟨by rw [HLL.out], own9⟩⟩
  by_cases h4 : 100000000 < N
  · have HGE : Aside (P.goE x b day = 3) := by show _ = _; rw [P.goE, HN.out, if_pos ⟨hs2.out, h4⟩]
    go_wp2_with ((with_reducible refine wpList_stO (w.heap.size + 1 + 1) C.bk0 (C.bk b fo fc) ?_ ?_ ?_ HZ6.out ?_ ?_ ?_); exact Tryz.sizeBg; rfl; rfl; rfl; exact all_one rfl; intro w9 hr9 hg9)
    exact bodyPost_ret (res2 rfl hr9 _ rfl rfl Tryz.underlying37 rfl Tryz.sizeBg) rfl ⟨b, fo, fc, by rw [HGE.out]; rfl, below_gr hB6 hB6.size hg9 (by omega), fun h => ⟨rfl, rfl, rfl⟩, fun h => absurd h (by rw [HGE.out]; decide)⟩
  have HNB : Aside (¬ (b.state = 2 ∧ 100000000 < Fo.P.ftot Fo.P.isFare b.fol)) := by show ¬ _; rw [HN.out]; omega
  have HPV : ∀ d, 0 ≤ Fo.P.penV x.B N d ∧ Fo.P.penV x.B N d ≤ 100000000 := fun d => by
    have := Fo.penV_in (d := d) HBB.out (show 0 ≤ N by omega)
    omega
  by_cases h5 : x.lvs < day
  · have hmx : P.mx (x.lvs - day) = 0 := by rw [P.mx, if_neg (by omega)]
    have HPN : Aside (P.goP x b day = Fo.P.penV x.B N 0 ∧ 0 ≤ Fo.P.penV x.B N 0 ∧ Fo.P.penV x.B N 0 ≤ 100000000) := ⟨by rw [P.goP, HN.out, if_pos ⟨hs2.out, h3⟩, hmx], HPV 0⟩
    have HPQ : Aside (∀ wx, Fo.FareAt wx a.lo a.bo a.lc a.bc x.L x.B → Calls Tryz.prog 133 #[Fo.V.fare a.lo a.bo a.lc a.bc x.L x.al x.th x.B x.dn, .int .i64 N, .int .i64 0] wx fun e w' => e = .returned (.int .i64 (Fo.P.penV x.B N 0)) ∧ Below wx.heap.size wx w') := fun wx hx => Fo.penaltyOf_any a.lo a.bo a.lc a.bc x.L x.al x.th x.B x.dn N 0 wx hx HBB.out ⟨by omega, by omega⟩
    generalize Fo.P.penV x.B N 0 = PN at HPQ HPN
    clear HPV hmx
    have h5' : x.lvs - day < 0 := by omega
    obtain ⟨d0, d1, d2, d3, d4, d5, d6, d7, d8, d9, d10, d11, d12⟩ := SRow.box HX6.out
    go_wp2_with fail
    refine Calls.mono (HPQ.out _ (HS.out.below hB6).fare) ?_
    rintro e w7 ⟨rfl, hb7⟩
    have HY7 : Aside (RowIs w7 (w.heap.size + 1) (C.bk b fo fc)) := HY6.out.below hb7
    have HZ7 : Aside (RowIs w7 (w.heap.size + 1 + 1) C.bk0) := HZ6.out.below hb7
    have hB7 := bvia hB6 hb7
    clear d0 d1 d2 d3 d4 d5 d6 d7 d8 d9 d10 d11 d12 z0 z1 z2 z3 z4 z5 z6 z7 z8 z9 z10 hb7
    have HCN : Aside (∀ wx, Fo.EntsAt wx fo fc b.fol → Calls Tryz.prog 134 #[.slice fo b.fol.length fc, .int .i64 day, .int .i64 (PN)] wx fun e w' => ∃ v, e = .returned (.tuple #[v, .int .i64 (P.goE x b day)]) ∧ Fo.OwnN w' wx.heap.size v (P.goL x b day) ∧ Below wx.heap.size wx w') := fun wx hx => by
      have h := Fo.cancelOf_any fo fc b.fol day (PN) wx hx HF0.out (HPN.out.2.1) (HPN.out.2.2)
      rw [show P.goE x b day = Fo.P.folE (b.fol ++ Fo.P.come b.fol day (PN)) by rw [P.goE, if_neg HNB.out, HPN.out.1], show P.goL x b day = Fo.P.plus b.fol (Fo.P.come b.fol day (PN)) by rw [P.goL, HPN.out.1]]
      exact h
    obtain ⟨z0, z1, z2, z3, z4, z5, z6, z7, z8, z9, z10⟩ := HY7.out.bbox
    obtain ⟨L, hL⟩ : ∃ L, P.goL x b day = L := ⟨_, rfl⟩
    rw [hL] at HCN
    have HLL : Aside (P.goL x b day = L) := hL
    clear hL
    go_wp2_with fail
    refine Calls.mono (HCN.out _ (SlAt.below Fo.REnt.mono HFE.out hB7)) ?_
    rintro e w8 ⟨v, rfl, hv, hb8⟩
    obtain ⟨ao8, cap8, rfl⟩ := OwnC.form hv
    have HY8 : Aside (RowIs w8 (w.heap.size + 1) (C.bk b fo fc)) := HY7.out.below hb8
    have HZ8 : Aside (RowIs w8 (w.heap.size + 1 + 1) C.bk0) := HZ7.out.below hb8
    have HO8 : Aside (Fo.OwnN w8 w7.heap.size (.slice ao8 L.length cap8) L) := hv
    have hB8 := bvia hB7 hb8
    have HB8 : Aside (Below w.heap.size w w8) := hB8
    have hlz := HZ7.out.lt
    clear z0 z1 z2 z3 z4 z5 z6 z7 z8 z9 z10 hv hb8 HCN
    obtain ⟨z0, z1, z2, z3, z4, z5, z6, z7, z8, z9, z10⟩ := HY8.out.bbox
    cases hz : (P.goE x b day != 0)
    rotate_left
    · have HE : Aside (¬ P.goE x b day = 0) := by show ¬ _; simpa using hz
      go_wp2_with ((with_reducible refine wpList_stO (w.heap.size + 1 + 1) C.bk0 (C.bk b fo fc) ?_ ?_ ?_ HZ8.out ?_ ?_ ?_); exact Tryz.sizeBg; rfl; rfl; rfl; exact all_one rfl; intro w9 hr9 hg9)
      exact bodyPost_ret (res2 rfl hr9 _ rfl rfl Tryz.underlying37 rfl Tryz.sizeBg) rfl ⟨b, fo, fc, rfl, below_gr hB8 hB8.size hg9 (by omega), fun h => ⟨rfl, rfl, rfl⟩, fun h => absurd h HE.out⟩
    have HE : Aside (P.goE x b day = 0) := by show _ = _; simpa using hz
    obtain ⟨V, hV⟩ : ∃ V, (.slice ao8 L.length cap8 : Value) = V := ⟨_, rfl⟩
    have g1 := grown_st w8 (w.heap.size + 1) 10 V
    have g2 := grown_st (w8.setCell ⟨w.heap.size + 1, 10, none⟩ V) (w.heap.size + 1) 2 (.int .i64 3)
    have g3 := grown_st ((w8.setCell ⟨w.heap.size + 1, 10, none⟩ V).setCell ⟨w.heap.size + 1, 2, none⟩ (.int .i64 3)) (w.heap.size + 1) 9 (.int .i64 0)
    have hlt8 := HY8.out.lt
    have HZ9 : Aside (RowIs (((w8.setCell ⟨w.heap.size + 1, 10, none⟩ V).setCell ⟨w.heap.size + 1, 2, none⟩ (.int .i64 3)).setCell ⟨w.heap.size + 1, 9, none⟩ (.int .i64 0)) (w.heap.size + 1 + 1) C.bk0) := ((HZ8.out.gr g1 (by simp)).gr g2 (by simp)).gr g3 (by simp)
    have HB9 : Aside (Below w.heap.size w (((w8.setCell ⟨w.heap.size + 1, 10, none⟩ V).setCell ⟨w.heap.size + 1, 2, none⟩ (.int .i64 3)).setCell ⟨w.heap.size + 1, 9, none⟩ (.int .i64 0))) :=
      below_gr (below_gr (below_gr hB8 hB8.size g1 (by omega)) (Nat.le_trans hB8.size g1.size) g2 (by omega)) (Nat.le_trans (Nat.le_trans hB8.size g1.size) g2.size) g3 (by omega)
    have HO9 : Aside (Fo.OwnN (((w8.setCell ⟨w.heap.size + 1, 10, none⟩ V).setCell ⟨w.heap.size + 1, 2, none⟩ (.int .i64 3)).setCell ⟨w.heap.size + 1, 9, none⟩ (.int .i64 0)) w7.heap.size (.slice ao8 L.length cap8) L) := by
      have o1 := OwnC.apart HO8.out g1 (fun r e hv => by cases e; have := (HO8.out.lt _ hv).1; omega)
      have o2 := OwnC.apart o1 g2 (fun r e hv => by cases e; have := (o1.lt _ hv).1; omega)
      exact OwnC.apart o2 g3 (fun r e hv => by cases e; have := (o2.lt _ hv).1; omega)
    have f2 := HY8.out.free 2
    have f9 := HY8.out.free 9
    have f10 := HY8.out.free 10
    have HZB : Aside (w.heap.size ≤ w7.heap.size) := by have := HZ7.out.lt; show _ ≤ _; omega
    clear g1 g2 g3 hB8
    subst hV
    go_wp2_with ((with_reducible refine wpList_stO (w.heap.size + 1 + 1) C.bk0 (C.bk (P.goneB b L) ao8 cap8) ?_ ?_ ?_ HZ9.out ?_ ?_ ?_); exact Tryz.sizeBg; rfl; rfl; rfl; exact all_one rfl; intro w9 hr9 hg9)
    have hB9 := below_gr HB9.out HB9.out.size hg9 (by omega)
    have own9 := Fo.OwnC.weaken (OwnC.apart HO9.out hg9 (fun r e hv => by cases e; have := (HO9.out.lt _ hv).1; omega)) HZB.out
    exact bodyPost_ret (res2 rfl hr9 _ rfl rfl Tryz.underlying37 rfl Tryz.sizeBg) rfl ⟨P.goneB b L, ao8, cap8, rfl, hB9, fun h => absurd HE.out h, fun h => ⟨by rw [HLL.out], own9⟩⟩
  have hmx : P.mx (x.lvs - day) = x.lvs - day := by rw [P.mx]; split <;> omega
  have HPN : Aside (P.goP x b day = Fo.P.penV x.B N (x.lvs - day) ∧ 0 ≤ Fo.P.penV x.B N (x.lvs - day) ∧ Fo.P.penV x.B N (x.lvs - day) ≤ 100000000) := ⟨by rw [P.goP, HN.out, if_pos ⟨hs2.out, h3⟩, hmx], HPV _⟩
  have HPQ : Aside (∀ wx, Fo.FareAt wx a.lo a.bo a.lc a.bc x.L x.B → Calls Tryz.prog 133 #[Fo.V.fare a.lo a.bo a.lc a.bc x.L x.al x.th x.B x.dn, .int .i64 N, .int .i64 (x.lvs - day)] wx fun e w' => e = .returned (.int .i64 (Fo.P.penV x.B N (x.lvs - day))) ∧ Below wx.heap.size wx w') := fun wx hx => Fo.penaltyOf_any a.lo a.bo a.lc a.bc x.L x.al x.th x.B x.dn N (x.lvs - day) wx hx HBB.out ⟨by omega, by omega⟩
  generalize Fo.P.penV x.B N (x.lvs - day) = PN at HPQ HPN
  clear HPV hmx
  have h5' : ¬ x.lvs - day < 0 := by omega
  obtain ⟨d0, d1, d2, d3, d4, d5, d6, d7, d8, d9, d10, d11, d12⟩ := SRow.box HX6.out
  go_wp2_with fail
  refine Calls.mono (HPQ.out _ (HS.out.below hB6).fare) ?_
  rintro e w7 ⟨rfl, hb7⟩
  have HY7 : Aside (RowIs w7 (w.heap.size + 1) (C.bk b fo fc)) := HY6.out.below hb7
  have HZ7 : Aside (RowIs w7 (w.heap.size + 1 + 1) C.bk0) := HZ6.out.below hb7
  have hB7 := bvia hB6 hb7
  clear d0 d1 d2 d3 d4 d5 d6 d7 d8 d9 d10 d11 d12 z0 z1 z2 z3 z4 z5 z6 z7 z8 z9 z10 hb7
  have HCN : Aside (∀ wx, Fo.EntsAt wx fo fc b.fol → Calls Tryz.prog 134 #[.slice fo b.fol.length fc, .int .i64 day, .int .i64 (PN)] wx fun e w' => ∃ v, e = .returned (.tuple #[v, .int .i64 (P.goE x b day)]) ∧ Fo.OwnN w' wx.heap.size v (P.goL x b day) ∧ Below wx.heap.size wx w') := fun wx hx => by
    have h := Fo.cancelOf_any fo fc b.fol day (PN) wx hx HF0.out (HPN.out.2.1) (HPN.out.2.2)
    rw [show P.goE x b day = Fo.P.folE (b.fol ++ Fo.P.come b.fol day (PN)) by rw [P.goE, if_neg HNB.out, HPN.out.1], show P.goL x b day = Fo.P.plus b.fol (Fo.P.come b.fol day (PN)) by rw [P.goL, HPN.out.1]]
    exact h
  obtain ⟨z0, z1, z2, z3, z4, z5, z6, z7, z8, z9, z10⟩ := HY7.out.bbox
  obtain ⟨L, hL⟩ : ∃ L, P.goL x b day = L := ⟨_, rfl⟩
  rw [hL] at HCN
  have HLL : Aside (P.goL x b day = L) := hL
  clear hL
  go_wp2_with fail
  refine Calls.mono (HCN.out _ (SlAt.below Fo.REnt.mono HFE.out hB7)) ?_
  rintro e w8 ⟨v, rfl, hv, hb8⟩
  obtain ⟨ao8, cap8, rfl⟩ := OwnC.form hv
  have HY8 : Aside (RowIs w8 (w.heap.size + 1) (C.bk b fo fc)) := HY7.out.below hb8
  have HZ8 : Aside (RowIs w8 (w.heap.size + 1 + 1) C.bk0) := HZ7.out.below hb8
  have HO8 : Aside (Fo.OwnN w8 w7.heap.size (.slice ao8 L.length cap8) L) := hv
  have hB8 := bvia hB7 hb8
  have HB8 : Aside (Below w.heap.size w w8) := hB8
  have hlz := HZ7.out.lt
  clear z0 z1 z2 z3 z4 z5 z6 z7 z8 z9 z10 hv hb8 HCN
  obtain ⟨z0, z1, z2, z3, z4, z5, z6, z7, z8, z9, z10⟩ := HY8.out.bbox
  cases hz : (P.goE x b day != 0)
  rotate_left
  · have HE : Aside (¬ P.goE x b day = 0) := by show ¬ _; simpa using hz
    go_wp2_with ((with_reducible refine wpList_stO (w.heap.size + 1 + 1) C.bk0 (C.bk b fo fc) ?_ ?_ ?_ HZ8.out ?_ ?_ ?_); exact Tryz.sizeBg; rfl; rfl; rfl; exact all_one rfl; intro w9 hr9 hg9)
    exact bodyPost_ret (res2 rfl hr9 _ rfl rfl Tryz.underlying37 rfl Tryz.sizeBg) rfl ⟨b, fo, fc, rfl, below_gr hB8 hB8.size hg9 (by omega), fun h => ⟨rfl, rfl, rfl⟩, fun h => absurd h HE.out⟩
  have HE : Aside (P.goE x b day = 0) := by show _ = _; simpa using hz
  obtain ⟨V, hV⟩ : ∃ V, (.slice ao8 L.length cap8 : Value) = V := ⟨_, rfl⟩
  have g1 := grown_st w8 (w.heap.size + 1) 10 V
  have g2 := grown_st (w8.setCell ⟨w.heap.size + 1, 10, none⟩ V) (w.heap.size + 1) 2 (.int .i64 3)
  have g3 := grown_st ((w8.setCell ⟨w.heap.size + 1, 10, none⟩ V).setCell ⟨w.heap.size + 1, 2, none⟩ (.int .i64 3)) (w.heap.size + 1) 9 (.int .i64 0)
  have hlt8 := HY8.out.lt
  have HZ9 : Aside (RowIs (((w8.setCell ⟨w.heap.size + 1, 10, none⟩ V).setCell ⟨w.heap.size + 1, 2, none⟩ (.int .i64 3)).setCell ⟨w.heap.size + 1, 9, none⟩ (.int .i64 0)) (w.heap.size + 1 + 1) C.bk0) := ((HZ8.out.gr g1 (by simp)).gr g2 (by simp)).gr g3 (by simp)
  have HB9 : Aside (Below w.heap.size w (((w8.setCell ⟨w.heap.size + 1, 10, none⟩ V).setCell ⟨w.heap.size + 1, 2, none⟩ (.int .i64 3)).setCell ⟨w.heap.size + 1, 9, none⟩ (.int .i64 0))) :=
    below_gr (below_gr (below_gr hB8 hB8.size g1 (by omega)) (Nat.le_trans hB8.size g1.size) g2 (by omega)) (Nat.le_trans (Nat.le_trans hB8.size g1.size) g2.size) g3 (by omega)
  have HO9 : Aside (Fo.OwnN (((w8.setCell ⟨w.heap.size + 1, 10, none⟩ V).setCell ⟨w.heap.size + 1, 2, none⟩ (.int .i64 3)).setCell ⟨w.heap.size + 1, 9, none⟩ (.int .i64 0)) w7.heap.size (.slice ao8 L.length cap8) L) := by
    have o1 := OwnC.apart HO8.out g1 (fun r e hv => by cases e; have := (HO8.out.lt _ hv).1; omega)
    have o2 := OwnC.apart o1 g2 (fun r e hv => by cases e; have := (o1.lt _ hv).1; omega)
    exact OwnC.apart o2 g3 (fun r e hv => by cases e; have := (o2.lt _ hv).1; omega)
  have f2 := HY8.out.free 2
  have f9 := HY8.out.free 9
  have f10 := HY8.out.free 10
  have HZB : Aside (w.heap.size ≤ w7.heap.size) := by have := HZ7.out.lt; show _ ≤ _; omega
  clear g1 g2 g3 hB8
  subst hV
  go_wp2_with ((with_reducible refine wpList_stO (w.heap.size + 1 + 1) C.bk0 (C.bk (P.goneB b L) ao8 cap8) ?_ ?_ ?_ HZ9.out ?_ ?_ ?_); exact Tryz.sizeBg; rfl; rfl; rfl; exact all_one rfl; intro w9 hr9 hg9)
  have hB9 := below_gr HB9.out HB9.out.size hg9 (by omega)
  have own9 := Fo.OwnC.weaken (OwnC.apart HO9.out hg9 (fun r e hv => by cases e; have := (HO9.out.lt _ hv).1; omega)) HZB.out
  exact bodyPost_ret (res2 rfl hr9 _ rfl rfl Tryz.underlying37 rfl Tryz.sizeBg) rfl ⟨P.goneB b L, ao8, cap8, rfl, hB9, fun h => absurd HE.out h, fun h => ⟨by rw [HLL.out], own9⟩⟩

/-- The two tell alike. -/
theorem gone_cn {x : Sail} {b : Bkg} (hE : P.SailE x 0) (hb : b ∈ x.bks) (h3 : b.state ≠ 3) : P.cnE x b = P.goE x b x.day ∧ (P.cnE x b = 0 → P.cnB x b = P.goneB b (P.goL x b x.day)) := by
  obtain ⟨hp, hf, h0, hbk, _⟩ := sail_ok hE
  obtain ⟨_, g2, g3, g4, _⟩ := frame_zero hf
  obtain ⟨_, _, _, _, _, _, _, hst, hfo⟩ := bk_ok (hbk b hb)
  have hBB := Fo.bandsE_in (Fo.fareE_zero g2).2.2.2.2.2.2.2
  have hmx : ∀ n, 0 ≤ P.mx n := fun n => by rw [P.mx]; split <;> omega
  have key : ∀ pen : Int, 0 ≤ pen → pen ≤ 100000000 → Fo.P.canE b.fol x.day pen = Fo.P.folE (b.fol ++ Fo.P.come b.fol x.day pen) ∧ Fo.P.can b.fol x.day pen = Fo.P.plus b.fol (Fo.P.come b.fol x.day pen) := fun pen h1 h2 => by
    rw [Fo.P.canE, Fo.P.can, if_pos hfo, if_pos hfo, if_neg (by omega), if_neg (by omega)]
    exact ⟨rfl, rfl⟩
  rcases hst with h1 | h1 | h1
  · have e1 : P.canE x b = 0 := by rw [P.canE, if_pos h1]
    have e2 : P.canP x b = 0 := by rw [P.canP, if_pos h1]
    have e3 : P.goP x b x.day = 0 := by rw [P.goP, if_neg (by omega)]
    obtain ⟨k1, k2⟩ := key 0 (by decide) (by decide)
    have e4 : P.cnE x b = P.goE x b x.day := by rw [P.cnE, if_pos e1, e2, k1, P.goE, if_neg (by omega), e3]
    exact ⟨e4, fun _ => by rw [P.cnB, e2, k2, P.goL, e3]⟩
  · have e1 : P.canE x b = Fo.P.penE x.L x.al x.th x.B x.dn x.s.cs.length x.s.legs (P.mx (Fo.P.ftot Fo.P.isFare b.fol)) (P.mx (x.lvs - x.day)) := by rw [P.canE, if_neg (by omega)]
    have e2 : P.canP x b = Fo.P.pen x.L x.al x.th x.B x.dn x.s.cs.length x.s.legs (P.mx (Fo.P.ftot Fo.P.isFare b.fol)) (P.mx (x.lvs - x.day)) := by rw [P.canP, if_neg (by omega)]
    have hfe : Fo.P.fareE x.L x.al x.th x.B x.dn x.s.cs.length x.s.legs = 0 := g2
    have hd0 := hmx (x.lvs - x.day)
    have hn0 := hmx (Fo.P.ftot Fo.P.isFare b.fol)
    by_cases hbig : 100000000 < Fo.P.ftot Fo.P.isFare b.fol
    · have hm : P.mx (Fo.P.ftot Fo.P.isFare b.fol) = Fo.P.ftot Fo.P.isFare b.fol := by rw [P.mx, if_pos (by omega)]
      have hP : Fo.P.fareP x.L x.al x.th x.B x.dn x.s.cs.length x.s.legs (P.mx (Fo.P.ftot Fo.P.isFare b.fol)) = 3 := by
        rw [Fo.P.fareP, if_pos hfe, if_neg]
        rw [hm]
        simp [P.btw]
        omega
      have e3 : P.canE x b = 3 := by rw [e1, Fo.P.penE, if_neg (by rw [hP]; decide), hP]
      have e4 : P.cnE x b = 3 := by rw [P.cnE, if_neg (by rw [e3]; decide), e3]
      exact ⟨by rw [e4, P.goE, if_pos ⟨h1, hbig⟩], fun h => absurd (e4.symm.trans h) (by decide)⟩
    · have hle : P.mx (Fo.P.ftot Fo.P.isFare b.fol) ≤ 100000000 := by rw [P.mx]; split <;> omega
      have hP : Fo.P.fareP x.L x.al x.th x.B x.dn x.s.cs.length x.s.legs (P.mx (Fo.P.ftot Fo.P.isFare b.fol)) = 0 := by
        rw [Fo.P.fareP, if_pos hfe, if_pos]
        simp [P.btw]
        omega
      have e3 : P.canE x b = 0 := by rw [e1, Fo.P.penE, if_pos hP, if_neg (by omega)]
      have e4 : P.canP x b = Fo.P.penV x.B (P.mx (Fo.P.ftot Fo.P.isFare b.fol)) (P.mx (x.lvs - x.day)) := by rw [e2, Fo.P.pen, if_pos (by rw [← e1, e3])]
      have hpv := Fo.penV_in (d := P.mx (x.lvs - x.day)) hBB hn0
      have e5 : P.canP x b = P.goP x b x.day := by
        rw [e4, P.goP]
        by_cases hn : 0 < Fo.P.ftot Fo.P.isFare b.fol
        · rw [if_pos ⟨h1, hn⟩]
          congr 1
          rw [P.mx, if_pos hn]
        · rw [if_neg (fun h => hn h.2)]
          have hm : P.mx (Fo.P.ftot Fo.P.isFare b.fol) = 0 := by rw [P.mx, if_neg hn]
          rw [hm] at hpv ⊢
          omega
      obtain ⟨k1, k2⟩ := key (P.canP x b) (by rw [e4]; omega) (by rw [e4]; omega)
      have e6 : P.cnE x b = P.goE x b x.day := by rw [P.cnE, if_pos e3, k1, P.goE, if_neg (fun h => hbig h.2), e5]
      exact ⟨e6, fun _ => by rw [P.cnB, k2, P.goL, e5]⟩
  · exact absurd h1 h3

end Go.Proofs.YtlamhfbdeinkkaeGreat.St
