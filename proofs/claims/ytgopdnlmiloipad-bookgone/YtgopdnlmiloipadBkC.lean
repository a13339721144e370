/- Walks of checkEligible, checkPromise, checkKind. -/
import Derived.Test.YtgopdnlmiloipadBkB
namespace Go.Proofs.Ytgopdnlmiloipad.Bk
open Go.RowKit
set_option linter.unusedSimpArgs false
set_option linter.unusedVariables false

theorem cab_get' {w w' : World} {s : Vsl} {a : VslA} (h : VslAt w s a) (hB : Below w.heap.size w w') {n : Int} (hn : P.cabB s n = true) :
    ∃ (b off : Nat) (c : Sh.Cab), 0 ≤ n ∧ n < s.bs.length ∧ P.cabAt s n = c ∧ c ∈ s.bs ∧ a.bao = some ⟨b, off, none⟩ ∧ w'.cell? ⟨b, off + n.toNat * 4, none⟩ = some (.string c.1) ∧ w'.cell? ⟨b, off + n.toNat * 4 + 1, none⟩ = some (.int .i64 c.2.1) ∧ w'.cell? ⟨b, off + n.toNat * 4 + 2, none⟩ = some (.int .i64 c.2.2.1) ∧ w'.cell? ⟨b, off + n.toNat * 4 + 3, none⟩ = some (.bool c.2.2.2) := by
  obtain ⟨k, b, off, c, rfl, hk, h1, h2, h3, h4, h5, h6, h7⟩ := cab_get h hB hn
  exact ⟨b, off, c, by omega, by omega, h1, h2, h3, h4, h5, h6, h7⟩

theorem serves_in {s : Vsl} (h : P.shp s = 0) {x y : Int} (hx : 0 ≤ x ∧ x < s.cs.length) (hy : 0 ≤ y ∧ y < s.cs.length) :
    Sh.P.servesE s.legs s.souls s.cs s.bs x y = 0 ∧ Sh.P.servesB s.legs s.souls s.cs s.bs x y = Sh.P.serves s.cs x y := by
  have e : Sh.P.servesE s.legs s.souls s.cs s.bs x y = 0 := by
    have h' : Sh.P.shipE s.legs s.souls s.cs s.bs = 0 := h
    rw [Sh.P.servesE, if_pos h', if_pos (by simp [P.btw]; omega)]
  exact ⟨e, by simp [Sh.P.servesB, e]⟩

def P.eligE (s : Vsl) (b : Bkg) : Int := if P.elig s b b.cabin = true then 0 else 4

set_option maxHeartbeats 1000000 in
theorem checkEligible_any (s : Vsl) (a : VslA) (b : Bkg) (fo : Option Addr) (fc : Nat) (w : World) (hs : VslAt w s a) (h0 : P.shp s = 0) (hc : P.cabB s b.cabin = true) (hy : 0 ≤ b.cat ∧ b.cat < s.cs.length) :
    Calls Try.prog 75 #[V.vsl s a, V.bk b fo fc] w fun e w' => e = .returned (.int .i64 (P.eligE s b)) ∧ Below w.heap.size w w' := by
  obtain ⟨_, _, _, _, _, _, _, hbs⟩ := shp_size h0
  obtain ⟨bb, off, c, hc0, hc1, ec, hm, ebao, q0, q1, q2, q3⟩ := cab_get' hs (Below.refl _ _) hc
  obtain ⟨g0, g1, _, _⟩ := shp_cabs h0 c hm
  have hbl : bb < w.heap.size := World.block_lt_of_cell? w _ q0
  have hsv := serves_in h0 ⟨g0, g1⟩ hy
  obtain ⟨hsE, hsB⟩ := hsv
  have HE : Aside (P.eligE s b = if (Sh.P.serves s.cs c.2.1 b.cat && P.suits c b) = true then 0 else 4) := by show _ = _; rw [P.eligE, P.elig, ec]
  clear hc
  have hv : VslAt w s a := hs
  obtain ⟨legs, souls, cs, bs⟩ := s
  obtain ⟨cao, bao, cc, bc⟩ := a
  simp only at *
  subst ebao
  replace hv : Sh.ShipAt w cao (some ⟨bb, off, none⟩) cc bc cs bs := hv
  cases hsv : Sh.P.serves cs c.2.1 b.cat
  · go_enter Try.func75, Try.ntmps75
    go_wp2_with fail
    refine (Sh.serves_any legs souls cao (some ⟨bb, off, none⟩) cc bc cs bs c.2.1 b.cat _ (hv.below (by go_grown))).mono ?_
    rintro e w1 ⟨rfl, hb1⟩
    rw [hsE, hsB, hsv]
    go_wp2
    go_ret
    exact ⟨ret_int (by rw [HE.out, hsv]; rfl), bvia (by go_grown) hb1⟩
  · go_enter Try.func75, Try.ntmps75
    go_wp2_with fail
    refine (Sh.serves_any legs souls cao (some ⟨bb, off, none⟩) cc bc cs bs c.2.1 b.cat _ (hv.below (by go_grown))).mono ?_
    rintro e w1 ⟨rfl, hb1⟩
    rw [hsE, hsB, hsv]
    have x0 : w1.cell? ⟨w.heap.size + 1, 0, none⟩ = some (.int .i64 b.id) := cellIn hb1 (by go_simp)
    have x1 : w1.cell? ⟨w.heap.size + 1, 1, none⟩ = some (.int .i64 b.kind) := cellIn hb1 (by go_simp)
    have x2 : w1.cell? ⟨w.heap.size + 1, 2, none⟩ = some (.int .i64 b.state) := cellIn hb1 (by go_simp)
    have x3 : w1.cell? ⟨w.heap.size + 1, 3, none⟩ = some (.int .i64 b.guests) := cellIn hb1 (by go_simp)
    have x4 : w1.cell? ⟨w.heap.size + 1, 4, none⟩ = some (.bool b.level) := cellIn hb1 (by go_simp)
    have x5 : w1.cell? ⟨w.heap.size + 1, 5, none⟩ = some (.int .i64 b.cabin) := cellIn hb1 (by go_simp)
    have x6 : w1.cell? ⟨w.heap.size + 1, 6, none⟩ = some (.int .i64 b.cat) := cellIn hb1 (by go_simp)
    have x7 : w1.cell? ⟨w.heap.size + 1, 7, none⟩ = some (.int .i64 b.frm) := cellIn hb1 (by go_simp)
    have x8 : w1.cell? ⟨w.heap.size + 1, 8, none⟩ = some (.int .i64 b.to) := cellIn hb1 (by go_simp)
    have x9 : w1.cell? ⟨w.heap.size + 1, 9, none⟩ = some (.int .i64 b.til) := cellIn hb1 (by go_simp)
    have x10 : w1.cell? ⟨w.heap.size + 1, 10, none⟩ = some (.slice fo b.fol.length fc) := cellIn hb1 (by go_simp)
    have y0 : w1.cell? ⟨w.heap.size + 1 + 1, 0, none⟩ = some (.string c.1) := cellIn hb1 (by go_simp)
    have y1 : w1.cell? ⟨w.heap.size + 1 + 1, 1, none⟩ = some (.int .i64 c.2.1) := cellIn hb1 (by go_simp)
    have y2 : w1.cell? ⟨w.heap.size + 1 + 1, 2, none⟩ = some (.int .i64 c.2.2.1) := cellIn hb1 (by go_simp)
    have y3 : w1.cell? ⟨w.heap.size + 1 + 1, 3, none⟩ = some (.bool c.2.2.2) := cellIn hb1 (by go_simp)
    cases hsu : P.suits c b
    · go_wp2_with (go_at_call 74; refine (suits_any c b fo fc _).mono ?_; rintro e w2 ⟨rfl, hb2⟩; rw [hsu])
      go_ret
      exact ⟨ret_int (by rw [HE.out, hsv, hsu]; rfl), bvia (bvia (by go_grown) hb1) hb2⟩
    · go_wp2_with (go_at_call 74; refine (suits_any c b fo fc _).mono ?_; rintro e w2 ⟨rfl, hb2⟩; rw [hsu])
      go_ret
      exact ⟨ret_int (by rw [HE.out, hsv, hsu]; rfl), bvia (bvia (by go_grown) hb1) hb2⟩

set_option maxHeartbeats 1000000 in
theorem checkPromise_any (s : Vsl) (a : VslA) (b : Bkg) (fo : Option Addr) (fc : Nat) (w : World) (hs : VslAt w s a) (h0 : P.shp s = 0) :
    Calls Try.prog 67 #[V.vsl s a, V.bk b fo fc] w fun e w' => e = .returned (.int .i64 (P.promE s b)) ∧ Below w.heap.size w w' := by
  obtain ⟨_, _, _, _, _, hcs, _, hbs⟩ := shp_size h0
  have hbt := two_below w s a b fo fc
  have hbx := two_b w s a b fo fc
  have hvx := two_v w s a b fo fc
  cases hy : P.btw b.cat 0 ((s.cs.length : Int) - 1)
  · have HE : Aside (P.promE s b = 3) := by show _ = _; rw [P.promE, if_neg (by simp [hy])]
    go_enter Try.func67, Try.ntmps67
    go_wp2_with (go_at_call 39; refine (within_any _ _ _ _).mono ?_; rintro e w1 ⟨rfl, rfl⟩; rw [hy])
    go_ret
    exact ⟨ret_int HE.out.symm, hbt⟩
  have hy' : 0 ≤ b.cat ∧ b.cat < s.cs.length := by simp [P.btw] at hy; omega
  have HY : Aside (0 ≤ b.cat ∧ b.cat < s.cs.length) := hy'
  clear hy'
  cases h1 : (b.frm == 0)
  · have HE : Aside (P.promE s b = 4) := by show _ = _; rw [P.promE, if_pos hy, if_neg (by simp at h1; simp [h1])]
    go_enter Try.func67, Try.ntmps67
    go_wp2_with (go_at_call 39; refine (within_any _ _ _ _).mono ?_; rintro e w1 ⟨rfl, rfl⟩; rw [hy])
    go_ret
    exact ⟨ret_int HE.out.symm, hbt⟩
  cases h2 : (b.to == s.legs)
  · have HE : Aside (P.promE s b = 4) := by show _ = _; rw [P.promE, if_pos hy, if_neg (by simp at h2; simp [h2])]
    go_enter Try.func67, Try.ntmps67
    go_wp2_with (go_at_call 39; refine (within_any _ _ _ _).mono ?_; rintro e w1 ⟨rfl, rfl⟩; rw [hy])
    go_ret
    exact ⟨ret_int HE.out.symm, hbt⟩
  have h12 : b.frm = 0 ∧ b.to = s.legs := by simpa using And.intro h1 h2
  have H12 : Aside (b.frm = 0 ∧ b.to = s.legs) := h12
  clear h12
  cases h3 : (b.cabin == -1)
  rotate_left
  · have HE : Aside (P.promE s b = 0) := by show _ = _; rw [P.promE, if_pos hy, if_pos H12.out, if_pos (by simpa using h3)]
    go_enter Try.func67, Try.ntmps67
    go_wp2_with (go_at_call 39; refine (within_any _ _ _ _).mono ?_; rintro e w1 ⟨rfl, rfl⟩; rw [hy])
    go_ret
    exact ⟨ret_int HE.out.symm, hbt⟩
  cases hc : P.cabB s b.cabin
  · have HE : Aside (P.promE s b = 3) := by show _ = _; rw [P.promE, if_pos hy, if_pos H12.out, if_neg (by simpa using h3), if_neg (by simp [hc])]
    go_enter Try.func67, Try.ntmps67
    go_wp2_with (first
      | (go_at_call 39; refine (within_any _ _ _ _).mono ?_; rintro e w1 ⟨rfl, rfl⟩; rw [hy])
      | (go_at_call 19; refine (isCabin_any s a _ _ (by omega)).mono ?_; rintro e w1 ⟨rfl, hb1⟩; rw [hc]))
    go_ret
    exact ⟨ret_int HE.out.symm, bvia hbt hb1⟩
  · have HE : Aside (P.promE s b = P.eligE s b) := by show _ = _; rw [P.promE, if_pos hy, if_pos H12.out, if_neg (by simpa using h3), if_pos hc]; rfl
    go_enter Try.func67, Try.ntmps67
    go_wp2_with (first
      | (go_at_call 39; refine (within_any _ _ _ _).mono ?_; rintro e w1 ⟨rfl, rfl⟩; rw [hy])
      | (go_at_call 19; refine (isCabin_any s a _ _ (by omega)).mono ?_; rintro e w1 ⟨rfl, hb1⟩; rw [hc]; obtain ⟨x0, x1, x2, x3, x4, x5, x6, x7, x8, x9, x10⟩ := hbx.below hb1; obtain ⟨v0, v1, v2, v3⟩ := hvx.below hb1)
      | (go_at_call 75; refine (checkEligible_any s a b fo fc _ (hs.below (bvia hbt hb1)) h0 hc HY.out).mono ?_; rintro e w2 ⟨rfl, hb2⟩))
    go_ret
    exact ⟨ret_int HE.out.symm, bvia (bvia hbt hb1) hb2⟩

set_option maxHeartbeats 1000000 in
theorem checkKind_any (s : Vsl) (a : VslA) (b : Bkg) (fo : Option Addr) (fc : Nat) (w : World) (hs : VslAt w s a) (h0 : P.shp s = 0) :
    Calls Try.prog 55 #[V.vsl s a, V.bk b fo fc] w fun e w' => e = .returned (.int .i64 (P.kindE s b)) ∧ Below w.heap.size w w' := by
  have hbt := two_below w s a b fo fc
  cases h1 : (b.kind == 1)
  · have HE : Aside (P.kindE s b = P.promE s b) := by show _ = _; rw [P.kindE, if_neg (by simpa using h1)]
    go_enter Try.func55, Try.ntmps55
    go_wp2_with (go_at_call 67; refine (checkPromise_any s a b fo fc _ (hs.below hbt) h0).mono ?_; rintro e w1 ⟨rfl, hb1⟩)
    go_ret
    exact ⟨ret_int HE.out.symm, bvia hbt hb1⟩
  · have HE : Aside (P.kindE s b = P.namedE s b) := by show _ = _; rw [P.kindE, if_pos (by simpa using h1)]
    go_enter Try.func55, Try.ntmps55
    go_wp2_with (go_at_call 66; refine (checkNamed_any s a b fo fc _ (hs.below hbt) h0).mono ?_; rintro e w1 ⟨rfl, hb1⟩)
    go_ret
    exact ⟨ret_int HE.out.symm, bvia hbt hb1⟩

end Go.Proofs.Ytgopdnlmiloipad.Bk
