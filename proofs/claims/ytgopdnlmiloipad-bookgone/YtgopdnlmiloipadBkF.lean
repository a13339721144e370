/- The reference: IsEligible, CheckBooking, CheckAll. -/
import Derived.Test.YtgopdnlmiloipadBkE
namespace Go.Proofs.Ytgopdnlmiloipad.Bk
open Go.RowKit
set_option linter.unusedSimpArgs false
set_option linter.unusedVariables false

/-- 'wpQuiet', shut: so that nothing unfolds it where operations are struck out. -/
structure Qt (P : Program) (ops : Array Oper) (C : World → Prop) (Q : Act → Prop) (l : List Oper) (a : Act) : Prop where
  out : wpQuiet P ops C Q l a
theorem Qt.step {P : Program} {ops : Array Oper} {C : World → Prop} {Q : Act → Prop} {rest : List Oper} {o : Oper} {a : Act}
    (h : ∀ K : Act → Prop, (∀ a, Qt P ops C Q rest a → K a) → if Region.wanted o (yielded ops a.tmps) then o.quiet P a C K else K (a.put o.dst undef)) : Qt P ops C Q (o :: rest) a := ⟨h _ (fun _ h => h.out)⟩
theorem Qt.fin {P : Program} {ops : Array Oper} {C : World → Prop} {Q : Act → Prop} {a : Act} (h : Q a) : Qt P ops C Q [] a := ⟨h⟩

theorem doesServe_int (s : Vsl) (a : VslA) (x y : Int) (w : World) (hs : VslAt w s a) (h0 : P.shp s = 0) (hx : 0 ≤ x ∧ x < s.cs.length) (hy : 0 ≤ y ∧ y < s.cs.length) :
    Calls Try.prog 47 #[V.vsl s a, .int .i64 x, .int .i64 y] w fun e w' => e = .returned (.bool (Sh.P.serves s.cs x y)) ∧ Below w.heap.size w w' := by
  obtain ⟨x, rfl⟩ : ∃ k : Nat, x = k := ⟨x.toNat, by omega⟩
  obtain ⟨y, rfl⟩ : ∃ k : Nat, y = k := ⟨y.toNat, by omega⟩
  exact Sh.doesServe_any _ _ _ _ _ _ _ _ x y w hs h0 (by omega) (by omega)

theorem doesFit_is (c : Sh.Cab) (b : Bkg) (fo : Option Addr) (fc : Nat) (w : World) (v : Bool) (h : P.suits c b = v) :
    Calls Try.prog 30 #[V.cab c, V.bk b fo fc] w fun e w' => e = .returned (.bool v) ∧ Below w.heap.size w w' := by
  subst h
  exact doesFit_any c b fo fc w

set_option maxHeartbeats 600000 in
theorem isEligible_any (s : Vsl) (a : VslA) (b : Bkg) (fo : Option Addr) (fc : Nat) (n : Int) (w : World) (hs : VslAt w s a) (h0 : P.shp s = 0) (hc : P.cabB s n = true) (hy : 0 ≤ b.cat ∧ b.cat < s.cs.length) :
    Calls Try.prog 31 #[V.vsl s a, V.bk b fo fc, .int .i64 n] w fun e w' => e = .returned (.bool (P.elig s b n)) ∧ Below w.heap.size w w' := by
  have hbt := two_below w s a b fo fc
  have hbx := two_b w s a b fo fc
  have hvx := two_v w s a b fo fc
  obtain ⟨k, bb, off, c, ek, hk, ec, hm, ebao, q0, q1, q2, q3⟩ := cab_get hs hbt hc
  subst ek
  have hk1 : (k : Int) < s.bs.length := by omega
  have hk2 : (0 : Int) ≤ k := by omega
  obtain ⟨g0, g1, _, _⟩ := shp_cabs h0 c hm
  have HS : Aside (∀ W : World, VslAt W s a → Calls Try.prog 47 #[V.vsl s a, .int .i64 c.2.1, .int .i64 b.cat] W fun e w' => e = .returned (.bool (Sh.P.serves s.cs c.2.1 b.cat)) ∧ Below W.heap.size W w') := fun W hW => doesServe_int s a _ _ W hW h0 ⟨g0, g1⟩ hy
  have HE : Aside (P.elig s b k = (Sh.P.serves s.cs c.2.1 b.cat && P.suits c b)) := by show _ = _; rw [P.elig, ec]
  clear hc g0 g1 hy hm
  obtain ⟨legs, souls, cs, bs⟩ := s
  obtain ⟨cao, bao, cc, bc⟩ := a
  simp only at *
  subst ebao
  obtain ⟨x0, x1, x2, x3, x4, x5, x6, x7, x8, x9, x10⟩ := hbx
  obtain ⟨v0, v1, v2, v3⟩ := hvx
  simp only at v0 v1 v2 v3
  have hs2 := hs.below hbt
  generalize hW : W.two w { legs := legs, souls := souls, cs := cs, bs := bs } { cao := cao, bao := some ⟨bb, off, none⟩, cc := cc, bc := bc } b fo fc = W0 at *
  have hW' : (w.alloc (.cells #[.int .i64 legs, .int .i64 souls, .slice cao cs.length cc, .slice (some ⟨bb, off, none⟩) bs.length bc] 25)).alloc (.cells #[.int .i64 b.id, .int .i64 b.kind, .int .i64 b.state, .int .i64 b.guests, .bool b.level, .int .i64 b.cabin, .int .i64 b.cat, .int .i64 b.frm, .int .i64 b.to, .int .i64 b.til, .slice fo b.fol.length fc] 30) = W0 := hW
  have r0 := cell_regrown x0
  have r1 := cell_regrown x1
  have r2 := cell_regrown x2
  have r3 := cell_regrown x3
  have r4 := cell_regrown x4
  have r5 := cell_regrown x5
  have r6 := cell_regrown x6
  have r7 := cell_regrown x7
  have r8 := cell_regrown x8
  have r9 := cell_regrown x9
  have r10 := cell_regrown x10
  have t0 := cell_regrown v0
  have t1 := cell_regrown v1
  have t2 := cell_regrown v2
  have t3 := cell_regrown v3
  have u0 := cell_regrown q0
  have u1 := cell_regrown q1
  have u2 := cell_regrown q2
  have u3 := cell_regrown q3
  clear x0 x1 x2 x3 x4 x5 x6 x7 x8 x9 x10 v0 v1 v2 v3 q0 q1 q2 q3
  cases hsu : P.suits c b
  · go_enter Try.func31, Try.ntmps31
    go_wp2
    try rw [hW']
    refine wp_region_quiet_below (by kernel_rfl) (by kernel_rfl) (Qt.out ?_)
    repeat (refine Qt.step (fun K hK => ?_); go_simp; first | (refine hK _ ?_; clear hK K) | (apply Exists.intro; refine ⟨fun _ => ?_, hK _ ?_⟩; (first | (go_at_call 30; exact Calls.regrown_of (v := .bool false) (doesFit_is c b fo fc _ _ hsu)) | (go_at_call 47; exact Calls.regrown_of (v := .bool (Sh.P.serves cs c.2.1 b.cat)) (HS.out _ (hs2.below (below_regrown _ _ _))))); clear hK K))
    refine Qt.fin ?_
    intro w2 hw2
    obtain ⟨⟨dq, osq⟩, hw2⟩ := hw2
    have hb2 := below_regrown W0 dq osq
    rw [← hw2] at hb2
    clear hw2 r0 r1 r2 r3 r4 r5 r6 r7 r8 r9 r10 t0 t1 t2 t3 u0 u1 u2 u3
    go_wp2
    go_ret
    exact ⟨ret_bool (by rw [HE.out, hsu]; simp), bvia hbt hb2⟩
  · go_enter Try.func31, Try.ntmps31
    go_wp2
    try rw [hW']
    refine wp_region_quiet_below (by kernel_rfl) (by kernel_rfl) (Qt.out ?_)
    repeat (refine Qt.step (fun K hK => ?_); go_simp; first | (refine hK _ ?_; clear hK K) | (apply Exists.intro; refine ⟨fun _ => ?_, hK _ ?_⟩; (first | (go_at_call 30; exact Calls.regrown_of (v := .bool true) (doesFit_is c b fo fc _ _ hsu)) | (go_at_call 47; exact Calls.regrown_of (v := .bool (Sh.P.serves cs c.2.1 b.cat)) (HS.out _ (hs2.below (below_regrown _ _ _))))); clear hK K))
    refine Qt.fin ?_
    intro w2 hw2
    obtain ⟨⟨dq, osq⟩, hw2⟩ := hw2
    have hb2 := below_regrown W0 dq osq
    rw [← hw2] at hb2
    clear hw2 r0 r1 r2 r3 r4 r5 r6 r7 r8 r9 r10 t0 t1 t2 t3 u0 u1 u2 u3
    go_wp2
    go_ret
    exact ⟨ret_bool (by rw [HE.out, hsu]; simp), bvia hbt hb2⟩

end Go.Proofs.Ytgopdnlmiloipad.Bk
