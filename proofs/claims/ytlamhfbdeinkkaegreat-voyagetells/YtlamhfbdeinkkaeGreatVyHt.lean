/- Package voyage: settle, Close, plan, Plan. -/
import Derived.Test.YtlamhfbdeinkkaeGreatVyGt
import Derived.Test.YtlamhfbdeinkkaeGreatStNt
namespace Go.Proofs.YtlamhfbdeinkkaeGreat.St
open Go.RowKit Bk
set_option linter.unusedSimpArgs false
set_option linter.unusedVariables false
set_option maxRecDepth 10000

theorem settle1_calls : ∀ (args : Array Value) (wx : World), (callFunc 140 args).run Tryz.prog wx = .ok (.enter 140 args) wx := enters_of Tryz.func140 (by kernel_rfl) rfl

set_option maxHeartbeats 16000000 in
theorem settle_any (x : Sail) (a : SailA) (w : World) (hs : SailAt w x a) (hE : P.SailE x 0) :
    Calls Tryz.prog 87 #[V.sail x a] w fun e w' => ∃ f a', e = .returned (.tuple #[V.sail (P.clS x (P.gv (P.cnt x.bks) f x.bks)) a', .int .i64 0]) ∧ P.Lex (P.cnt x.bks) (P.pedg x.s x.bks 0 x.bks) f (P.cnt x.bks) ∧ P.ext (P.cnt x.bks) (P.pedg x.s x.bks 0 x.bks) (P.cnt x.bks) f ∧ SailUp w.heap.size w' (P.clS x (P.gv (P.cnt x.bks) f x.bks)) a' ∧ Below w.heap.size w w' := by
  have HE : Aside (P.SailE x 0) := hE
  have HS : Aside (SailAt w x a) := hs
  have hb0 : Below w.heap.size w ((w.alloc (.cells (C.sail x a) 116)).alloc O.zs) := bvia (al _ _) (al _ _)
  have HX0 : Aside (SRow ((w.alloc (.cells (C.sail x a) 116)).alloc O.zs) w.heap.size x a) := (RowIs.new w (C.sail x a) 116).below (al _ _)
  have HZ0 : Aside (RowIs ((w.alloc (.cells (C.sail x a) 116)).alloc O.zs) (w.heap.size + 1) C.zs) := by
    have := RowIs.new (w.alloc (.cells (C.sail x a) 116)) C.zs 32
    rwa [World.size_alloc] at this
  have hz0 : ((w.alloc (.cells (C.sail x a) 116)).alloc O.zs).heap.size = w.heap.size + 1 + 1 := by simp
  clear hs hE
  obtain ⟨d0, d1, d2, d3, d4, d5, d6, d7, d8, d9, d10, d11, d12⟩ := SRow.box HX0.out
  go_enter Tryz.func87, Tryz.ntmps87
  go_wp2_with fail
  refine (stockPromises_any x a _ (HS.out.below hb0)).mono ?_
  rintro e w1 ⟨r, v1, v2, rfl, hr, own1, own2, hb1⟩
  obtain rfl := SailE.one HE.out hr
  rw [P.ok, if_pos rfl] at own1 own2
  obtain ⟨ao1, c1, hv1, hi1⟩ := OwnJ.at own1
  obtain ⟨ao2, c2, hv2, hi2⟩ := OwnC.at cellsG_len own2
  rw [show (P.pids x.bks).length = P.cnt x.bks from pids_len _] at hv1
  subst hv1
  subst hv2
  have hB1 := bvia hb0 hb1
  have hsz1 : w.heap.size + 1 + 1 ≤ w1.heap.size := by rw [← hz0]; exact hb1.size
  have hbB : Below w1.heap.size w1 ((w1.alloc (.cells #[.slice ao1 (P.cnt x.bks) c1] 47)).alloc (.cells #[.slice ao2 (P.pedg x.s x.bks 0 x.bks).length c2] 65)) := bvia (al _ _) (al _ _)
  have HI : Aside (IntsAt w1 ao1 c1 (P.pids x.bks)) := hi1
  have HG : Aside (GAt w1 ao2 c2 (P.pedg x.s x.bks 0 x.bks)) := hi2
  have HX1 : Aside (SRow ((w1.alloc (.cells #[.slice ao1 (P.cnt x.bks) c1] 47)).alloc (.cells #[.slice ao2 (P.pedg x.s x.bks 0 x.bks).length c2] 65)) w.heap.size x a) := (HX0.out.below hb1).below hbB
  have HZ1 : Aside (RowIs ((w1.alloc (.cells #[.slice ao1 (P.cnt x.bks) c1] 47)).alloc (.cells #[.slice ao2 (P.pedg x.s x.bks 0 x.bks).length c2] 65)) (w.heap.size + 1) C.zs) := (HZ0.out.below hb1).below hbB
  have HP1 : Aside (RowIs ((w1.alloc (.cells #[.slice ao1 (P.cnt x.bks) c1] 47)).alloc (.cells #[.slice ao2 (P.pedg x.s x.bks 0 x.bks).length c2] 65)) w1.heap.size #[.slice ao1 (P.cnt x.bks) c1]) := (RowIs.new w1 _ _).below (al _ _)
  have HP2 : Aside (RowIs ((w1.alloc (.cells #[.slice ao1 (P.cnt x.bks) c1] 47)).alloc (.cells #[.slice ao2 (P.pedg x.s x.bks 0 x.bks).length c2] 65)) (w1.heap.size + 1) #[.slice ao2 (P.pedg x.s x.bks 0 x.bks).length c2]) := by
    have := RowIs.new (w1.alloc (.cells #[.slice ao1 (P.cnt x.bks) c1] 47)) #[.slice ao2 (P.pedg x.s x.bks 0 x.bks).length c2] 65
    rwa [World.size_alloc] at this
  have HBB : Aside (Below w.heap.size w ((w1.alloc (.cells #[.slice ao1 (P.cnt x.bks) c1] 47)).alloc (.cells #[.slice ao2 (P.pedg x.s x.bks 0 x.bks).length c2] 65))) := bvia hB1 hbB
  have HH : Aside (HowOk ((w1.alloc (.cells #[.slice ao1 (P.cnt x.bks) c1] 47)).alloc (.cells #[.slice ao2 (P.pedg x.s x.bks 0 x.bks).length c2] 65)).heap.size ((w1.alloc (.cells #[.slice ao1 (P.cnt x.bks) c1] 47)).alloc (.cells #[.slice ao2 (P.pedg x.s x.bks 0 x.bks).length c2] 65)) x 140 #[.pointer (some ⟨w1.heap.size, 0, none⟩), .pointer (some ⟨w.heap.size, 0, none⟩), .pointer (some ⟨w1.heap.size + 1, 0, none⟩)] (fun r => r = 0) (fun y => ∃ f, P.Lex (P.cnt x.bks) (P.pedg x.s x.bks 0 x.bks) f (P.cnt x.bks) ∧ P.ext (P.cnt x.bks) (P.pedg x.s x.bks 0 x.bks) (P.cnt x.bks) f ∧ y = P.clS x (P.gv (P.cnt x.bks) f x.bks))) :=
    settle1_how _ x a w1 ((w1.alloc (.cells #[.slice ao1 (P.cnt x.bks) c1] 47)).alloc (.cells #[.slice ao2 (P.pedg x.s x.bks 0 x.bks).length c2] 65)) w1.heap.size w.heap.size (w1.heap.size + 1) ao1 c1 ao2 c2 HI.out HG.out hbB HP1.out HX1.out HP2.out HE.out
  have HC : Aside (Calls Tryz.prog 117 #[V.sail x a, .func (.func 140) #[] #[.pointer (some ⟨w1.heap.size, 0, none⟩), .pointer (some ⟨w.heap.size, 0, none⟩), .pointer (some ⟨w1.heap.size + 1, 0, none⟩)]] ((w1.alloc (.cells #[.slice ao1 (P.cnt x.bks) c1] 47)).alloc (.cells #[.slice ao2 (P.pedg x.s x.bks 0 x.bks).length c2] 65)) _) :=
    anew_any _ x a _ _ _ _ ((w1.alloc (.cells #[.slice ao1 (P.cnt x.bks) c1] 47)).alloc (.cells #[.slice ao2 (P.pedg x.s x.bks 0 x.bks).length c2] 65)) (Nat.le_refl _) (HS.out.below HBB.out) (small_of HE.out) settle1_calls HH.out
  obtain ⟨e0, e1, e2, e3, e4, e5, e6, e7, e8, e9, e10, e11, e12⟩ := SRow.box HX1.out
  clear d0 d1 d2 d3 d4 d5 d6 d7 d8 d9 d10 d11 d12 hr own1 own2 hi1 hi2 hb1 hbB HX0 HZ0 hb0 hB1 HH hz0 HI HG
  go_wp2_with fail
  refine HC.out.mono ?_
  rintro e w2 ⟨r, y, a2, rfl, hA, hU, hb2⟩
  have hy : r = 0 ∧ ∃ f, P.Lex (P.cnt x.bks) (P.pedg x.s x.bks 0 x.bks) f (P.cnt x.bks) ∧ P.ext (P.cnt x.bks) (P.pedg x.s x.bks 0 x.bks) (P.cnt x.bks) f ∧ y = P.clS x (P.gv (P.cnt x.bks) f x.bks) := by
    rcases hA with ⟨h1, h2, _⟩ | ⟨_, z, q, ⟨f, f1, f2, hz⟩, h3, h4⟩
    · exact absurd h1 h2
    · subst hz
      have hq := SailE.one h3 (closed_right HE.out f2)
      rcases h4 with ⟨_, h5, h6⟩ | ⟨h5, _⟩
      · exact ⟨h5, f, f1, f2, h6⟩
      · exact absurd hq h5
  obtain ⟨rfl, f, f1, f2, rfl⟩ := hy
  have H1 : Aside (P.Lex (P.cnt x.bks) (P.pedg x.s x.bks 0 x.bks) f (P.cnt x.bks)) := f1
  have H2 : Aside (P.ext (P.cnt x.bks) (P.pedg x.s x.bks 0 x.bks) (P.cnt x.bks) f) := f2
  have HU : Aside (SailUp ((w1.alloc (.cells #[.slice ao1 (P.cnt x.bks) c1] 47)).alloc (.cells #[.slice ao2 (P.pedg x.s x.bks 0 x.bks).length c2] 65)).heap.size w2 (P.clS x (P.gv (P.cnt x.bks) f x.bks)) a2) := hU
  have HB2 : Aside (Below w.heap.size w w2) := bvia HBB.out hb2
  have HZ2 : Aside (RowIs w2 (w.heap.size + 1) C.zs) := HZ1.out.below hb2
  have HL : Aside (w.heap.size + 1 < ((w1.alloc (.cells #[.slice ao1 (P.cnt x.bks) c1] 47)).alloc (.cells #[.slice ao2 (P.pedg x.s x.bks 0 x.bks).length c2] 65)).heap.size) := HZ1.out.lt
  clear e0 e1 e2 e3 e4 e5 e6 e7 e8 e9 e10 e11 e12 f1 f2 hU hb2 hA HC HX1 HZ1 HP1 HP2 HBB
  go_wp2_with ((with_reducible refine wpList_stO (w.heap.size + 1) C.zs (C.sail (P.clS x (P.gv (P.cnt x.bks) f x.bks)) a2) ?_ ?_ ?_ HZ2.out ?_ ?_ ?_); exact Tryz.sizeSail; rfl; rfl; rfl; exact sail_one _ _; intro w9 hr9 hg9)
  exact bodyPost_ret (res2 rfl hr9 _ rfl rfl Tryz.underlying32 rfl Tryz.sizeSail) rfl ⟨f, a2, rfl, H1.out, H2.out, SailUp.mono (SailUp.up HU.out (Up.gr hg9 HL.out)) (by have := HL.out; omega), below_gr HB2.out HB2.out.size hg9 (by omega)⟩

/-- What Close answers. -/
def P.CloseE (x : Sail) (r : Int) (y : Sail) : Prop :=
  (∃ q, P.SailE x q ∧ ¬ q = 0 ∧ r = q ∧ y = P.zeroS) ∨
  (P.SailE x 0 ∧ ((x.cl = true ∧ r = 4 ∧ y = P.zeroS) ∨ (x.cl = false ∧ r = 0 ∧ ∃ f, P.Lex (P.cnt x.bks) (P.pedg x.s x.bks 0 x.bks) f (P.cnt x.bks) ∧ P.ext (P.cnt x.bks) (P.pedg x.s x.bks 0 x.bks) (P.cnt x.bks) f ∧ y = P.clS x (P.gv (P.cnt x.bks) f x.bks))))
set_option maxHeartbeats 16000000 in
theorem voyClose_any (x : Sail) (a : SailA) (w : World) (hs : SailAt w x a) :
    Calls Tryz.prog 33 #[V.sail x a] w fun e w' => ∃ r y a', e = .returned (.tuple #[V.sail y a', .int .i64 r]) ∧ P.CloseE x r y ∧ SailUp w.heap.size w' y a' ∧ Below w.heap.size w w' := by
  have HS : Aside (SailAt w x a) := hs
  have hb0 : Below w.heap.size w ((W.sail w x a).alloc O.zs) := bvia (sail_below w x a) (al _ _)
  have HX0 : Aside (SRow ((W.sail w x a).alloc O.zs) w.heap.size x a) := (RowIs.new w _ _ : SRow (W.sail w x a) w.heap.size x a).below (al _ _)
  have HZ0 : Aside (RowIs ((W.sail w x a).alloc O.zs) (w.heap.size + 1) C.zs) := by
    have := RowIs.new (W.sail w x a) C.zs 32
    rwa [World.size_alloc] at this
  have hz0 : ((W.sail w x a).alloc O.zs).heap.size = w.heap.size + 1 + 1 := by simp
  clear hs
  obtain ⟨d0, d1, d2, d3, d4, d5, d6, d7, d8, d9, d10, d11, d12⟩ := SRow.box HX0.out
  go_enter Tryz.func33, Tryz.ntmps33
  go_wp2_with fail
  refine (stockCheck_any x a _ (HS.out.below hb0)).mono ?_
  rintro e w1 ⟨q, rfl, hq, hb1⟩
  have hsz1 : w.heap.size + 1 + 1 ≤ w1.heap.size := by rw [← hz0]; exact hb1.size
  have hB1 := bvia hb0 hb1
  have HX1 : Aside (SRow w1 w.heap.size x a) := HX0.out.below hb1
  have HZ1 : Aside (RowIs w1 (w.heap.size + 1) C.zs) := HZ0.out.below hb1
  have HQ : Aside (P.SailE x q) := hq
  clear d0 d1 d2 d3 d4 d5 d6 d7 d8 d9 d10 d11 d12 HX0 HZ0 hb0 hb1 hq hz0
  cases hz : (q != 0)
  rotate_left
  · have HN : Aside (¬ q = 0) := by show ¬ _; simpa using hz
    go_wp2_with ((with_reducible refine wpList_stO (w.heap.size + 1) C.zs (C.sail P.zeroS A.zeroS) ?_ ?_ ?_ HZ1.out ?_ ?_ ?_); exact Tryz.sizeSail; rfl; rfl; rfl; exact sail_one _ _; intro w9 hr9 hg9)
    exact bodyPost_ret (res2 rfl hr9 _ rfl rfl Tryz.underlying32 rfl Tryz.sizeSail) rfl ⟨q, P.zeroS, A.zeroS, rfl, .inl ⟨q, HQ.out, HN.out, rfl, rfl⟩, SailUp.zero _ _, below_gr hB1 hB1.size hg9 (by omega)⟩
  obtain rfl : q = 0 := by simpa using hz
  clear hz
  obtain ⟨d0, d1, d2, d3, d4, d5, d6, d7, d8, d9, d10, d11, d12⟩ := SRow.box HX1.out
  cases hcl : x.cl
  rotate_left
  · have HCL : Aside (x.cl = true) := hcl
    go_wp2_with ((with_reducible refine wpList_stO (w.heap.size + 1) C.zs (C.sail P.zeroS A.zeroS) ?_ ?_ ?_ HZ1.out ?_ ?_ ?_); exact Tryz.sizeSail; rfl; rfl; rfl; exact sail_one _ _; intro w9 hr9 hg9)
    exact bodyPost_ret (res2 rfl hr9 _ rfl rfl Tryz.underlying32 rfl Tryz.sizeSail) rfl ⟨4, P.zeroS, A.zeroS, rfl, .inr ⟨HQ.out, .inl ⟨HCL.out, rfl, rfl⟩⟩, SailUp.zero _ _, below_gr hB1 hB1.size hg9 (by omega)⟩
  have HCL : Aside (x.cl = false) := hcl
  have HV : Aside (∀ b : Bool, x.cl = b → Value.agg #[.int .i64 x.s.legs, .int .i64 x.s.souls, .slice a.v.cao x.s.cs.length a.v.cc, .slice a.v.bao x.s.bs.length a.v.bc, .slice a.lo x.L.length a.lc, .int .i64 x.al, .int .i64 x.th, .slice a.bo x.B.length a.bc, .int .i64 x.dn, .int .i64 x.day, .int .i64 x.lvs, .slice a.ao x.bks.length a.cap, .bool b] = V.sail x a) := fun b e => by rw [← e]
  go_wp2_with fail
  rw [HV.out false HCL.out]
  refine (settle_any x a _ (HS.out.below hB1) HQ.out).mono ?_
  rintro e w2 ⟨f, a2, rfl, f1, f2, hU2, hb2⟩
  have H1 : Aside (P.Lex (P.cnt x.bks) (P.pedg x.s x.bks 0 x.bks) f (P.cnt x.bks)) := f1
  have H2 : Aside (P.ext (P.cnt x.bks) (P.pedg x.s x.bks 0 x.bks) (P.cnt x.bks) f) := f2
  have HU2 : Aside (SailUp w1.heap.size w2 (P.clS x (P.gv (P.cnt x.bks) f x.bks)) a2) := hU2
  have HB2 : Aside (Below w.heap.size w w2) := bvia hB1 hb2
  have HZ2 : Aside (RowIs w2 (w.heap.size + 1) C.zs) := HZ1.out.below hb2
  clear d0 d1 d2 d3 d4 d5 d6 d7 d8 d9 d10 d11 d12 hU2 hb2 hB1 HZ1 HX1 f1 f2 hcl
  go_wp2_with ((with_reducible refine wpList_stO (w.heap.size + 1) C.zs (C.sail (P.clS x (P.gv (P.cnt x.bks) f x.bks)) a2) ?_ ?_ ?_ HZ2.out ?_ ?_ ?_); exact Tryz.sizeSail; rfl; rfl; rfl; exact sail_one _ _; intro w9 hr9 hg9)
  exact bodyPost_ret (res2 rfl hr9 _ rfl rfl Tryz.underlying32 rfl Tryz.sizeSail) rfl ⟨0, P.clS x (P.gv (P.cnt x.bks) f x.bks), a2, rfl, .inr ⟨HQ.out, .inr ⟨HCL.out, rfl, f, H1.out, H2.out, rfl⟩⟩, SailUp.mono (SailUp.up HU2.out (Up.gr hg9 (by omega))) (by omega), below_gr HB2.out HB2.out.size hg9 (by omega)⟩

def P.plP (b : Bkg) : Bool := decide (b.state ≠ 3) && decide (b.cabin ≠ -1)
/-- Who has which cabin. -/
def P.planL (l : List Bkg) : List (Int × Int) := (l.filter P.plP).map fun b => (b.id, b.cabin)
theorem planL_snoc (l : List Bkg) (b : Bkg) : P.planL (l ++ [b]) = P.planL l ++ (if P.plP b = true then [(b.id, b.cabin)] else []) := by
  rw [P.planL, P.planL, List.filter_append, List.map_append]
  congr 1
  cases h : P.plP b <;> simp [List.filter_cons, h]
theorem planL_len (l : List Bkg) : (P.planL l).length ≤ l.length := by
  rw [P.planL, List.length_map]
  exact List.length_filter_le _ _

theorem plan_all {w : World} {base : Nat} {v : Value} {l : List Bkg} (h : Aside (OwnG w base v (P.planL (l.take l.length)))) : Aside (OwnG w base v (P.planL l)) := by
  have h := h.out
  rw [List.take_length] at h
  exact h
theorem plan_below {w w' : World} {base : Nat} {v : Value} {l : List (Int × Int)} (h : Aside (OwnG w base v l)) (hb : Below w.heap.size w w') : Aside (OwnG w' base v l) := OwnC.below h.out hb
theorem plan_skip {w : World} {base k : Nat} {v : Value} {l : List Bkg} {b : Bkg} (h : Aside (OwnG w base v (P.planL (l.take k)))) (hT : Aside (l.take (k + 1) = l.take k ++ [b])) (hp : P.plP b = false) : Aside (OwnG w base v (P.planL (l.take (k + 1)))) := by
  show OwnG _ _ _ _
  rw [hT.out, planL_snoc, hp]
  simpa using h.out

set_option maxHeartbeats 4000000 in
theorem plan_any (x : Sail) (a : SailA) (w : World) (hs : SailAt w x a) (h16 : x.bks.length ≤ 16) :
    Calls Tryz.prog 88 #[V.sail x a] w fun e w' => ∃ v, e = .returned v ∧ OwnG w' w.heap.size v (P.planL x.bks) ∧ Below w.heap.size w w' := by
  have HS : Aside (SailAt w x a) := hs
  have hb0 : Below w.heap.size w (w.alloc (.cells (C.sail x a) 116)) := al _ _
  have HB : Aside (Below w.heap.size w (w.alloc (.cells (C.sail x a) 116))) := hb0
  have d11 : (w.alloc (.cells (C.sail x a) 116)).cell? ⟨w.heap.size, 11, none⟩ = some (.slice a.ao x.bks.length a.cap) := (RowIs.new w (C.sail x a) 116).cell 11
  have HO : Aside (OwnG (w.alloc (.cells (C.sail x a) 116)) w.heap.size (.slice none 0 0) (P.planL (x.bks.take 0))) := OwnC.nil _ _
  clear hs hb0
  go_enter Tryz.func88, Tryz.ntmps88
  go_wp2
  clear d11
  go_loopg [3, 10] x.bks.length (fun q lv iv wr => ∃ (k : Nat) (v : Value), k ≤ x.bks.length ∧ q = x.bks.length - k ∧ lv = v ∧ iv = .int .i64 k ∧ Aside (OwnG wr w.heap.size v (P.planL (x.bks.take k))) ∧ Aside (Below w.heap.size w wr))
  case atStart => exact ⟨0, _, Nat.zero_le _, rfl, rfl, rfl, HO, HB⟩
  case round =>
    clear HO HB
    obtain ⟨k, v, hk, rfl, rfl, rfl, HO, HB⟩ := hrel
    by_cases hlt : k < x.bks.length
    rotate_left
    · obtain rfl : k = x.bks.length := by omega
      have HO2 := plan_all HO
      go_wp2
      go_ret
      exact ⟨_, rfl, HO2.out, HB.out⟩
    have hlt2 : (k : Int) < x.bks.length := by omega
    obtain ⟨b2, off, b, fo, fc, hao, hbw, hd, ⟨q0, q1, q2, q3, q4, q5, q6, q7, q8, q9, q10⟩, hfe⟩ := BksAt.get HS.out.bks HB.out k hlt
    have HT : Aside (x.bks.take (k + 1) = x.bks.take k ++ [b]) := take_snoc' hlt hd
    have HBX : Aside (RowIs (W.bk wr b fo fc) wr.heap.size (C.bk b fo fc)) := RowIs.new wr _ _
    have HOX := plan_below HO (bk_below wr b fo fc)
    have HBW : Aside (Below w.heap.size w (W.bk wr b fo fc)) := bvia HB.out (bk_below wr b fo fc)
    clear hd hfe HO HB
    go_upto_region 5 with (fail)
    clear hao q0 q1 q2 q3 q4 q5 q6 q7 q8 q9 q10
    change Code.wp Tryz.prog _ _ _ (W.bk wr b fo fc)
    generalize W.bk wr b fo fc = wB at HBX HOX HBW ⊢
    obtain ⟨z0, z1, z2, z3, z4, z5, z6, z7, z8, z9, z10⟩ := HBX.out.bbox
    have hwl : wr.heap.size < wB.heap.size := HBX.out.lt
    cases hp : P.plP b
    · have HO2 := plan_skip HOX HT hp
      by_cases hst : b.state = 3
      · have hst' : (b.state != 3) = false := by simp [hst]
        clear hst hp
        go_wp2
        go_roundg (x.bks.length - (k + 1))
        case measure => omega
        case rel => exact ⟨k + 1, _, by omega, rfl, rfl, by go_num, HO2, HBW⟩
      · have hst' : (b.state != 3) = true := by simp [hst]
        have hcb : (b.cabin != -1) = false := by simpa [P.plP, hst] using hp
        clear hst hp
        go_wp2
        go_roundg (x.bks.length - (k + 1))
        case measure => omega
        case rel => exact ⟨k + 1, _, by omega, rfl, rfl, by go_num, HO2, HBW⟩
    · have hpp : b.state ≠ 3 ∧ b.cabin ≠ -1 := by simpa [P.plP] using hp
      have hst' : (b.state != 3) = true := by simpa using hpp.1
      have hcb : (b.cabin != -1) = true := by simpa using hpp.2
      have HP : Aside (P.plP b = true) := hp
      have hn : (P.planL (x.bks.take k)).length ≤ 1000000 := by
        have h1 := planL_len (x.bks.take k)
        have h2 := List.length_take_le k x.bks
        omega
      have hwb : w.heap.size ≤ wB.heap.size := HBW.out.size
      clear hpp hp
      go_wp2_with (at_builtin; refine wpList_app_edg rfl _ _ (by rfl) w.heap.size _ (P.planL (x.bks.take k)) b.id b.cabin (by rfl) HOX.out wB.heap.size rfl (by rfl) hwb hn ?_; intro v3 w3 own3 gr3)
      have HO2 : Aside (OwnG w3 w.heap.size v3 (P.planL (x.bks.take (k + 1)))) := by
        show OwnG _ _ _ _
        rw [HT.out, planL_snoc, HP.out]
        exact own3
      have HB3 : Aside (Below w.heap.size w w3) := OwnC.grown HBW.out HOX.out (Nat.le_refl _) gr3
      clear own3 gr3
      go_roundg (x.bks.length - (k + 1))
      case measure => omega
      case rel => exact ⟨k + 1, v3, by omega, rfl, rfl, by go_num, HO2, HB3⟩

set_option maxHeartbeats 4000000 in
theorem voyPlan_any (x : Sail) (a : SailA) (w : World) (hs : SailAt w x a) :
    Calls Tryz.prog 34 #[V.sail x a] w fun e w' => ∃ r v, e = .returned (.tuple #[v, .int .i64 r]) ∧ P.SailE x r ∧ OwnG w' w.heap.size v (P.ok r (P.planL x.bks)) ∧ Below w.heap.size w w' := by
  have HS : Aside (SailAt w x a) := hs
  have hb0 := sail_below w x a
  have HX0 : Aside (SRow (W.sail w x a) w.heap.size x a) := RowIs.new w _ _
  have hz0 : (W.sail w x a).heap.size = w.heap.size + 1 := by simp
  clear hs
  obtain ⟨d0, d1, d2, d3, d4, d5, d6, d7, d8, d9, d10, d11, d12⟩ := SRow.box HX0.out
  go_enter Tryz.func34, Tryz.ntmps34
  go_wp2_with fail
  refine (stockCheck_any x a _ (HS.out.below hb0)).mono ?_
  rintro e w1 ⟨q, rfl, hq, hb1⟩
  have hsz1 : w.heap.size + 1 ≤ w1.heap.size := by rw [← hz0]; exact hb1.size
  have HB1 : Aside (Below w.heap.size w w1) := bvia hb0 hb1
  have HX1 : Aside (SRow w1 w.heap.size x a) := HX0.out.below hb1
  have HQ : Aside (P.SailE x q) := hq
  clear d0 d1 d2 d3 d4 d5 d6 d7 d8 d9 d10 d11 d12 HX0 hb0 hb1 hq hz0
  cases hz : (q != 0)
  rotate_left
  · have HN : Aside (¬ q = 0) := by show ¬ _; simpa using hz
    go_wp2
    go_ret2
    exact ⟨q, .slice none 0 0, rfl, HQ.out, by rw [P.ok, if_neg HN.out]; exact OwnC.nil _ _, HB1.out⟩
  obtain rfl : q = 0 := by simpa using hz
  clear hz
  obtain ⟨d0, d1, d2, d3, d4, d5, d6, d7, d8, d9, d10, d11, d12⟩ := SRow.box HX1.out
  go_wp2_with fail
  refine (plan_any x a _ (HS.out.below HB1.out) (sail_ok HQ.out).2.2.2.2.1).mono ?_
  rintro e w2 ⟨v, rfl, own2, hb2⟩
  have HO2 : Aside (OwnG w2 w1.heap.size v (P.planL x.bks)) := own2
  have HB2 : Aside (Below w.heap.size w w2) := bvia HB1.out hb2
  clear own2 hb2 d0 d1 d2 d3 d4 d5 d6 d7 d8 d9 d10 d11 d12
  go_wp2
  go_ret2
  exact ⟨0, v, rfl, HQ.out, by rw [P.ok, if_pos rfl]; exact OwnC.ahead HO2.out (by omega), HB2.out⟩

end Go.Proofs.YtlamhfbdeinkkaeGreat.St
