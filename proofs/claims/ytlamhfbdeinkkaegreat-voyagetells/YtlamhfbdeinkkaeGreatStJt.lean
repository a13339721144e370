/- Package stock: IndexFunc, ContainsFunc over bookings; checkClosed. -/
import Derived.Test.YtlamhfbdeinkkaeGreatStFt
import Derived.Test.YtlamhfbdeinkkaeGreatBoCt
import Derived.Test.YtlamhfbdeinkkaeGreatStDt
namespace Go.Proofs.YtlamhfbdeinkkaeGreat.St
open Go.RowKit Bk
set_option linter.unusedSimpArgs false
set_option linter.unusedVariables false
set_option maxRecDepth 10000

theorem bany_hit {l : List Bkg} {p : Bkg → Bool} {k : Nat} {x : Bkg} (hD : l.drop k = x :: l.drop (k + 1)) (h : p x = true) : l.any p = true := by
  rw [List.any_eq_true]
  exact ⟨x, mem_of_drop hD, h⟩
theorem bany_on {l : List Bkg} {p : Bkg → Bool} {k : Nat} {x : Bkg} (hP : (l.drop k).any p = l.any p) (hD : l.drop k = x :: l.drop (k + 1)) (h : p x = false) : (l.drop (k + 1)).any p = l.any p := by
  rw [hD, List.any_cons, h, Bool.false_or] at hP
  exact hP
theorem bany_none {l : List Bkg} {p : Bkg → Bool} (hP : (l.drop l.length).any p = l.any p) : l.any p = false := by
  rw [List.drop_of_length_le (Nat.le_refl _)] at hP
  simpa using hP.symm

set_option maxHeartbeats 1000000 in
/-- 'IndexFunc', with whatever function literal that answers p: it is below 0 just if there is none. -/
theorem bkIndex_any (ao : Option Addr) (cap : Nat) (l : List Bkg) (F : Nat) (cs : Array Value) (p : Bkg → Bool) (w : World) (hl : BksAt w ao cap l)
    (hcf : ∀ (args : Array Value) (wx : World), (callFunc F args).run Tryz.prog wx = .ok (.enter F args) wx)
    (hp : Hid (∀ (x : Bkg) (fo : Option Addr) (fc : Nat) (wx : World), Below w.heap.size w wx → Calls Tryz.prog F (#[V.bk x fo fc] ++ cs) wx fun e w' => e = .returned (.bool (p x)) ∧ Below wx.heap.size wx w')) :
    Calls Tryz.prog 115 #[.slice ao l.length cap, .func (.func F) #[] cs] w fun e w' => ∃ n : Int, e = .returned (.int .i64 n) ∧ decide (0 ≤ n) = l.any p ∧ Below w.heap.size w w' := by
  have hle := hl.le
  have hmx := hl.max
  unfold maxLen at hmx
  go_enter Tryz.func115, Tryz.ntmps115
  go_wp2
  go_loopg [8] l.length (fun g i wr => ∃ (k : Nat), k ≤ l.length ∧ g = l.length - k ∧ i = .int .i64 k ∧ (l.drop k).any p = l.any p ∧ Below w.heap.size w wr)
  case atStart => exact ⟨0, Nat.zero_le _, rfl, rfl, rfl, Below.refl _ _⟩
  case round =>
    obtain ⟨k, hk, rfl, rfl, hP, hB⟩ := hrel
    have HP : Aside ((l.drop k).any p = l.any p) := hP
    clear hP
    by_cases hlt : k < l.length
    · obtain ⟨b, off, x, fo, fc, rfl, hbw, hd, hy, hfy⟩ := BksAt.get hl hB k hlt
      have HD : Aside (l.drop k = x :: l.drop (k + 1)) := hd
      obtain ⟨y0, y1, y2, y3, y4, y5, y6, y7, y8, y9, y10⟩ := hy
      clear hd hfy
      cases hpf : p x
      · go_wp2_with fail
        refine (hp.out x fo fc _ hB).mono ?_
        rintro e w1 ⟨rfl, hb1⟩
        rw [hpf]
        go_wp2
        go_roundg (l.length - (k + 1))
        case measure => omega
        case rel => exact ⟨k + 1, by omega, rfl, by go_num, bany_on HP.out HD.out hpf, bvia hB hb1⟩
      · go_wp2_with fail
        refine (hp.out x fo fc _ hB).mono ?_
        rintro e w1 ⟨rfl, hb1⟩
        rw [hpf]
        go_wp2
        go_ret
        exact ⟨_, rfl, by rw [bany_hit HD.out hpf, decide_eq_true_iff]; omega, bvia hB hb1⟩
    · obtain rfl : k = l.length := by omega
      go_wp2
      go_ret
      exact ⟨_, rfl, by rw [bany_none HP.out]; rfl, hB⟩

set_option maxHeartbeats 1000000 in
theorem bkContains_any (ao : Option Addr) (cap : Nat) (l : List Bkg) (F : Nat) (cs : Array Value) (p : Bkg → Bool) (w : World) (hl : BksAt w ao cap l)
    (hcf : ∀ (args : Array Value) (wx : World), (callFunc F args).run Tryz.prog wx = .ok (.enter F args) wx)
    (hp : Hid (∀ (x : Bkg) (fo : Option Addr) (fc : Nat) (wx : World), Below w.heap.size w wx → Calls Tryz.prog F (#[V.bk x fo fc] ++ cs) wx fun e w' => e = .returned (.bool (p x)) ∧ Below wx.heap.size wx w')) :
    Calls Tryz.prog 98 #[.slice ao l.length cap, .func (.func F) #[] cs] w fun e w' => e = .returned (.bool (l.any p)) ∧ Below w.heap.size w w' := by
  go_enter Tryz.func98, Tryz.ntmps98
  go_wp2_with fail
  refine (bkIndex_any ao cap l F cs p w hl hcf hp).mono ?_
  rintro e w1 ⟨n, rfl, hn, hb1⟩
  have HN : Aside (decide (0 ≤ n) = l.any p) := hn
  clear hn
  go_wp2
  go_ret
  exact ⟨ret_bool (by rw [← HN.out]), hb1⟩

/-- Is a live promise otherwise than the sailing is closed, or is not? As the program asks. -/
def P.clP (x : Sail) (b : Bkg) : Bool := P.lp b && (P.hc b != x.cl)
theorem clP_clB {x : Sail} {b : Bkg} (h : P.bkE x.s b = 0) : P.clP x b = P.clB x b := by
  obtain ⟨_, _, _, _, _, hk, _⟩ := bk_ok h
  rw [P.clP, P.clB, P.lp]
  cases hlv : P.live b
  · simp
  · by_cases h2 : b.kind = 2
    · have hc := (kind_prom hk h2).2.2.2.2
      rw [h2]
      have hcc : b.cabin = -1 ∨ 0 ≤ b.cabin := by
        rcases hc with h | ⟨h, _⟩
        · exact .inl h
        · right; simp [P.cabB, P.btw] at h; omega
      cases hcl : x.cl <;> rcases hcc with h1 | h1
      · simp [P.hc, h1]
      · have : ¬ b.cabin = -1 := by omega
        simp [P.hc, h1, this]
      · simp [P.hc, h1]
      · have h3 : ¬ b.cabin = -1 := by omega
        have h4 : ¬ b.cabin < 0 := by omega
        simp [P.hc, h1, h3, h4]
    · simp [h2]
theorem clP_any {x : Sail} (h : ∀ b ∈ x.bks, P.bkE x.s b = 0) : x.bks.any (P.clP x) = x.bks.any (P.clB x) := by
  rw [Bool.eq_iff_iff, List.any_eq_true, List.any_eq_true]
  exact ⟨fun ⟨b, hb, e⟩ => ⟨b, hb, by rw [← clP_clB (h b hb)]; exact e⟩, fun ⟨b, hb, e⟩ => ⟨b, hb, by rw [clP_clB (h b hb)]; exact e⟩⟩

theorem lp_is (b : Bkg) (fo : Option Addr) (fc : Nat) (w : World) (v : Bool) (h : P.lp b = v) :
    Calls Tryz.prog 108 #[V.bk b fo fc] w fun e w' => e = .returned (.bool v) ∧ Below w.heap.size w w' := h ▸ livePromise_any b fo fc w
set_option maxHeartbeats 2000000 in
theorem checkClosed1_any (x : Sail) (a : SailA) (g : Nat) (b : Bkg) (fo : Option Addr) (fc : Nat) (w : World) (hx : SBox w g x a) :
    Calls Tryz.prog 107 (#[V.bk b fo fc] ++ #[.pointer (some ⟨g, 0, none⟩)]) w fun e w' => e = .returned (.bool (P.clP x b)) ∧ Below w.heap.size w w' := by
  show Calls Tryz.prog 107 #[V.bk b fo fc, .pointer (some ⟨g, 0, none⟩)] w _
  have hbt := bk_below w b fo fc
  obtain ⟨x0, x1, x2, x3, x4, x5, x6, x7, x8, x9, x10⟩ := BBox.new w b fo fc
  have d12 := cellIn hbt hx.c12
  have r0 := cell_regrown x0
  have r1 := cell_regrown x1
  have r2 := cell_regrown x2
  have r3 := cell_regrown x3
  have r4 := cell_regrown x4
  have r5 := cell_regrown x5
  have r6 := cell_regrown x6
  have r7 := cell_regrown x7
  have r8 := cell_regrown x8
  have r9 := cell_regrown x9
  have r10 := cell_regrown x10
  have t12 := cell_regrown d12
  clear x0 x1 x2 x3 x4 x5 x6 x7 x8 x9 x10 d12
  cases hlp : P.lp b
  · have HE : Aside (P.clP x b = false) := by show _ = _; simp [P.clP, hlp]
    go_enter Tryz.func107, Tryz.ntmps107
    go_wp2
    refine wp_region_quiet_below (by kernel_rfl) (by kernel_rfl) (Qt.out ?_)
    repeat (refine Qt.step (fun K hK => ?_); go_simp; first | (refine hK _ ?_; clear hK K) | (apply Exists.intro; refine ⟨fun _ => ?_, hK _ ?_⟩; (go_at_call 108; exact Calls.regrown_of (v := .bool false) (lp_is b fo fc _ false hlp)); clear hK K))
    refine Qt.fin ?_
    intro w2 hw2
    obtain ⟨⟨dq, osq⟩, hw2⟩ := hw2
    have hb2 := below_regrown (W.bk w b fo fc) dq osq
    rw [← hw2] at hb2
    clear hw2
    go_wp2
    go_ret
    exact ⟨ret_bool HE.out.symm, bvia hbt hb2⟩
  · have HE : Aside (P.clP x b = (P.hc b != x.cl)) := by show _ = _; simp [P.clP, hlp]
    go_enter Tryz.func107, Tryz.ntmps107
    go_wp2
    refine wp_region_quiet_below (by kernel_rfl) (by kernel_rfl) (Qt.out ?_)
    repeat (refine Qt.step (fun K hK => ?_); go_simp; first | (refine hK _ ?_; clear hK K) | (apply Exists.intro; refine ⟨fun _ => ?_, hK _ ?_⟩; (first | (go_at_call 108; exact Calls.regrown_of (v := .bool true) (lp_is b fo fc _ true hlp)) | (go_at_call 109; exact Calls.regrown_of (v := .bool (P.hc b)) (hasCabin_any b fo fc _))); clear hK K))
    refine Qt.fin ?_
    intro w2 hw2
    obtain ⟨⟨dq, osq⟩, hw2⟩ := hw2
    have hb2 := below_regrown (W.bk w b fo fc) dq osq
    rw [← hw2] at hb2
    clear hw2
    go_wp2
    go_ret
    exact ⟨ret_bool (by rw [HE.out]; try rfl), bvia hbt hb2⟩

set_option maxHeartbeats 1000000 in
theorem checkClosed_any (x : Sail) (a : SailA) (w : World) (hs : SailAt w x a) :
    Calls Tryz.prog 52 #[V.sail x a] w fun e w' => e = .returned (.int .i64 (if x.bks.any (P.clP x) = true then 4 else 0)) ∧ Below w.heap.size w w' := by
  have hsx := SBox.new w x a
  have hsb := sail_below w x a
  have HC : Aside (Calls Tryz.prog 98 #[.slice a.ao x.bks.length a.cap, .func (.func 107) #[] #[.pointer (some ⟨w.heap.size, 0, none⟩)]] (W.sail w x a) fun e w' => e = .returned (.bool (x.bks.any (P.clP x))) ∧ Below (W.sail w x a).heap.size (W.sail w x a) w') :=
    bkContains_any a.ao a.cap x.bks 107 #[.pointer (some ⟨w.heap.size, 0, none⟩)] (P.clP x) (W.sail w x a) (SlAt.below RBk.mono hs.bks hsb) (enters_of Tryz.func107 (by kernel_rfl) rfl)
      (fun b fo fc wx hw => checkClosed1_any x a w.heap.size b fo fc wx (hsx.below hw))
  cases hcl : x.bks.any (P.clP x)
  · go_enter Tryz.func52, Tryz.ntmps52
    go_wp2_with fail
    refine HC.out.mono ?_
    rintro e w1 ⟨rfl, hb1⟩
    rw [hcl]
    go_wp2
    go_ret
    exact ⟨rfl, bvia hsb hb1⟩
  · go_enter Tryz.func52, Tryz.ntmps52
    go_wp2_with fail
    refine HC.out.mono ?_
    rintro e w1 ⟨rfl, hb1⟩
    rw [hcl]
    go_wp2
    go_ret
    exact ⟨rfl, bvia hsb hb1⟩

end Go.Proofs.YtlamhfbdeinkkaeGreat.St
namespace Go.Proofs.YtlamhfbdeinkkaeGreat.St
open Go.RowKit Bk
set_option linter.unusedSimpArgs false
set_option linter.unusedVariables false
set_option maxRecDepth 10000

theorem refSail_any (x : Sail) (a : SailA) (w : World) (hs : SailAt w x a) :
    Calls Tryz.prog 22 #[V.sail x a] w fun e w' => ∃ r, e = .returned (.int .i64 r) ∧ P.SailE x r ∧ Below w.heap.size w w' := by
  by_cases h : P.frame x = 0
  · exact refSail_ok x a w hs h
  · refine (refSail_frame x a w hs h).mono ?_
    rintro e w' ⟨rfl, hb⟩
    exact ⟨_, rfl, .inl (by rw [pre_frame h]; exact ⟨h, rfl⟩), hb⟩

end Go.Proofs.YtlamhfbdeinkkaeGreat.St
namespace Go.Proofs.YtlamhfbdeinkkaeGreat.St
open Go.RowKit Bk
set_option linter.unusedSimpArgs false
set_option linter.unusedVariables false
set_option maxRecDepth 10000

theorem bksE_zero {s : Vsl} {l : List Bkg} (h : ∀ b ∈ l, P.bkE s b = 0) : P.bksE s l = 0 := by
  induction l with
  | nil => rfl
  | cons b t ih => rw [P.bksE, if_pos (h b (by simp)), ih (fun y hy => h y (by simp [hy]))]

theorem bkC_any (x : Sail) (a : SailA) (b : Bkg) (fo : Option Addr) (fc : Nat) (w : World) (hs : VslAt w x.s a.v) (hf : Fo.EntsAt w fo fc b.fol) (h0 : P.shp x.s = 0) :
    Calls Tryz.prog 71 #[V.vsl x.s a.v, V.bk b fo fc] w fun e w' => e = .returned (.int .i64 (P.bkE x.s b)) ∧ Below w.heap.size w w' := by
  have := bookCheck_any x.s a.v b fo fc w hs hf
  rwa [P.checkE, if_pos h0] at this

set_option maxHeartbeats 2000000 in
theorem checkBookings_any (x : Sail) (a : SailA) (w : World) (hs : SailAt w x a) (h0 : P.shp x.s = 0) :
    Calls Tryz.prog 51 #[V.sail x a] w fun e w' => e = .returned (.int .i64 (P.bksI x.s 0 x.bks)) ∧ Below w.heap.size w w' := by
  have hle := hs.bks.le
  have hmx := hs.bks.max
  unfold maxLen at hmx
  have H0 : Aside (P.shp x.s = 0) := h0
  have hsx := SBox.new w x a
  have hsb := sail_below w x a
  clear h0
  go_enter Tryz.func51, Tryz.ntmps51
  go_wp2
  go_loopg [3, 10] x.bks.length (fun g av iv wr => ∃ (k : Nat) (p : Int), k ≤ x.bks.length ∧ g = x.bks.length - k ∧ iv = .int .i64 k ∧ av = .int .i64 p ∧ Aside (P.bksI x.s p (x.bks.drop k) = P.bksI x.s 0 x.bks) ∧ SBox wr w.heap.size x a ∧ Below w.heap.size w wr)
  case atStart => exact ⟨0, 0, Nat.zero_le _, rfl, rfl, rfl, rfl, hsx, hsb⟩
  case round =>
    clear hsx hsb
    obtain ⟨k, p, hk, rfl, rfl, rfl, HP, hbx, hB⟩ := hrel
    by_cases hlt : k < x.bks.length
    · obtain ⟨b, off, y, fo, fc, hao, hbw, hd2, hy, hfy⟩ := BksAt.get hs.bks hB k hlt
      have HP2 : Aside (P.bksI x.s p (y :: x.bks.drop (k + 1)) = P.bksI x.s 0 x.bks) := by
        have h : P.bksI x.s p (x.bks.drop k) = P.bksI x.s 0 x.bks := HP
        rw [hd2] at h
        exact h
      have HAO : Aside (a.ao = some ⟨b, off, none⟩) := hao
      rw [hao]
      have HBX : Aside (SBox wr w.heap.size x a) := hbx
      obtain ⟨d0, d1, d2, d3, d4, d5, d6, d7, d8, d9, d10, d11, d12⟩ := hbx
      obtain ⟨y0, y1, y2, y3, y4, y5, y6, y7, y8, y9, y10⟩ := hy
      have hbl : b < wr.heap.size := World.block_lt_of_cell? wr _ y0
      have hwl : w.heap.size < wr.heap.size := HBX.out.lt
      have hkl : (k : Int) < x.bks.length := by omega
      have hba := bk_below wr y fo fc
      clear hd2 hao HP
      go_wp2_with fail
      refine (bkC_any x a y fo fc _ (hs.below (bvia hB hba)).ship (SlAt.below Fo.REnt.mono hfy hba) H0.out).mono ?_
      rintro e w1 ⟨rfl, hb1⟩
      have hB1 : Below wr.heap.size wr w1 := bvia hba hb1
      have z0 := ((BBox.new wr y fo fc).below hb1).c0
      clear d0 d1 d2 d3 d4 d5 d6 d7 d8 d9 d10 d11 d12 y0 y1 y2 y3 y4 y5 y6 y7 y8 y9 y10 hba hfy
      cases he : (P.bkE x.s y != 0)
      rotate_left
      · have HE : Aside (P.bkE x.s y = P.bksI x.s 0 x.bks) := by show _ = _; rw [← HP2.out, bksI_bad (by simpa using he)]
        go_wp2
        go_ret
        exact ⟨ret_int HE.out, bvia hB hB1⟩
      have HEZ : Aside (P.bkE x.s y = 0) := by show _ = _; simpa using he
      rw [HEZ.out]
      clear he
      by_cases hyp : y.id ≤ p
      · have HE : Aside (4 = P.bksI x.s 0 x.bks) := by show _ = _; rw [← HP2.out, bksI_low HEZ.out hyp]
        go_wp2
        go_ret
        exact ⟨ret_int HE.out, bvia hB hB1⟩
      · have HE : Aside (P.bksI x.s y.id (x.bks.drop (k + 1)) = P.bksI x.s 0 x.bks) := by show _ = _; rw [← HP2.out, bksI_on HEZ.out hyp]
        rw [← HAO.out]
        go_wp2
        go_roundg (x.bks.length - (k + 1))
        case measure => omega
        case rel => exact ⟨k + 1, y.id, by omega, rfl, by go_num, rfl, HE, HBX.out.below hB1, bvia hB hB1⟩
    · obtain rfl : k = x.bks.length := by omega
      have HZ : Aside (0 = P.bksI x.s 0 x.bks) := by
        have h : P.bksI x.s p (x.bks.drop x.bks.length) = P.bksI x.s 0 x.bks := HP
        rw [List.drop_of_length_le (Nat.le_refl _), P.bksI] at h
        exact h
      clear HP hbx
      go_wp2
      go_ret
      exact ⟨ret_int HZ.out, hB⟩

set_option maxHeartbeats 400000 in
theorem checkRoom1_any (x : Sail) (a : SailA) (g : Nat) (n : Int) (w : World) (hx : SBox w g x a) :
    Calls Tryz.prog 112 (#[.int .i64 n] ++ #[.pointer (some ⟨g, 0, none⟩)]) w fun e w' => e = .returned (.bool (decide (x.s.souls < n))) ∧ Below w.heap.size w w' := by
  show Calls Tryz.prog 112 #[.int .i64 n, .pointer (some ⟨g, 0, none⟩)] w _
  have d1 := hx.c1
  go_enter Tryz.func112, Tryz.ntmps112
  go_wp2
  go_ret
  exact ⟨rfl, Below.refl _ _⟩

/-- H1 of the bookings, together, ahead of the promises: as the program tells it. -/
def P.roomE (x : Sail) : Int := if P.twice x = true then 6 else if P.many x = true then 2 else 0
theorem adds_B {x : Sail} {c : Int} (hsl : P.sails x.s.legs = true) (h : ∀ b ∈ x.bks, P.bkE x.s b = 0) : P.addsE x.s.legs [] (P.mine c x.bks) = if P.addsB x.s.legs (P.mine c x.bks) = true then 0 else 6 := by
  have h1 : P.addsE x.s.legs [] (P.mine c x.bks) = 0 ∨ P.addsE x.s.legs [] (P.mine c x.bks) = 6 := adds_06 (nil_cal hsl) (fun z hz => by
    obtain ⟨b, hb, rfl⟩ := List.mem_map.1 hz
    exact (bk_ok (h b (List.mem_filter.1 hb).1)).1)
  rw [P.addsB]
  rcases h1 with h1 | h1 <;> rw [h1] <;> rfl
theorem mst_any {n : Int} {l : List Int} (h0 : 0 ≤ n) : l.any (fun y => decide (n < y)) = decide (n < P.mst 0 l) := by
  rw [Bool.eq_iff_iff, List.any_eq_true, decide_eq_true_iff]
  have := mst_le (n := n) (m := 0) (l := l)
  constructor
  · rintro ⟨y, hy, hn⟩
    rw [decide_eq_true_iff] at hn
    apply Classical.byContradiction
    intro hc
    have := (this.1 (by omega)).2 y hy
    omega
  · intro hlt
    apply Classical.byContradiction
    intro hc
    have : P.mst 0 l ≤ n := this.2 ⟨h0, fun y hy => by
      apply Classical.byContradiction
      intro h
      exact hc ⟨y, hy, by rw [decide_eq_true_iff]; omega⟩⟩
    omega
/-- More than 60 on a leg are more than Souls. -/
theorem over_many {x : Sail} (h : x.s.souls ≤ 60) (h1 : 1 ≤ x.s.souls) (ho : P.over (P.soulsL x.s.legs.toNat x.bks) = true) : P.many x = true := by
  rw [P.many, ← mst_any (by omega), List.any_eq_true]
  obtain ⟨y, hy, e⟩ := List.any_eq_true.1 ho
  rw [decide_eq_true_iff] at e
  exact ⟨y, hy, by rw [decide_eq_true_iff]; omega⟩

set_option maxHeartbeats 4000000 in
theorem checkRoom_any (x : Sail) (a : SailA) (w : World) (hs : SailAt w x a) (h0 : P.shp x.s = 0) (hbk : ∀ b ∈ x.bks, P.bkE x.s b = 0) (h16 : x.bks.length ≤ 16) :
    Calls Tryz.prog 53 #[V.sail x a] w fun e w' => e = .returned (.int .i64 (P.roomE x)) ∧ Below w.heap.size w w' := by
  have hle := hs.bks.le
  have hmx := hs.bks.max
  unfold maxLen at hmx
  obtain ⟨hl1, hl7, hs1, hs60, _, _, _, hbs⟩ := shp_size h0
  have HSL : Aside (P.sails x.s.legs = true) := by show _ = _; simp [P.sails]; omega
  have HBK : Aside (∀ b ∈ x.bks, P.bkE x.s b = 0) := hbk
  have HAL : Aside (P.allE x.s x.bks = 0) := by show _ = _; rw [P.allE, if_pos h0]; exact bksE_zero hbk
  have HSP : Aside (∀ c : Nat, c < x.s.bs.length → P.spE x.s x.bks c = if P.addsB x.s.legs (P.mine (c : Nat) x.bks) = true then 0 else 6) := fun c hc => by
    show _ = _
    rw [P.spE, if_pos HAL.out, if_pos (cabB_in (by omega) (by omega)), adds_B HSL.out hbk]
  have hcap := hs.ship.cabs.le
  have hcmx := hs.ship.cabs.max
  unfold maxLen at hcmx
  have hsx := SBox.new w x a
  have hsb := sail_below w x a
  have HSO : Aside (P.soE x.s x.bks = if P.over (P.soulsL x.s.legs.toNat x.bks) = true then 2 else 0) := by show _ = _; rw [P.soE, if_pos HAL.out]
  have HS1 : Aside (1 ≤ x.s.souls ∧ x.s.souls ≤ 60) := ⟨hs1, hs60⟩
  clear hbk h0 hl1 hl7 hs1 hs60
  go_enter Tryz.func53, Tryz.ntmps53
  go_wp2
  go_loopg [12] x.s.bs.length (fun g i wr => ∃ (c : Nat), c ≤ x.s.bs.length ∧ g = x.s.bs.length - c ∧ i = .int .i64 c ∧ Aside (∀ d, d < c → P.addsB x.s.legs (P.mine (d : Nat) x.bks) = true) ∧ SBox wr w.heap.size x a ∧ Below w.heap.size w wr)
  case atStart => exact ⟨0, Nat.zero_le _, rfl, rfl, (fun d h => by omega), hsx, hsb⟩
  case round =>
    clear hsx hsb
    obtain ⟨c, hc, rfl, rfl, HA, hbx, hB⟩ := hrel
    have HBX : Aside (SBox wr w.heap.size x a) := hbx
    obtain ⟨d0, d1, d2, d3, d4, d5, d6, d7, d8, d9, d10, d11, d12⟩ := hbx
    by_cases hlt : c < x.s.bs.length
    · go_wp2_with fail
      refine (spans_any x.s a.v a.ao a.cap x.bks c _ (hs.below hB).ship (SlAt.below RBk.mono hs.bks hB)).mono ?_
      rintro e w2 ⟨v2, rfl, own2, hb2⟩
      obtain ⟨a2, n2, c2, hv2⟩ : ∃ a2 n2 c2, v2 = .slice a2 n2 c2 := by obtain ⟨a2, c2, hv, -⟩ := Sp.Own.at own2; exact ⟨_, _, _, hv⟩
      rw [hv2, HSP.out c hlt]
      have hB2 := bvia hB hb2
      have HX2 : Aside (SBox w2 w.heap.size x a) := HBX.out.below hb2
      clear own2 hv2 hB hb2 HBX d0 d1 d2 d3 d4 d5 d6 d7 d8 d9 d10 d11 d12
      cases had : P.addsB x.s.legs (P.mine c x.bks)
      · have HT : Aside (6 = P.roomE x) := by show _ = _; rw [P.roomE, if_pos (twice_hit hlt had)]
        rw [if_neg (by simp)]
        go_wp2
        go_ret
        exact ⟨ret_int HT.out, hB2⟩
      · rw [if_pos rfl]
        go_wp2
        go_roundg (x.s.bs.length - (c + 1))
        case measure => omega
        case rel => exact ⟨c + 1, by omega, rfl, by go_num, (fun d hd => by
          by_cases e : d = c
          · subst e; exact had
          · exact HA.out d (by omega)), HX2.out, hB2⟩
    · obtain rfl : c = x.s.bs.length := by omega
      have HT : Aside (P.twice x = false) := twice_none HA.out
      go_wp2_with fail
      refine (souls_any x.s a.v a.ao a.cap x.bks _ (hs.below hB).ship (SlAt.below RBk.mono hs.bks hB) (by omega)).mono ?_
      rintro e w2 ⟨v2, rfl, own2, hb2⟩
      have hB2 := bvia hB hb2
      have HX2 : Aside (SBox w2 w.heap.size x a) := HBX.out.below hb2
      obtain ⟨ao2, cap2, rfl, a2⟩ := Ma.OwnI.at own2
      clear d0 d1 d2 d3 d4 d5 d6 d7 d8 d9 d10 d11 d12 own2 HBX
      cases ho : P.over (P.soulsL x.s.legs.toNat x.bks)
      rotate_left
      · have HE : Aside (2 = P.roomE x) := by show _ = _; rw [P.roomE, if_neg (by simp [HT.out]), if_pos (over_many HS1.out.2 HS1.out.1 ho)]
        have HS2 : Aside (P.soE x.s x.bks = 2) := by show _ = _; rw [HSO.out, if_pos ho]
        rw [HS2.out]
        generalize (P.soL x.s x.bks).length = nn
        clear a2
        go_wp2
        go_ret
        exact ⟨ret_int HE.out, hB2⟩
      · have HS2 : Aside (P.soE x.s x.bks = 0) := by show _ = _; rw [HSO.out, if_neg (by simp [ho])]
        have HL2 : Aside (P.soL x.s x.bks = P.soulsL x.s.legs.toNat x.bks) := by show _ = _; rw [P.soL, if_pos HS2.out]
        have HM : Aside ((P.soulsL x.s.legs.toNat x.bks).any (fun n => decide (x.s.souls < n)) = P.many x) := by show _ = _; rw [P.many, mst_any (by have := HS1.out; omega)]
        rw [HS2.out]
        rw [HL2.out] at a2 ⊢
        generalize P.soulsL x.s.legs.toNat x.bks = SL at a2 HM ⊢
        have HC : Aside (Calls Tryz.prog 111 #[.slice ao2 SL.length cap2, .func (.func 112) #[] #[.pointer (some ⟨w.heap.size, 0, none⟩)]] w2 fun e w' => e = .returned (.bool (P.many x)) ∧ Below w2.heap.size w2 w') := by
          have := Ma.containsFunc_any ao2 cap2 SL 112 #[.pointer (some ⟨w.heap.size, 0, none⟩)] (fun n => decide (x.s.souls < n)) w2 a2 (enters_of Tryz.func112 (by kernel_rfl) rfl) (fun n wx _ hw => checkRoom1_any x a w.heap.size n wx (HX2.out.below hw))
          rw [HM.out] at this
          exact this
        clear a2
        cases hm : P.many x
        · have HE : Aside (0 = P.roomE x) := by show _ = _; rw [P.roomE, if_neg (by simp [HT.out]), if_neg (by simp [hm])]
          go_wp2_with fail
          refine HC.out.mono ?_
          rintro e w3 ⟨rfl, hb3⟩
          rw [hm]
          go_wp2
          go_ret
          exact ⟨ret_int HE.out, bvia hB2 hb3⟩
        · have HE : Aside (2 = P.roomE x) := by show _ = _; rw [P.roomE, if_neg (by simp [HT.out]), if_pos hm]
          go_wp2_with fail
          refine HC.out.mono ?_
          rintro e w3 ⟨rfl, hb3⟩
          rw [hm]
          go_wp2
          go_ret
          exact ⟨ret_int HE.out, bvia hB2 hb3⟩

end Go.Proofs.YtlamhfbdeinkkaeGreat.St
