/- Package stock: IndexFunc, ContainsFunc over bookings; checkClosed. -/
import Derived.Test.YtlamhfbdeinkkaeGreatStIr
import Derived.Test.YtlamhfbdeinkkaeGreatBoCr
namespace Go.Proofs.YtlamhfbdeinkkaeGreat.St
open Go.RowKit Bk
set_option linter.unusedSimpArgs false
set_option linter.unusedVariables false
set_option maxRecDepth 10000

theorem bany_hit {l : List Bkg} {p : Bkg → Bool} {k : Nat} {x : Bkg} (hD : l.drop k = x :: l.drop (k + 1)) (h : p x = true) : l.any p = true := by
  rw [List.any_eq_true]
  exact ⟨x, mem_of_drop hD, h⟩
theorem bany_on {l : List Bkg} {p : Bkg → Bool} {k : Nat} {x : Bkg} (hP : (l.drop k).any p = l.any p) (hD : l.drop k = x :: l.drop (k + 1)) (h : p x = false) : (l.drop (k + 1)).any p = l.any p := by
  rw [hD, List.any_cons, h, Bool.false_or] at hP
  exact hP
theorem bany_none {l : List Bkg} {p : Bkg → Bool} (hP : (l.drop l.length).any p = l.any p) : l.any p = false := by
  rw [List.drop_of_length_le (Nat.le_refl _)] at hP
  simpa using hP.symm

set_option maxHeartbeats 1000000 in
/-- 'IndexFunc', with whatever function literal that answers p: it is below 0 just if there is none. -/
theorem bkIndex_any (ao : Option Addr) (cap : Nat) (l : List Bkg) (F : Nat) (cs : Array Value) (p : Bkg → Bool) (w : World) (hl : BksAt w ao cap l)
    (hcf : ∀ (args : Array Value) (wx : World), (callFunc F args).run Tryz.prog wx = .ok (.enter F args) wx)
    (hp : Hid (∀ (x : Bkg) (fo : Option Addr) (fc : Nat) (wx : World), Below w.heap.size w wx → Calls Tryz.prog F (#[V.bk x fo fc] ++ cs) wx fun e w' => e = .returned (.bool (p x)) ∧ Below wx.heap.size wx w')) :
    Calls Tryz.prog 115 #[.slice ao l.length cap, .func (.func F) #[] cs] w fun e w' => ∃ n : Int, e = .returned (.int .i64 n) ∧ decide (0 ≤ n) = l.any p ∧ Below w.heap.size w w' := by
  have hle := hl.le
  have hmx := hl.max
  unfold maxLen at hmx
  go_enter Tryz.func115, Tryz.ntmps115
  go_wp2
  go_loopg [8] l.length (fun g i wr => ∃ (k : Nat), k ≤ l.length ∧ g = l.length - k ∧ i = .int .i64 k ∧ (l.drop k).any p = l.any p ∧ Below w.heap.size w wr)
  case atStart => exact ⟨0, Nat.zero_le _, rfl, rfl, rfl, Below.refl _ _⟩
  case round =>
    obtain ⟨k, hk, rfl, rfl, hP, hB⟩ := hrel
    have HP : Aside ((l.drop k).any p = l.any p) := hP
    clear hP
    by_cases hlt : k < l.length
    · obtain ⟨b, off, x, fo, fc, rfl, hbw, hd, hy, hfy⟩ := BksAt.get hl hB k hlt
      have HD : Aside (l.drop k = x :: l.drop (k + 1)) := hd
      obtain ⟨y0, y1, y2, y3, y4, y5, y6, y7, y8, y9, y10⟩ := hy
      clear hd hfy
      cases hpf : p x
      · go_wp2_with fail
        refine (hp.out x fo fc _ hB).mono ?_
        rintro e w1 ⟨rfl, hb1⟩
        rw [hpf]
        go_wp2
        go_roundg (l.length - (k + 1))
        case measure => omega
        case rel => exact ⟨k + 1, by omega, rfl, by go_num, bany_on HP.out HD.out hpf, bvia hB hb1⟩
      · go_wp2_with fail
        refine (hp.out x fo fc _ hB).mono ?_
        rintro e w1 ⟨rfl, hb1⟩
        rw [hpf]
        go_wp2
        go_ret
        exact ⟨_, rfl, by rw [bany_hit HD.out hpf, decide_eq_true_iff]; omega, bvia hB hb1⟩
    · obtain rfl : k = l.length := by omega
      go_wp2
      go_ret
      exact ⟨_, rfl, by rw [bany_none HP.out]; rfl, hB⟩

set_option maxHeartbeats 1000000 in
theorem bkContains_any (ao : Option Addr) (cap : Nat) (l : List Bkg) (F : Nat) (cs : Array Value) (p : Bkg → Bool) (w : World) (hl : BksAt w ao cap l)
    (hcf : ∀ (args : Array Value) (wx : World), (callFunc F args).run Tryz.prog wx = .ok (.enter F args) wx)
    (hp : Hid (∀ (x : Bkg) (fo : Option Addr) (fc : Nat) (wx : World), Below w.heap.size w wx → Calls Tryz.prog F (#[V.bk x fo fc] ++ cs) wx fun e w' => e = .returned (.bool (p x)) ∧ Below wx.heap.size wx w')) :
    Calls Tryz.prog 98 #[.slice ao l.length cap, .func (.func F) #[] cs] w fun e w' => e = .returned (.bool (l.any p)) ∧ Below w.heap.size w w' := by
  go_enter Tryz.func98, Tryz.ntmps98
  go_wp2_with fail
  refine (bkIndex_any ao cap l F cs p w hl hcf hp).mono ?_
  rintro e w1 ⟨n, rfl, hn, hb1⟩
  have HN : Aside (decide (0 ≤ n) = l.any p) := hn
  clear hn
  go_wp2
  go_ret
  exact ⟨ret_bool (by rw [← HN.out]), hb1⟩

/-- Is a live promise otherwise than the sailing is closed, or is not? As the program asks. -/
def P.clP (x : Sail) (b : Bkg) : Bool := P.lp b && (P.hc b != x.cl)
theorem clP_clB {x : Sail} {b : Bkg} (h : P.bkE x.s b = 0) : P.clP x b = P.clB x b := by
  obtain ⟨_, _, _, _, _, hk, _⟩ := bk_ok h
  rw [P.clP, P.clB, P.lp]
  cases hlv : P.live b
  · simp
  · by_cases h2 : b.kind = 2
    · have hc := (kind_prom hk h2).2.2.2.2
      rw [h2]
      have hcc : b.cabin = -1 ∨ 0 ≤ b.cabin := by
        rcases hc with h | ⟨h, _⟩
        · exact .inl h
        · right; simp [P.cabB, P.btw] at h; omega
      cases hcl : x.cl <;> rcases hcc with h1 | h1
      · simp [P.hc, h1]
      · have : ¬ b.cabin = -1 := by omega
        simp [P.hc, h1, this]
      · simp [P.hc, h1]
      · have h3 : ¬ b.cabin = -1 := by omega
        have h4 : ¬ b.cabin < 0 := by omega
        simp [P.hc, h1, h3, h4]
    · simp [h2]
theorem clP_any {x : Sail} (h : ∀ b ∈ x.bks, P.bkE x.s b = 0) : x.bks.any (P.clP x) = x.bks.any (P.clB x) := by
  rw [Bool.eq_iff_iff, List.any_eq_true, List.any_eq_true]
  exact ⟨fun ⟨b, hb, e⟩ => ⟨b, hb, by rw [← clP_clB (h b hb)]; exact e⟩, fun ⟨b, hb, e⟩ => ⟨b, hb, by rw [clP_clB (h b hb)]; exact e⟩⟩

theorem lp_is (b : Bkg) (fo : Option Addr) (fc : Nat) (w : World) (v : Bool) (h : P.lp b = v) :
    Calls Tryz.prog 108 #[V.bk b fo fc] w fun e w' => e = .returned (.bool v) ∧ Below w.heap.size w w' := h ▸ livePromise_any b fo fc w
set_option maxHeartbeats 2000000 in
theorem checkClosed1_any (x : Sail) (a : SailA) (g : Nat) (b : Bkg) (fo : Option Addr) (fc : Nat) (w : World) (hx : SBox w g x a) :
    Calls Tryz.prog 107 (#[V.bk b fo fc] ++ #[.pointer (some ⟨g, 0, none⟩)]) w fun e w' => e = .returned (.bool (P.clP x b)) ∧ Below w.heap.size w w' := by
  show Calls Tryz.prog 107 #[V.bk b fo fc, .pointer (some ⟨g, 0, none⟩)] w _
  have hbt := bk_below w b fo fc
  obtain ⟨x0, x1, x2, x3, x4, x5, x6, x7, x8, x9, x10⟩ := BBox.new w b fo fc
  have d12 := cellIn hbt hx.c12
  have r0 := cell_regrown x0
  have r1 := cell_regrown x1
  have r2 := cell_regrown x2
  have r3 := cell_regrown x3
  have r4 := cell_regrown x4
  have r5 := cell_regrown x5
  have r6 := cell_regrown x6
  have r7 := cell_regrown x7
  have r8 := cell_regrown x8
  have r9 := cell_regrown x9
  have r10 := cell_regrown x10
  have t12 := cell_regrown d12
  clear x0 x1 x2 x3 x4 x5 x6 x7 x8 x9 x10 d12
  cases hlp : P.lp b
  · have HE : Aside (P.clP x b = false) := by show _ = _; simp [P.clP, hlp]
    go_enter Tryz.func107, Tryz.ntmps107
    go_wp2
    refine wp_region_quiet_below (by kernel_rfl) (by kernel_rfl) (Qt.out ?_)
    repeat (refine Qt.step (fun K hK => ?_); go_simp; first | (refine hK _ ?_; clear hK K) | (apply Exists.intro; refine ⟨fun _ => ?_, hK _ ?_⟩; (go_at_call 108; exact Calls.regrown_of (v := .bool false) (lp_is b fo fc _ false hlp)); clear hK K))
    refine Qt.fin ?_
    intro w2 hw2
    obtain ⟨⟨dq, osq⟩, hw2⟩ := hw2
    have hb2 := below_regrown (W.bk w b fo fc) dq osq
    rw [← hw2] at hb2
    clear hw2
    go_wp2
    go_ret
    exact ⟨ret_bool HE.out.symm, bvia hbt hb2⟩
  · have HE : Aside (P.clP x b = (P.hc b != x.cl)) := by show _ = _; simp [P.clP, hlp]
    go_enter Tryz.func107, Tryz.ntmps107
    go_wp2
    refine wp_region_quiet_below (by kernel_rfl) (by kernel_rfl) (Qt.out ?_)
    repeat (refine Qt.step (fun K hK => ?_); go_simp; first | (refine hK _ ?_; clear hK K) | (apply Exists.intro; refine ⟨fun _ => ?_, hK _ ?_⟩; (first | (go_at_call 108; exact Calls.regrown_of (v := .bool true) (lp_is b fo fc _ true hlp)) | (go_at_call 109; exact Calls.regrown_of (v := .bool (P.hc b)) (hasCabin_any b fo fc _))); clear hK K))
    refine Qt.fin ?_
    intro w2 hw2
    obtain ⟨⟨dq, osq⟩, hw2⟩ := hw2
    have hb2 := below_regrown (W.bk w b fo fc) dq osq
    rw [← hw2] at hb2
    clear hw2
    go_wp2
    go_ret
    exact ⟨ret_bool (by rw [HE.out]; try rfl), bvia hbt hb2⟩

set_option maxHeartbeats 1000000 in
theorem checkClosed_any (x : Sail) (a : SailA) (w : World) (hs : SailAt w x a) :
    Calls Tryz.prog 52 #[V.sail x a] w fun e w' => e = .returned (.int .i64 (if x.bks.any (P.clP x) = true then 4 else 0)) ∧ Below w.heap.size w w' := by
  have hsx := SBox.new w x a
  have hsb := sail_below w x a
  have HC : Aside (Calls Tryz.prog 98 #[.slice a.ao x.bks.length a.cap, .func (.func 107) #[] #[.pointer (some ⟨w.heap.size, 0, none⟩)]] (W.sail w x a) fun e w' => e = .returned (.bool (x.bks.any (P.clP x))) ∧ Below (W.sail w x a).heap.size (W.sail w x a) w') :=
    bkContains_any a.ao a.cap x.bks 107 #[.pointer (some ⟨w.heap.size, 0, none⟩)] (P.clP x) (W.sail w x a) (SlAt.below RBk.mono hs.bks hsb) (enters_of Tryz.func107 (by kernel_rfl) rfl)
      (fun b fo fc wx hw => checkClosed1_any x a w.heap.size b fo fc wx (hsx.below hw))
  cases hcl : x.bks.any (P.clP x)
  · go_enter Tryz.func52, Tryz.ntmps52
    go_wp2_with fail
    refine HC.out.mono ?_
    rintro e w1 ⟨rfl, hb1⟩
    rw [hcl]
    go_wp2
    go_ret
    exact ⟨rfl, bvia hsb hb1⟩
  · go_enter Tryz.func52, Tryz.ntmps52
    go_wp2_with fail
    refine HC.out.mono ?_
    rintro e w1 ⟨rfl, hb1⟩
    rw [hcl]
    go_wp2
    go_ret
    exact ⟨rfl, bvia hsb hb1⟩

end Go.Proofs.YtlamhfbdeinkkaeGreat.St
