/- The reference: CheckSailing, as far as the frame. -/
import Derived.Test.YtlamhfbdeinkkaeGreatOpenFt
namespace Go.Proofs.YtlamhfbdeinkkaeGreat.St
open Go.RowKit Bk
set_option linter.unusedSimpArgs false
set_option linter.unusedVariables false
set_option maxRecDepth 10000

def P.fareS (x : Sail) : Int := Fo.P.fareE x.L x.al x.th x.B x.dn x.s.cs.length x.s.legs
/-- H1, ahead of any booking. -/
def P.frame (x : Sail) : Int :=
  if P.shp x.s = 0 then (if P.fareS x = 0 then (if (P.btw x.day 0 9999 && P.btw x.lvs 0 9999) = true then (if 16 < x.bks.length then 2 else 0) else 3) else P.fareS x) else P.shp x.s
/-- H1, booking by booking. -/
def P.bksI (s : Vsl) : Int → List Bkg → Int
  | _, [] => 0
  | p, b :: t => if P.bkE s b = 0 then (if b.id ≤ p then 4 else P.bksI s b.id t) else P.bkE s b
/-- Is a live promise otherwise than the sailing is closed, or is not? -/
def P.clB (x : Sail) (b : Bkg) : Bool := decide (b.kind = 2) && P.live b && (if x.cl = true then decide (b.cabin < 0) else decide (0 ≤ b.cabin))
/-- H1, ahead of what the bookings are together. -/
def P.pre (x : Sail) : Int := if P.frame x = 0 then (if P.bksI x.s 0 x.bks = 0 then (if x.bks.any (P.clB x) = true then 4 else 0) else P.bksI x.s 0 x.bks) else P.frame x
theorem pre_frame {x : Sail} (h : ¬ P.frame x = 0) : P.pre x = P.frame x := by rw [P.pre, if_neg h]
theorem frame_shp {x : Sail} (h : ¬ P.shp x.s = 0) : P.frame x = P.shp x.s := by rw [P.frame, if_neg h]
theorem frame_fare {x : Sail} (h : P.shp x.s = 0) (h1 : ¬ P.fareS x = 0) : P.frame x = P.fareS x := by rw [P.frame, if_pos h, if_neg h1]
theorem frame_day {x : Sail} (h : P.shp x.s = 0) (h1 : P.fareS x = 0) (h2 : (P.btw x.day 0 9999 && P.btw x.lvs 0 9999) = false) : P.frame x = 3 := by rw [P.frame, if_pos h, if_pos h1, if_neg (by simp [h2])]
theorem frame_many {x : Sail} (h : P.shp x.s = 0) (h1 : P.fareS x = 0) (h2 : (P.btw x.day 0 9999 && P.btw x.lvs 0 9999) = true) (h3 : 16 < x.bks.length) : P.frame x = 2 := by rw [P.frame, if_pos h, if_pos h1, if_pos h2, if_pos h3]
theorem frame_ok {x : Sail} (h : P.shp x.s = 0) (h1 : P.fareS x = 0) (h2 : (P.btw x.day 0 9999 && P.btw x.lvs 0 9999) = true) (h3 : ¬ 16 < x.bks.length) : P.frame x = 0 := by rw [P.frame, if_pos h, if_pos h1, if_pos h2, if_neg h3]
theorem fareS_any (x : Sail) (a : SailA) (w : World) (hs : SailAt w x a) :
    Calls Tryz.prog 73 #[.agg #[.slice a.lo x.L.length a.lc, .int .i64 x.al, .int .i64 x.th, .slice a.bo x.B.length a.bc, .int .i64 x.dn], .int .i64 x.s.cs.length, .int .i64 x.s.legs] w fun e w' => e = .returned (.int .i64 (P.fareS x)) ∧ Below w.heap.size w w' := Fo.checkFares_any a.lo a.bo a.lc a.bc x.L x.al x.th x.B x.dn _ _ w hs.fare

set_option maxHeartbeats 4000000 in
theorem refSail_frame (x : Sail) (a : SailA) (w : World) (hs : SailAt w x a) (hf : ¬ P.frame x = 0) :
    Calls Tryz.prog 22 #[V.sail x a] w fun e w' => e = .returned (.int .i64 (P.frame x)) ∧ Below w.heap.size w w' := by
  have hle := hs.bks.le
  have hmx := hs.bks.max
  unfold maxLen at hmx
  have hsx := SBox.new w x a
  have hsb := sail_below w x a
  cases hz : (P.shp x.s == 0)
  · have hz' : ¬ P.shp x.s = 0 := by simpa using hz
    have HE : Aside (P.frame x = P.shp x.s) := frame_shp hz'
    clear hz' hf
    go_enter Tryz.func22, Tryz.ntmps22
    go_wp2_with fail
    refine (refShp_any x.s a.v _ (hs.below hsb).ship).mono ?_
    rintro e w1 ⟨rfl, hb1⟩
    have hB1 := bvia hsb hb1
    obtain ⟨d0, d1, d2, d3, d4, d5, d6, d7, d8, d9, d10, d11, d12⟩ := hsx.below hb1
    go_wp2
    go_loopg [3, 4] 1 (fun g ev iv wr => g = 1 ∧ ev = .int .i64 (P.shp x.s) ∧ iv = .int .i64 0 ∧ wr = w1)
    case atStart => exact ⟨rfl, rfl, rfl, rfl⟩
    case round =>
      obtain ⟨rfl, rfl, rfl, rfl⟩ := hrel
      by_cases hl0 : (0 : Int) < x.bks.length
      all_goals
        go_wp2
        go_ret
        exact ⟨ret_int HE.out.symm, hB1⟩
  have H0 : Aside (P.shp x.s = 0) := by show _ = _; simpa using hz
  clear hz
  cases hy : (P.fareS x == 0)
  · have HE : Aside (P.frame x = P.fareS x) := frame_fare H0.out (by simpa using hy)
    clear hf
    go_enter Tryz.func22, Tryz.ntmps22
    go_wp2_with fail
    refine (refShp_any x.s a.v _ (hs.below hsb).ship).mono ?_
    rintro e w1 ⟨rfl, hb1⟩
    have hB1 := bvia hsb hb1
    obtain ⟨d0, d1, d2, d3, d4, d5, d6, d7, d8, d9, d10, d11, d12⟩ := hsx.below hb1
    rw [H0.out]
    go_wp2_with fail
    refine (fareS_any x a _ (hs.below hB1)).mono ?_
    rintro e w2 ⟨rfl, hb2⟩
    have hB2 := bvia hB1 hb2
    clear d0 d1 d2 d3 d4 d5 d6 d7 d8 d9 d10 d11 d12
    obtain ⟨d0, d1, d2, d3, d4, d5, d6, d7, d8, d9, d10, d11, d12⟩ := (hsx.below hb1).below hb2
    go_wp2
    go_loopg [3, 4] 1 (fun g ev iv wr => g = 1 ∧ ev = .int .i64 (P.fareS x) ∧ iv = .int .i64 0 ∧ wr = w2)
    case atStart => exact ⟨rfl, rfl, rfl, rfl⟩
    case round =>
      obtain ⟨rfl, rfl, rfl, rfl⟩ := hrel
      by_cases hl0 : (0 : Int) < x.bks.length
      all_goals
        go_wp2
        go_ret
        exact ⟨ret_int HE.out.symm, hB2⟩
  have H1 : Aside (P.fareS x = 0) := by show _ = _; simpa using hy
  clear hy
  cases hd : P.btw x.day 0 9999
  · have HE : Aside (P.frame x = 3) := frame_day H0.out H1.out (by rw [hd]; rfl)
    clear hf
    go_enter Tryz.func22, Tryz.ntmps22
    go_wp2_with fail
    refine (refShp_any x.s a.v _ (hs.below hsb).ship).mono ?_
    rintro e w1 ⟨rfl, hb1⟩
    have hB1 := bvia hsb hb1
    obtain ⟨d0, d1, d2, d3, d4, d5, d6, d7, d8, d9, d10, d11, d12⟩ := hsx.below hb1
    rw [H0.out]
    go_wp2_with fail
    refine (fareS_any x a _ (hs.below hB1)).mono ?_
    rintro e w2 ⟨rfl, hb2⟩
    have hB2 := bvia hB1 hb2
    clear d0 d1 d2 d3 d4 d5 d6 d7 d8 d9 d10 d11 d12
    obtain ⟨d0, d1, d2, d3, d4, d5, d6, d7, d8, d9, d10, d11, d12⟩ := (hsx.below hb1).below hb2
    rw [H1.out]
    go_wp2_with (go_at_call 74; refine (between_any _ _ _ _).mono ?_; rintro e wb ⟨rfl, rfl⟩; rw [hd])
    go_wp2
    go_loopg [3, 4] 1 (fun g ev iv wr => g = 1 ∧ ev = .int .i64 3 ∧ iv = .int .i64 0 ∧ wr = w2)
    case atStart => exact ⟨rfl, rfl, rfl, rfl⟩
    case round =>
      obtain ⟨rfl, rfl, rfl, rfl⟩ := hrel
      by_cases hl0 : (0 : Int) < x.bks.length
      all_goals
        go_wp2
        go_ret
        exact ⟨ret_int HE.out.symm, hB2⟩
  cases hv : P.btw x.lvs 0 9999
  · have HE : Aside (P.frame x = 3) := frame_day H0.out H1.out (by rw [hd, hv]; rfl)
    clear hf
    go_enter Tryz.func22, Tryz.ntmps22
    go_wp2_with fail
    refine (refShp_any x.s a.v _ (hs.below hsb).ship).mono ?_
    rintro e w1 ⟨rfl, hb1⟩
    have hB1 := bvia hsb hb1
    obtain ⟨d0, d1, d2, d3, d4, d5, d6, d7, d8, d9, d10, d11, d12⟩ := hsx.below hb1
    rw [H0.out]
    go_wp2_with fail
    refine (fareS_any x a _ (hs.below hB1)).mono ?_
    rintro e w2 ⟨rfl, hb2⟩
    have hB2 := bvia hB1 hb2
    clear d0 d1 d2 d3 d4 d5 d6 d7 d8 d9 d10 d11 d12
    obtain ⟨d0, d1, d2, d3, d4, d5, d6, d7, d8, d9, d10, d11, d12⟩ := (hsx.below hb1).below hb2
    rw [H1.out]
    go_wp2_with (go_at_call 74; refine (between_any _ _ _ _).mono ?_; rintro e wb ⟨rfl, rfl⟩; first | rw [hd] | rw [hv])
    go_wp2
    go_loopg [3, 4] 1 (fun g ev iv wr => g = 1 ∧ ev = .int .i64 3 ∧ iv = .int .i64 0 ∧ wr = w2)
    case atStart => exact ⟨rfl, rfl, rfl, rfl⟩
    case round =>
      obtain ⟨rfl, rfl, rfl, rfl⟩ := hrel
      by_cases hl0 : (0 : Int) < x.bks.length
      all_goals
        go_wp2
        go_ret
        exact ⟨ret_int HE.out.symm, hB2⟩
  by_cases hm : 16 < x.bks.length
  · have HE : Aside (P.frame x = 2) := frame_many H0.out H1.out (by rw [hd, hv]; rfl) hm
    have hmi : (16 : Int) < x.bks.length := by omega
    clear hf
    go_enter Tryz.func22, Tryz.ntmps22
    go_wp2_with fail
    refine (refShp_any x.s a.v _ (hs.below hsb).ship).mono ?_
    rintro e w1 ⟨rfl, hb1⟩
    have hB1 := bvia hsb hb1
    obtain ⟨d0, d1, d2, d3, d4, d5, d6, d7, d8, d9, d10, d11, d12⟩ := hsx.below hb1
    rw [H0.out]
    go_wp2_with fail
    refine (fareS_any x a _ (hs.below hB1)).mono ?_
    rintro e w2 ⟨rfl, hb2⟩
    have hB2 := bvia hB1 hb2
    clear d0 d1 d2 d3 d4 d5 d6 d7 d8 d9 d10 d11 d12
    obtain ⟨d0, d1, d2, d3, d4, d5, d6, d7, d8, d9, d10, d11, d12⟩ := (hsx.below hb1).below hb2
    rw [H1.out]
    go_wp2_with (go_at_call 74; refine (between_any _ _ _ _).mono ?_; rintro e wb ⟨rfl, rfl⟩; first | rw [hd] | rw [hv])
    go_wp2
    go_loopg [3, 4] 1 (fun g ev iv wr => g = 1 ∧ ev = .int .i64 2 ∧ iv = .int .i64 0 ∧ wr = w2)
    case atStart => exact ⟨rfl, rfl, rfl, rfl⟩
    case round =>
      obtain ⟨rfl, rfl, rfl, rfl⟩ := hrel
      have hl0 : (0 : Int) < x.bks.length := by omega
      all_goals
        go_wp2
        go_ret
        exact ⟨ret_int HE.out.symm, hB2⟩
  · exact absurd (frame_ok H0.out H1.out (by rw [hd, hv]; rfl) hm) hf

end Go.Proofs.YtlamhfbdeinkkaeGreat.St
namespace Go.Proofs.YtlamhfbdeinkkaeGreat.St
open Go.RowKit Bk
set_option linter.unusedSimpArgs false
set_option linter.unusedVariables false
set_option maxRecDepth 10000

set_option maxHeartbeats 400000 in
theorem stLive_any (b : Bkg) (fo : Option Addr) (fc : Nat) (w : World) :
    Calls Tryz.prog 172 #[V.bk b fo fc] w fun e w' => e = .returned (.bool (P.live b)) ∧ Below w.heap.size w w' := by
  go_enter Tryz.func172, Tryz.ntmps172
  go_wp2
  go_ret
  exact ⟨ret_bool (by by_cases h : b.state = 3 <;> simp [P.live, h]), by go_grown⟩
def P.hc (b : Bkg) : Bool := decide (b.cabin ≠ -1)
set_option maxHeartbeats 400000 in
theorem hasCabin_any (b : Bkg) (fo : Option Addr) (fc : Nat) (w : World) :
    Calls Tryz.prog 109 #[V.bk b fo fc] w fun e w' => e = .returned (.bool (P.hc b)) ∧ Below w.heap.size w w' := by
  go_enter Tryz.func109, Tryz.ntmps109
  go_wp2
  go_ret
  exact ⟨ret_bool (by by_cases h : b.cabin = -1 <;> simp [P.hc, h]), by go_grown⟩
abbrev W.bk (w : World) (b : Bkg) (fo : Option Addr) (fc : Nat) : World := w.alloc (.cells #[.int .i64 b.id, .int .i64 b.kind, .int .i64 b.state, .int .i64 b.guests, .bool b.level, .int .i64 b.cabin, .int .i64 b.cat, .int .i64 b.frm, .int .i64 b.to, .int .i64 b.til, .slice fo b.fol.length fc] 37)
theorem bk_below (w : World) (b : Bkg) (fo : Option Addr) (fc : Nat) : Below w.heap.size w (W.bk w b fo fc) := by go_grown
def P.lp (b : Bkg) : Bool := P.live b && decide (b.kind = 2)
set_option maxHeartbeats 1000000 in
theorem livePromise_any (b : Bkg) (fo : Option Addr) (fc : Nat) (w : World) :
    Calls Tryz.prog 108 #[V.bk b fo fc] w fun e w' => e = .returned (.bool (P.lp b)) ∧ Below w.heap.size w w' := by
  have hbt := bk_below w b fo fc
  have hbx := BBox.new w b fo fc
  cases hlv : P.live b
  · go_enter Tryz.func108, Tryz.ntmps108
    go_wp2_with (go_at_call 172; refine (stLive_any b fo fc _).mono ?_; rintro e w1 ⟨rfl, hb1⟩; rw [hlv])
    go_ret
    exact ⟨ret_bool (by simp [P.lp, hlv]), bvia hbt hb1⟩
  · go_enter Tryz.func108, Tryz.ntmps108
    go_wp2_with (go_at_call 172; refine (stLive_any b fo fc _).mono ?_; rintro e w1 ⟨rfl, hb1⟩; rw [hlv]; have z1 := (hbx.below hb1).c1)
    go_ret
    exact ⟨ret_bool (by by_cases h : b.kind = 2 <;> simp [P.lp, hlv, h]), bvia hbt hb1⟩
set_option maxHeartbeats 400000 in
theorem isDay_any (n : Int) (w : World) :
    Calls Tryz.prog 106 #[.int .i64 n] w fun e w' => e = .returned (.bool (P.btw n 0 9999)) ∧ w = w' := by
  by_cases h1 : 0 ≤ n <;> by_cases h2 : n ≤ 9999
  all_goals
    go_enter Tryz.func106, Tryz.ntmps106
    go_wp2
    go_ret
    simp [P.btw, h1, h2]

theorem fareC_any (x : Sail) (a : SailA) (w : World) (hs : SailAt w x a) :
    Calls Tryz.prog 105 #[.agg #[.slice a.lo x.L.length a.lc, .int .i64 x.al, .int .i64 x.th, .slice a.bo x.B.length a.bc, .int .i64 x.dn], .int .i64 x.s.cs.length, .int .i64 x.s.legs] w fun e w' => e = .returned (.int .i64 (P.fareS x)) ∧ Below w.heap.size w w' := Fo.fareCheck_any a.lo a.bo a.lc a.bc x.L x.al x.th x.B x.dn _ _ w hs.fare

set_option maxHeartbeats 4000000 in
theorem checkFrame_any (x : Sail) (a : SailA) (w : World) (hs : SailAt w x a) :
    Calls Tryz.prog 50 #[V.sail x a] w fun e w' => e = .returned (.int .i64 (P.frame x)) ∧ Below w.heap.size w w' := by
  have hle := hs.bks.le
  have hmx := hs.bks.max
  unfold maxLen at hmx
  have hsx := SBox.new w x a
  have hsb := sail_below w x a
  cases hz : (P.shp x.s != 0)
  rotate_left
  · have HE : Aside (P.frame x = P.shp x.s) := frame_shp (by simpa using hz)
    go_enter Tryz.func50, Tryz.ntmps50
    go_wp2_with fail
    refine (shp_any x.s a.v _ (hs.below hsb).ship).mono ?_
    rintro e w1 ⟨rfl, hb1⟩
    go_wp2
    go_ret
    exact ⟨ret_int HE.out.symm, bvia hsb hb1⟩
  have H0 : Aside (P.shp x.s = 0) := by show _ = _; simpa using hz
  clear hz
  cases hy : (P.fareS x != 0)
  rotate_left
  · have HE : Aside (P.frame x = P.fareS x) := frame_fare H0.out (by simpa using hy)
    go_enter Tryz.func50, Tryz.ntmps50
    go_wp2_with fail
    refine (shp_any x.s a.v _ (hs.below hsb).ship).mono ?_
    rintro e w1 ⟨rfl, hb1⟩
    have hB1 := bvia hsb hb1
    obtain ⟨d0, d1, d2, d3, d4, d5, d6, d7, d8, d9, d10, d11, d12⟩ := hsx.below hb1
    rw [H0.out]
    go_wp2_with fail
    refine (fareC_any x a _ (hs.below hB1)).mono ?_
    rintro e w2 ⟨rfl, hb2⟩
    go_wp2
    go_ret
    exact ⟨ret_int HE.out.symm, bvia hB1 hb2⟩
  have H1 : Aside (P.fareS x = 0) := by show _ = _; simpa using hy
  clear hy
  cases hd : P.btw x.day 0 9999
  · have HE : Aside (P.frame x = 3) := frame_day H0.out H1.out (by rw [hd]; rfl)
    go_enter Tryz.func50, Tryz.ntmps50
    go_wp2_with fail
    refine (shp_any x.s a.v _ (hs.below hsb).ship).mono ?_
    rintro e w1 ⟨rfl, hb1⟩
    have hB1 := bvia hsb hb1
    obtain ⟨d0, d1, d2, d3, d4, d5, d6, d7, d8, d9, d10, d11, d12⟩ := hsx.below hb1
    rw [H0.out]
    go_wp2_with fail
    refine (fareC_any x a _ (hs.below hB1)).mono ?_
    rintro e w2 ⟨rfl, hb2⟩
    have hB2 := bvia hB1 hb2
    clear d0 d1 d2 d3 d4 d5 d6 d7 d8 d9 d10 d11 d12
    obtain ⟨d0, d1, d2, d3, d4, d5, d6, d7, d8, d9, d10, d11, d12⟩ := (hsx.below hb1).below hb2
    rw [H1.out]
    go_wp2_with (go_at_call 106; refine (isDay_any _ _).mono ?_; rintro e wb ⟨rfl, rfl⟩; rw [hd])
    go_ret
    exact ⟨ret_int HE.out.symm, hB2⟩
  cases hv : P.btw x.lvs 0 9999
  · have HE : Aside (P.frame x = 3) := frame_day H0.out H1.out (by rw [hd, hv]; rfl)
    go_enter Tryz.func50, Tryz.ntmps50
    go_wp2_with fail
    refine (shp_any x.s a.v _ (hs.below hsb).ship).mono ?_
    rintro e w1 ⟨rfl, hb1⟩
    have hB1 := bvia hsb hb1
    obtain ⟨d0, d1, d2, d3, d4, d5, d6, d7, d8, d9, d10, d11, d12⟩ := hsx.below hb1
    rw [H0.out]
    go_wp2_with fail
    refine (fareC_any x a _ (hs.below hB1)).mono ?_
    rintro e w2 ⟨rfl, hb2⟩
    have hB2 := bvia hB1 hb2
    clear d0 d1 d2 d3 d4 d5 d6 d7 d8 d9 d10 d11 d12
    obtain ⟨d0, d1, d2, d3, d4, d5, d6, d7, d8, d9, d10, d11, d12⟩ := (hsx.below hb1).below hb2
    rw [H1.out]
    go_wp2_with (go_at_call 106; refine (isDay_any _ _).mono ?_; rintro e wb ⟨rfl, rfl⟩; first | rw [hd] | rw [hv])
    go_ret
    exact ⟨ret_int HE.out.symm, hB2⟩
  · by_cases hm : 16 < x.bks.length
    · have HE : Aside (P.frame x = 2) := frame_many H0.out H1.out (by rw [hd, hv]; rfl) hm
      have hmi : (16 : Int) < x.bks.length := by omega
      go_enter Tryz.func50, Tryz.ntmps50
      go_wp2_with fail
      refine (shp_any x.s a.v _ (hs.below hsb).ship).mono ?_
      rintro e w1 ⟨rfl, hb1⟩
      have hB1 := bvia hsb hb1
      obtain ⟨d0, d1, d2, d3, d4, d5, d6, d7, d8, d9, d10, d11, d12⟩ := hsx.below hb1
      rw [H0.out]
      go_wp2_with fail
      refine (fareC_any x a _ (hs.below hB1)).mono ?_
      rintro e w2 ⟨rfl, hb2⟩
      have hB2 := bvia hB1 hb2
      clear d0 d1 d2 d3 d4 d5 d6 d7 d8 d9 d10 d11 d12
      obtain ⟨d0, d1, d2, d3, d4, d5, d6, d7, d8, d9, d10, d11, d12⟩ := (hsx.below hb1).below hb2
      rw [H1.out]
      go_wp2_with (go_at_call 106; refine (isDay_any _ _).mono ?_; rintro e wb ⟨rfl, rfl⟩; first | rw [hd] | rw [hv])
      go_ret
      exact ⟨ret_int HE.out.symm, hB2⟩
    · have HE : Aside (P.frame x = 0) := frame_ok H0.out H1.out (by rw [hd, hv]; rfl) hm
      have hmi : ¬ (16 : Int) < x.bks.length := by omega
      go_enter Tryz.func50, Tryz.ntmps50
      go_wp2_with fail
      refine (shp_any x.s a.v _ (hs.below hsb).ship).mono ?_
      rintro e w1 ⟨rfl, hb1⟩
      have hB1 := bvia hsb hb1
      obtain ⟨d0, d1, d2, d3, d4, d5, d6, d7, d8, d9, d10, d11, d12⟩ := hsx.below hb1
      rw [H0.out]
      go_wp2_with fail
      refine (fareC_any x a _ (hs.below hB1)).mono ?_
      rintro e w2 ⟨rfl, hb2⟩
      have hB2 := bvia hB1 hb2
      clear d0 d1 d2 d3 d4 d5 d6 d7 d8 d9 d10 d11 d12
      obtain ⟨d0, d1, d2, d3, d4, d5, d6, d7, d8, d9, d10, d11, d12⟩ := (hsx.below hb1).below hb2
      rw [H1.out]
      go_wp2_with (go_at_call 106; refine (isDay_any _ _).mono ?_; rintro e wb ⟨rfl, rfl⟩; first | rw [hd] | rw [hv])
      go_ret
      exact ⟨ret_int HE.out.symm, hB2⟩

end Go.Proofs.YtlamhfbdeinkkaeGreat.St
