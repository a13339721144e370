/- Package stock: checkBookings, checkRoom. -/
import Derived.Test.YtlamhfbdeinkkaeGreatStJo
import Derived.Test.YtlamhfbdeinkkaeGreatStGo
import Derived.Test.YtlamhfbdeinkkaeGreatBaCo
namespace Go.Proofs.YtlamhfbdeinkkaeGreat.St
open Go.RowKit Bk
set_option linter.unusedSimpArgs false
set_option linter.unusedVariables false
set_option maxRecDepth 10000

theorem bksE_zero {s : Vsl} {l : List Bkg} (h : ∀ b ∈ l, P.bkE s b = 0) : P.bksE s l = 0 := by
  induction l with
  | nil => rfl
  | cons b t ih => rw [P.bksE, if_pos (h b (by simp)), ih (fun y hy => h y (by simp [hy]))]

theorem bkC_any (x : Sail) (a : SailA) (b : Bkg) (fo : Option Addr) (fc : Nat) (w : World) (hs : VslAt w x.s a.v) (hf : Fo.EntsAt w fo fc b.fol) (h0 : P.shp x.s = 0) :
    Calls Tryz.prog 71 #[V.vsl x.s a.v, V.bk b fo fc] w fun e w' => e = .returned (.int .i64 (P.bkE x.s b)) ∧ Below w.heap.size w w' := by
  have := bookCheck_any x.s a.v b fo fc w hs hf
  rwa [P.checkE, if_pos h0] at this

set_option maxHeartbeats 2000000 in
theorem checkBookings_any (x : Sail) (a : SailA) (w : World) (hs : SailAt w x a) (h0 : P.shp x.s = 0) :
    Calls Tryz.prog 51 #[V.sail x a] w fun e w' => e = .returned (.int .i64 (P.bksI x.s 0 x.bks)) ∧ Below w.heap.size w w' := by
  have hle := hs.bks.le
  have hmx := hs.bks.max
  unfold maxLen at hmx
  have H0 : Aside (P.shp x.s = 0) := h0
  have hsx := SBox.new w x a
  have hsb := sail_below w x a
  clear h0
  go_enter Tryz.func51, Tryz.ntmps51
  go_wp2
  go_loopg [3, 10] x.bks.length (fun g av iv wr => ∃ (k : Nat) (p : Int), k ≤ x.bks.length ∧ g = x.bks.length - k ∧ iv = .int .i64 k ∧ av = .int .i64 p ∧ Aside (P.bksI x.s p (x.bks.drop k) = P.bksI x.s 0 x.bks) ∧ SBox wr w.heap.size x a ∧ Below w.heap.size w wr)
  case atStart => exact ⟨0, 0, Nat.zero_le _, rfl, rfl, rfl, rfl, hsx, hsb⟩
  case round =>
    clear hsx hsb
    obtain ⟨k, p, hk, rfl, rfl, rfl, HP, hbx, hB⟩ := hrel
    by_cases hlt : k < x.bks.length
    · obtain ⟨b, off, y, fo, fc, hao, hbw, hd2, hy, hfy⟩ := BksAt.get hs.bks hB k hlt
      have HP2 : Aside (P.bksI x.s p (y :: x.bks.drop (k + 1)) = P.bksI x.s 0 x.bks) := by
        have h : P.bksI x.s p (x.bks.drop k) = P.bksI x.s 0 x.bks := HP
        rw [hd2] at h
        exact h
      have HAO : Aside (a.ao = some ⟨b, off, none⟩) := hao
      rw [hao]
      have HBX : Aside (SBox wr w.heap.size x a) := hbx
      obtain ⟨d0, d1, d2, d3, d4, d5, d6, d7, d8, d9, d10, d11, d12⟩ := hbx
      obtain ⟨y0, y1, y2, y3, y4, y5, y6, y7, y8, y9, y10⟩ := hy
      have hbl : b < wr.heap.size := World.block_lt_of_cell? wr _ y0
      have hwl : w.heap.size < wr.heap.size := HBX.out.lt
      have hkl : (k : Int) < x.bks.length := by omega
      have hba := bk_below wr y fo fc
      clear hd2 hao HP
      go_wp2_with fail
      refine (bkC_any x a y fo fc _ (hs.below (bvia hB hba)).ship (SlAt.below Fo.REnt.mono hfy hba) H0.out).mono ?_
      rintro e w1 ⟨rfl, hb1⟩
      have hB1 : Below wr.heap.size wr w1 := bvia hba hb1
      have z0 := ((BBox.new wr y fo fc).below hb1).c0
      clear d0 d1 d2 d3 d4 d5 d6 d7 d8 d9 d10 d11 d12 y0 y1 y2 y3 y4 y5 y6 y7 y8 y9 y10 hba hfy
      cases he : (P.bkE x.s y != 0)
      rotate_left
      · have HE : Aside (P.bkE x.s y = P.bksI x.s 0 x.bks) := by show _ = _; rw [← HP2.out, bksI_bad (by simpa using he)]
        go_wp2
        go_ret
        exact ⟨ret_int HE.out, bvia hB hB1⟩
      have HEZ : Aside (P.bkE x.s y = 0) := by show _ = _; simpa using he
      rw [HEZ.out]
      clear he
      by_cases hyp : y.id ≤ p
      · have HE : Aside (4 = P.bksI x.s 0 x.bks) := by show _ = _; rw [← HP2.out, bksI_low HEZ.out hyp]
        go_wp2
        go_ret
        exact ⟨ret_int HE.out, bvia hB hB1⟩
      · have HE : Aside (P.bksI x.s y.id (x.bks.drop (k + 1)) = P.bksI x.s 0 x.bks) := by show _ = _; rw [← HP2.out, bksI_on HEZ.out hyp]
        rw [← HAO.out]
        go_wp2
        go_roundg (x.bks.length - (k + 1))
        case measure => omega
        case rel => exact ⟨k + 1, y.id, by omega, rfl, by go_num, rfl, HE, HBX.out.below hB1, bvia hB hB1⟩
    · obtain rfl : k = x.bks.length := by omega
      have HZ : Aside (0 = P.bksI x.s 0 x.bks) := by
        have h : P.bksI x.s p (x.bks.drop x.bks.length) = P.bksI x.s 0 x.bks := HP
        rw [List.drop_of_length_le (Nat.le_refl _), P.bksI] at h
        exact h
      clear HP hbx
      go_wp2
      go_ret
      exact ⟨ret_int HZ.out, hB⟩

set_option maxHeartbeats 400000 in
theorem checkRoom1_any (x : Sail) (a : SailA) (g : Nat) (n : Int) (w : World) (hx : SBox w g x a) :
    Calls Tryz.prog 112 (#[.int .i64 n] ++ #[.pointer (some ⟨g, 0, none⟩)]) w fun e w' => e = .returned (.bool (decide (x.s.souls < n))) ∧ Below w.heap.size w w' := by
  show Calls Tryz.prog 112 #[.int .i64 n, .pointer (some ⟨g, 0, none⟩)] w _
  have d1 := hx.c1
  go_enter Tryz.func112, Tryz.ntmps112
  go_wp2
  go_ret
  exact ⟨rfl, Below.refl _ _⟩

/-- H1 of the bookings, together, ahead of the promises: as the program tells it. -/
def P.roomE (x : Sail) : Int := if P.twice x = true then 6 else if P.many x = true then 2 else 0
theorem adds_B {x : Sail} {c : Int} (hsl : P.sails x.s.legs = true) (h : ∀ b ∈ x.bks, P.bkE x.s b = 0) : P.addsE x.s.legs [] (P.mine c x.bks) = if P.addsB x.s.legs (P.mine c x.bks) = true then 0 else 6 := by
  have h1 : P.addsE x.s.legs [] (P.mine c x.bks) = 0 ∨ P.addsE x.s.legs [] (P.mine c x.bks) = 6 := adds_06 (nil_cal hsl) (fun z hz => by
    obtain ⟨b, hb, rfl⟩ := List.mem_map.1 hz
    exact (bk_ok (h b (List.mem_filter.1 hb).1)).1)
  rw [P.addsB]
  rcases h1 with h1 | h1 <;> rw [h1] <;> rfl
theorem mst_any {n : Int} {l : List Int} (h0 : 0 ≤ n) : l.any (fun y => decide (n < y)) = decide (n < P.mst 0 l) := by
  rw [Bool.eq_iff_iff, List.any_eq_true, decide_eq_true_iff]
  have := mst_le (n := n) (m := 0) (l := l)
  constructor
  · rintro ⟨y, hy, hn⟩
    rw [decide_eq_true_iff] at hn
    apply Classical.byContradiction
    intro hc
    have := (this.1 (by omega)).2 y hy
    omega
  · intro hlt
    apply Classical.byContradiction
    intro hc
    have : P.mst 0 l ≤ n := this.2 ⟨h0, fun y hy => by
      apply Classical.byContradiction
      intro h
      exact hc ⟨y, hy, by rw [decide_eq_true_iff]; omega⟩⟩
    omega
/-- More than 60 on a leg are more than Souls. -/
theorem over_many {x : Sail} (h : x.s.souls ≤ 60) (h1 : 1 ≤ x.s.souls) (ho : P.over (P.soulsL x.s.legs.toNat x.bks) = true) : P.many x = true := by
  rw [P.many, ← mst_any (by omega), List.any_eq_true]
  obtain ⟨y, hy, e⟩ := List.any_eq_true.1 ho
  rw [decide_eq_true_iff] at e
  exact ⟨y, hy, by rw [decide_eq_true_iff]; omega⟩

set_option maxHeartbeats 4000000 in
theorem checkRoom_any (x : Sail) (a : SailA) (w : World) (hs : SailAt w x a) (h0 : P.shp x.s = 0) (hbk : ∀ b ∈ x.bks, P.bkE x.s b = 0) (h16 : x.bks.length ≤ 16) :
    Calls Tryz.prog 53 #[V.sail x a] w fun e w' => e = .returned (.int .i64 (P.roomE x)) ∧ Below w.heap.size w w' := by
  have hle := hs.bks.le
  have hmx := hs.bks.max
  unfold maxLen at hmx
  obtain ⟨hl1, hl7, hs1, hs60, _, _, _, hbs⟩ := shp_size h0
  have HSL : Aside (P.sails x.s.legs = true) := by show _ = _; simp [P.sails]; omega
  have HBK : Aside (∀ b ∈ x.bks, P.bkE x.s b = 0) := hbk
  have HAL : Aside (P.allE x.s x.bks = 0) := by show _ = _; rw [P.allE, if_pos h0]; exact bksE_zero hbk
  have HSP : Aside (∀ c : Nat, c < x.s.bs.length → P.spE x.s x.bks c = if P.addsB x.s.legs (P.mine (c : Nat) x.bks) = true then 0 else 6) := fun c hc => by
    show _ = _
    rw [P.spE, if_pos HAL.out, if_pos (cabB_in (by omega) (by omega)), adds_B HSL.out hbk]
  have hcap := hs.ship.cabs.le
  have hcmx := hs.ship.cabs.max
  unfold maxLen at hcmx
  have hsx := SBox.new w x a
  have hsb := sail_below w x a
  have HSO : Aside (P.soE x.s x.bks = if P.over (P.soulsL x.s.legs.toNat x.bks) = true then 2 else 0) := by show _ = _; rw [P.soE, if_pos HAL.out]
  have HS1 : Aside (1 ≤ x.s.souls ∧ x.s.souls ≤ 60) := ⟨hs1, hs60⟩
  clear hbk h0 hl1 hl7 hs1 hs60
  go_enter Tryz.func53, Tryz.ntmps53
  go_wp2
  go_loopg [12] x.s.bs.length (fun g i wr => ∃ (c : Nat), c ≤ x.s.bs.length ∧ g = x.s.bs.length - c ∧ i = .int .i64 c ∧ Aside (∀ d, d < c → P.addsB x.s.legs (P.mine (d : Nat) x.bks) = true) ∧ SBox wr w.heap.size x a ∧ Below w.heap.size w wr)
  case atStart => exact ⟨0, Nat.zero_le _, rfl, rfl, (fun d h => by omega), hsx, hsb⟩
  case round =>
    clear hsx hsb
    obtain ⟨c, hc, rfl, rfl, HA, hbx, hB⟩ := hrel
    have HBX : Aside (SBox wr w.heap.size x a) := hbx
    obtain ⟨d0, d1, d2, d3, d4, d5, d6, d7, d8, d9, d10, d11, d12⟩ := hbx
    by_cases hlt : c < x.s.bs.length
    · go_wp2_with fail
      refine (spans_any x.s a.v a.ao a.cap x.bks c _ (hs.below hB).ship (SlAt.below RBk.mono hs.bks hB)).mono ?_
      rintro e w2 ⟨v2, rfl, own2, hb2⟩
      obtain ⟨a2, n2, c2, hv2⟩ : ∃ a2 n2 c2, v2 = .slice a2 n2 c2 := by obtain ⟨a2, c2, hv, -⟩ := Sp.Own.at own2; exact ⟨_, _, _, hv⟩
      rw [hv2, HSP.out c hlt]
      have hB2 := bvia hB hb2
      have HX2 : Aside (SBox w2 w.heap.size x a) := HBX.out.below hb2
      clear own2 hv2 hB hb2 HBX d0 d1 d2 d3 d4 d5 d6 d7 d8 d9 d10 d11 d12
      cases had : P.addsB x.s.legs (P.mine c x.bks)
      · have HT : Aside (6 = P.roomE x) := by show _ = _; rw [P.roomE, if_pos (twice_hit hlt had)]
        rw [if_neg (by simp)]
        go_wp2
        go_ret
        exact ⟨ret_int HT.out, hB2⟩
      · rw [if_pos rfl]
        go_wp2
        go_roundg (x.s.bs.length - (c + 1))
        case measure => omega
        case rel => exact ⟨c + 1, by omega, rfl, by go_num, (fun d hd => by
          by_cases e : d = c
          · subst e; exact had
          · exact HA.out d (by omega)), HX2.out, hB2⟩
    · obtain rfl : c = x.s.bs.length := by omega
      have HT : Aside (P.twice x = false) := twice_none HA.out
      go_wp2_with fail
      refine (souls_any x.s a.v a.ao a.cap x.bks _ (hs.below hB).ship (SlAt.below RBk.mono hs.bks hB) (by omega)).mono ?_
      rintro e w2 ⟨v2, rfl, own2, hb2⟩
      have hB2 := bvia hB hb2
      have HX2 : Aside (SBox w2 w.heap.size x a) := HBX.out.below hb2
      obtain ⟨ao2, cap2, rfl, a2⟩ := Ma.OwnI.at own2
      clear d0 d1 d2 d3 d4 d5 d6 d7 d8 d9 d10 d11 d12 own2 HBX
      cases ho : P.over (P.soulsL x.s.legs.toNat x.bks)
      rotate_left
      · have HE : Aside (2 = P.roomE x) := by show _ = _; rw [P.roomE, if_neg (by simp [HT.out]), if_pos (over_many HS1.out.2 HS1.out.1 ho)]
        have HS2 : Aside (P.soE x.s x.bks = 2) := by show _ = _; rw [HSO.out, if_pos ho]
        rw [HS2.out]
        generalize (P.soL x.s x.bks).length = nn
        clear a2
        go_wp2
        go_ret
        exact ⟨ret_int HE.out, hB2⟩
      · have HS2 : Aside (P.soE x.s x.bks = 0) := by show _ = _; rw [HSO.out, if_neg (by simp [ho])]
        have HL2 : Aside (P.soL x.s x.bks = P.soulsL x.s.legs.toNat x.bks) := by show _ = _; rw [P.soL, if_pos HS2.out]
        have HM : Aside ((P.soulsL x.s.legs.toNat x.bks).any (fun n => decide (x.s.souls < n)) = P.many x) := by show _ = _; rw [P.many, mst_any (by have := HS1.out; omega)]
        rw [HS2.out]
        rw [HL2.out] at a2 ⊢
        generalize P.soulsL x.s.legs.toNat x.bks = SL at a2 HM ⊢
        have HC : Aside (Calls Tryz.prog 111 #[.slice ao2 SL.length cap2, .func (.func 112) #[] #[.pointer (some ⟨w.heap.size, 0, none⟩)]] w2 fun e w' => e = .returned (.bool (P.many x)) ∧ Below w2.heap.size w2 w') := by
          have := Ma.containsFunc_any ao2 cap2 SL 112 #[.pointer (some ⟨w.heap.size, 0, none⟩)] (fun n => decide (x.s.souls < n)) w2 a2 (enters_of Tryz.func112 (by kernel_rfl) rfl) (fun n wx _ hw => checkRoom1_any x a w.heap.size n wx (HX2.out.below hw))
          rw [HM.out] at this
          exact this
        clear a2
        cases hm : P.many x
        · have HE : Aside (0 = P.roomE x) := by show _ = _; rw [P.roomE, if_neg (by simp [HT.out]), if_neg (by simp [hm])]
          go_wp2_with fail
          refine HC.out.mono ?_
          rintro e w3 ⟨rfl, hb3⟩
          rw [hm]
          go_wp2
          go_ret
          exact ⟨ret_int HE.out, bvia hB2 hb3⟩
        · have HE : Aside (2 = P.roomE x) := by show _ = _; rw [P.roomE, if_neg (by simp [HT.out]), if_pos hm]
          go_wp2_with fail
          refine HC.out.mono ?_
          rintro e w3 ⟨rfl, hb3⟩
          rw [hm]
          go_wp2
          go_ret
          exact ⟨ret_int HE.out, bvia hB2 hb3⟩

end Go.Proofs.YtlamhfbdeinkkaeGreat.St
namespace Go.Proofs.YtlamhfbdeinkkaeGreat.St
open Go.RowKit Bk
set_option linter.unusedSimpArgs false
set_option linter.unusedVariables false
set_option maxRecDepth 10000

theorem take_filter {α : Type} {l : List α} {x : α} {k : Nat} (p : α → Bool) (hk : k < l.length) (hd : l.drop k = x :: l.drop (k + 1)) : (l.take (k + 1)).filter p = (l.take k).filter p ++ (if p x = true then [x] else []) := by
  rw [take_snoc' hk hd, List.filter_append]
  congr 1
  cases h : p x <;> simp [List.filter_cons, h]

theorem wpList_app_bk {ops : Array Oper} {rest : List Oper} {o : Oper} {a : Act} {Q : Exit → Act → World → Prop} {W0 : World} (hgd : o.guard = none) (s x : Operand)
    (ho : o.op = .call { callee := .builtin .append, args := #[s, x], argTypes := #[30, 30] }) (base : Nat) (v : Value) (l : List BkV) (y : Bkg) (fo : Option Addr) (fc : Nat) (hs : a.eval s = v) (hown : OwnB W0 base v l)
    (H : Nat) (hH : W0.heap.size = H) (hx : a.eval x = .slice (some ⟨H, 0, none⟩) 1 1) (hb : base ≤ W0.heap.size) (hn : l.length ≤ 1000000)
    (h : ∀ v' w', OwnB w' base v' (l ++ [(y, fo, fc)]) → W0.grownBy w' v.ownBlock → wpList Tryz.prog ops Q rest (a.put o.dst v') w') : wpList Tryz.prog ops Q (o :: rest) a (W.bk W0 y fo fc) :=
  wpList_app_one Tryz.infoBk Tryz.underlying30 rfl (by decide) cellsV_len cellsV_one (by decide) hgd s x ho base v l (y, fo, fc) _ rfl hs hown H hH hx hb hn h

set_option maxHeartbeats 2000000 in
/-- 'those(l, counts)', with whatever function literal that answers p. -/
theorem those_own (ao : Option Addr) (cap : Nat) (lv : List BkV) (n : Nat) (hn : lv.length = n) (F : Nat) (cs : Array Value) (p : Bkg → Bool) (w : World) (hl : BkVsAt w ao cap lv) (h16 : n ≤ 1000)
    (hcf : ∀ (args : Array Value) (wx : World), (callFunc F args).run Tryz.prog wx = .ok (.enter F args) wx)
    (hp : Hid (∀ (x : Bkg) (fo : Option Addr) (fc : Nat) (wx : World), Below w.heap.size w wx → Calls Tryz.prog F (#[V.bk x fo fc] ++ cs) wx fun e w' => e = .returned (.bool (p x)) ∧ Below wx.heap.size wx w')) :
    Calls Tryz.prog 145 #[.slice ao n cap, .func (.func F) #[] cs] w fun e w' => ∃ v, e = .returned v ∧ OwnB w' w.heap.size v (lv.filter (fun y => p y.1)) ∧ Below w.heap.size w w' := by
  subst hn
  have hle := hl.le
  have hmx := hl.max
  unfold maxLen at hmx
  go_enter Tryz.func145, Tryz.ntmps145
  go_wp2
  go_loopg [5, 10] lv.length (fun g v i wr => ∃ (k : Nat), k ≤ lv.length ∧ g = lv.length - k ∧ i = .int .i64 k ∧ OwnB wr w.heap.size v ((lv.take k).filter (fun y => p y.1)) ∧ Below w.heap.size w wr)
  case atStart => exact ⟨0, Nat.zero_le _, rfl, rfl, OwnC.nil _ _, Below.refl _ _⟩
  case round =>
    obtain ⟨k, hk, rfl, rfl, hown, hB⟩ := hrel
    by_cases hlt : k < lv.length
    · obtain ⟨b, off, y, rfl, hbw, hd, hy, hfy⟩ := BkVsAt.get hl hB k hlt
      have HT : Aside ((lv.take (k + 1)).filter (fun y => p y.1) = (lv.take k).filter (fun y => p y.1) ++ (if p y.1 = true then [y] else [])) := take_filter (fun y : BkV => p y.1) hlt hd
      have hln : ((lv.take k).filter (fun y => p y.1)).length ≤ 1000 := by
        have h1 := List.length_filter_le (fun y : BkV => p y.1) (lv.take k)
        have h2 := List.length_take_le' k lv
        omega
      generalize (lv.take k).filter (fun y => p y.1) = L0 at hown HT hln
      obtain ⟨y, fo, fc⟩ := y
      simp only at hy hfy HT
      obtain ⟨y0, y1, y2, y3, y4, y5, y6, y7, y8, y9, y10⟩ := hy
      have hbl : b < wr.heap.size := World.block_lt_of_cell? wr _ y0
      have hkl : (k : Int) < lv.length := by omega
      have HOWN : Aside (OwnB wr w.heap.size u5 L0) := hown
      have HBS := hB.size
      have hba := bk_below wr y fo fc
      clear hd hown
      cases hpf : p y
      · have HL : Aside (L0 = (lv.take (k + 1)).filter (fun y => p y.1)) := by show _ = _; rw [HT.out, hpf]; simp
        go_wp2_with fail
        refine (hp.out y fo fc _ (bvia hB hba)).mono ?_
        rintro e w1 ⟨rfl, hb1⟩
        rw [hpf]
        have HO1 : Aside (OwnB w1 w.heap.size u5 ((lv.take (k + 1)).filter (fun y => p y.1))) := by
          have := OwnC.below HOWN.out (bvia hba hb1)
          rw [HL.out] at this
          exact this
        go_wp2
        go_roundg (lv.length - (k + 1))
        case measure => omega
        case rel => exact ⟨k + 1, by omega, rfl, by go_num, HO1.out, bvia hB (bvia hba hb1)⟩
      · have HL : Aside (L0 ++ [(y, fo, fc)] = (lv.take (k + 1)).filter (fun y => p y.1)) := by show _ = _; rw [HT.out, hpf]; simp
        go_wp2_with fail
        refine (hp.out y fo fc _ (bvia hB hba)).mono ?_
        rintro e w1 ⟨rfl, hb1⟩
        rw [hpf]
        obtain ⟨z0, z1, z2, z3, z4, z5, z6, z7, z8, z9, z10⟩ := (BBox.new wr y fo fc).below hb1
        have HO1 : Aside (OwnB w1 w.heap.size u5 L0) := OwnC.below HOWN.out (bvia hba hb1)
        have hB1 : Below w.heap.size w w1 := bvia hB (bvia hba hb1)
        have hs1 := hB1.size
        clear y0 y1 y2 y3 y4 y5 y6 y7 y8 y9 y10 HOWN HT
        go_wp2_with (at_builtin; refine wpList_app_bk (by rfl) _ _ (by rfl) w.heap.size _ L0 y fo fc (by rfl) HO1.out w1.heap.size rfl (by rfl) hs1 (by omega) ?_; intro v4 w4 hown4 hgr4)
        have hB4 : Below w.heap.size w w4 := OwnC.grown hB1 HO1.out (Nat.le_refl _) hgr4
        rw [HL.out] at hown4
        clear z0 z1 z2 z3 z4 z5 z6 z7 z8 z9 z10
        go_wp2
        go_roundg (lv.length - (k + 1))
        case measure => omega
        case rel => exact ⟨k + 1, by omega, rfl, by go_num, hown4, hB4⟩
    · obtain rfl : k = lv.length := by omega
      rw [List.take_of_length_le (Nat.le_refl _)] at hown
      go_wp2
      go_ret
      exact ⟨_, rfl, hown, hB⟩

/-- A live promise without a cabin, as the program asks. -/
def P.opP (b : Bkg) : Bool := P.lp b && !P.hc b
theorem opP_opn {s : Vsl} {b : Bkg} (h : P.bkE s b = 0) : P.opP b = P.opn b := by
  obtain ⟨_, _, _, _, _, hk, _⟩ := bk_ok h
  rw [P.opP, P.opn, P.lp, P.live, P.hc]
  by_cases h2 : b.kind = 2
  · have hc := (kind_prom hk h2).2.2.2.2
    have hcc : b.cabin = -1 ∨ 0 ≤ b.cabin := by
      rcases hc with h | ⟨h, _⟩
      · exact .inl h
      · right; simp [P.cabB, P.btw] at h; omega
    rcases hcc with h1 | h1
    · simp [h2, h1]
    · have h3 : ¬ b.cabin = -1 := by omega
      have h4 : ¬ b.cabin < 0 := by omega
      simp [h2, h3, h4]
  · simp [h2]

set_option maxHeartbeats 1000000 in
theorem open1_any (b : Bkg) (fo : Option Addr) (fc : Nat) (w : World) :
    Calls Tryz.prog 146 (#[V.bk b fo fc] ++ #[]) w fun e w' => e = .returned (.bool (P.opP b)) ∧ Below w.heap.size w w' := by
  show Calls Tryz.prog 146 #[V.bk b fo fc] w _
  have hbt := bk_below w b fo fc
  have hbx := BBox.new w b fo fc
  cases hlp : P.lp b
  · go_enter Tryz.func146, Tryz.ntmps146
    go_wp2_with (go_at_call 108; refine (lp_is b fo fc _ false hlp).mono ?_; rintro e w1 ⟨rfl, hb1⟩)
    go_ret
    exact ⟨ret_bool (by simp [P.opP, hlp]), bvia hbt hb1⟩
  · go_enter Tryz.func146, Tryz.ntmps146
    go_wp2_with fail
    refine (lp_is b fo fc _ true hlp).mono ?_
    rintro e w1 ⟨rfl, hb1⟩
    obtain ⟨z0, z1, z2, z3, z4, z5, z6, z7, z8, z9, z10⟩ := hbx.below hb1
    go_wp2_with fail
    refine (hasCabin_any b fo fc _).mono ?_
    rintro e w2 ⟨rfl, hb2⟩
    go_wp2
    go_ret
    exact ⟨ret_bool (by simp [P.opP, hlp]), bvia hbt (bvia hb1 hb2)⟩

set_option maxHeartbeats 1000000 in
theorem open_own (x : Sail) (a : SailA) (w : World) (lv : List BkV) (hlv : lv.map (·.1) = x.bks) (hl : BkVsAt w a.ao a.cap lv) (h16 : x.bks.length ≤ 16) :
    Calls Tryz.prog 94 #[V.sail x a] w fun e w' => ∃ v, e = .returned v ∧ OwnB w' w.heap.size v (lv.filter (fun y => P.opP y.1)) ∧ Below w.heap.size w w' := by
  have hsx := SBox.new w x a
  have hsb := sail_below w x a
  have hn : lv.length = x.bks.length := by rw [← hlv]; simp
  have HT : Aside (Calls Tryz.prog 145 #[.slice a.ao x.bks.length a.cap, .func (.func 146) #[] #[]] (W.sail w x a) fun e w' => ∃ v, e = .returned v ∧ OwnB w' (W.sail w x a).heap.size v (lv.filter (fun y => P.opP y.1)) ∧ Below (W.sail w x a).heap.size (W.sail w x a) w') :=
    those_own a.ao a.cap lv x.bks.length hn 146 #[] P.opP _ (SlAt.below RBkV.mono hl hsb) (by omega) (enters_of Tryz.func146 (by kernel_rfl) rfl) (fun b fo fc wx _ => open1_any b fo fc wx)
  go_enter Tryz.func94, Tryz.ntmps94
  go_wp2_with fail
  refine HT.out.mono ?_
  rintro e w1 ⟨v, rfl, hown, hb1⟩
  have HO : Aside (OwnB w1 w.heap.size v (lv.filter (fun y => P.opP y.1))) := OwnC.ahead hown (by simp)
  clear hown
  go_wp2
  go_ret
  exact ⟨_, rfl, HO.out, bvia hsb hb1⟩

set_option maxHeartbeats 1000000 in
theorem untouched1_any (cabin : Int) (G : Nat) (b : Bkg) (fo : Option Addr) (fc : Nat) (w : World) (hG : w.cell? ⟨G, 0, none⟩ = some (.int .i64 cabin)) :
    Calls Tryz.prog 193 (#[V.bk b fo fc] ++ #[.pointer (some ⟨G, 0, none⟩)]) w fun e w' => e = .returned (.bool (P.hasC cabin b)) ∧ Below w.heap.size w w' := by
  show Calls Tryz.prog 193 #[V.bk b fo fc, .pointer (some ⟨G, 0, none⟩)] w _
  have hbt := bk_below w b fo fc
  have hbx := BBox.new w b fo fc
  cases hlv : P.live b
  · go_enter Tryz.func193, Tryz.ntmps193
    go_wp2_with (go_at_call 172; refine (stLive_any b fo fc _).mono ?_; rintro e w1 ⟨rfl, hb1⟩; rw [hlv])
    go_ret
    exact ⟨ret_bool (by simp [P.hasC, hlv]), bvia hbt hb1⟩
  · go_enter Tryz.func193, Tryz.ntmps193
    go_wp2_with (go_at_call 172; refine (stLive_any b fo fc _).mono ?_; rintro e w1 ⟨rfl, hb1⟩; rw [hlv]; have z5 := (hbx.below hb1).c5; have zG := cellIn (bvia hbt hb1) hG)
    go_ret
    exact ⟨ret_bool (by by_cases h : b.cabin = cabin <;> simp [P.hasC, hlv, h]), bvia hbt hb1⟩

/-- Cabins that no live booking has. -/
def P.unt (l : List Bkg) (n : Nat) : List Nat := (List.range n).filter fun c => !l.any (P.hasC (c : Nat))
def P.untI (l : List Bkg) (n : Nat) : List Int := (P.unt l n).map fun c => ((c : Nat) : Int)
theorem untI_on (l : List Bkg) (n : Nat) : P.untI l (n + 1) = P.untI l n ++ (if l.any (P.hasC (n : Nat)) = true then [] else [((n : Nat) : Int)]) := by
  rw [P.untI, P.unt, List.range_succ, List.filter_append, List.map_append]
  congr 1
  cases h : l.any (P.hasC (n : Nat)) <;> simp [List.filter_cons, h]
theorem untI_len (l : List Bkg) (n : Nat) : (P.untI l n).length ≤ n := by
  rw [P.untI, List.length_map, P.unt]
  have := List.length_filter_le (fun c => !l.any (P.hasC (c : Nat))) (List.range n)
  simpa using this
theorem mine_nil {l : List Bkg} {c : Int} : P.mine c l = [] ↔ l.any (P.hasC c) = false := by
  rw [P.mine, List.map_eq_nil_iff, List.filter_eq_nil_iff, List.any_eq_false]

set_option maxHeartbeats 2000000 in
theorem untouched_own (x : Sail) (a : SailA) (w : World) (hs : SailAt w x a) (h12 : x.s.bs.length ≤ 12) :
    Calls Tryz.prog 147 #[V.sail x a] w fun e w' => ∃ v, e = .returned v ∧ OwnJ w' w.heap.size v (P.untI x.bks x.s.bs.length) ∧ Below w.heap.size w w' := by
  have hsx := SBox.new w x a
  have hsb := sail_below w x a
  have hcap := hs.ship.cabs.le
  have hcmx := hs.ship.cabs.max
  unfold maxLen at hcmx
  go_enter Tryz.func147, Tryz.ntmps147
  go_wp2
  go_loopg [3, 9] x.s.bs.length (fun g v i wr => ∃ (c : Nat), c ≤ x.s.bs.length ∧ g = x.s.bs.length - c ∧ i = .int .i64 c ∧ OwnJ wr (w.heap.size + 1) v (P.untI x.bks c) ∧ SBox wr w.heap.size x a ∧ Below (w.heap.size + 1) (W.sail w x a) wr)
  case atStart => exact ⟨0, Nat.zero_le _, rfl, rfl, OwnC.nil _ _, hsx, Below.refl _ _⟩
  case round =>
    obtain ⟨c, hc, rfl, rfl, hown, hbx, hB⟩ := hrel
    have hBw : Below w.heap.size w wr := hsb.trans (hB.mono (by omega))
    have hsz := hB.size
    simp only [World.size_alloc] at hsz
    by_cases hlt : c < x.s.bs.length
    · have HON : Aside (P.untI x.bks (c + 1) = P.untI x.bks c ++ (if x.bks.any (P.hasC (c : Nat)) = true then [] else [((c : Nat) : Int)])) := untI_on ..
      have hln := untI_len x.bks c
      generalize P.untI x.bks c = L0 at hown HON hln
      have HOWN : Aside (OwnJ wr (w.heap.size + 1) u3 L0) := hown
      have HBX : Aside (SBox wr w.heap.size x a) := hbx
      have d11 := hbx.c11
      have hwl : w.heap.size < wr.heap.size := hbx.lt
      have hba : Below wr.heap.size wr (wr.alloc (.cells #[.int .i64 c] 3)) := by go_grown
      have hcl : (c : Int) < x.s.bs.length := by omega
      have HC : Aside (Calls Tryz.prog 98 #[.slice a.ao x.bks.length a.cap, .func (.func 193) #[] #[.pointer (some ⟨wr.heap.size, 0, none⟩)]] (wr.alloc (.cells #[.int .i64 c] 3)) fun e w' => e = .returned (.bool (x.bks.any (P.hasC (c : Nat)))) ∧ Below (wr.alloc (.cells #[.int .i64 c] 3)).heap.size (wr.alloc (.cells #[.int .i64 c] 3)) w') :=
        bkContains_any a.ao a.cap x.bks 193 #[.pointer (some ⟨wr.heap.size, 0, none⟩)] (P.hasC (c : Nat)) _ (SlAt.below RBk.mono hs.bks (bvia hBw hba)) (enters_of Tryz.func193 (by kernel_rfl) rfl)
          (fun b fo fc wx hw => untouched1_any c wr.heap.size b fo fc wx (cellIn hw (Fo.newCell wr _ _).1))
      clear hown hbx
      cases han : x.bks.any (P.hasC (c : Nat))
      · have HL : Aside (P.untI x.bks (c + 1) = L0 ++ [((c : Nat) : Int)]) := by show _ = _; rw [HON.out, han]; simp
        go_wp2_with fail
        refine HC.out.mono ?_
        rintro e w1 ⟨rfl, hb1⟩
        rw [han]
        have hB1 : Below wr.heap.size wr w1 := bvia hba hb1
        have z0 : w1.cell? ⟨wr.heap.size, 0, none⟩ = some (.int .i64 c) := cellIn hb1 (Fo.newCell wr _ _).1
        have HO1 : Aside (OwnJ w1 (w.heap.size + 1) u3 L0) := OwnC.below HOWN.out hB1
        have hB2 : Below (w.heap.size + 1) (W.sail w x a) w1 := hB.trans (hB1.mono hsz)
        have hs1 : w.heap.size + 1 ≤ w1.heap.size := by have := hB1.size; omega
        have HX1 : Aside (SBox w1 w.heap.size x a) := HBX.out.below hB1
        clear HC d11
        go_wp2_with (at_builtin; refine wpList_app_int (by rfl) _ _ (by rfl) (w.heap.size + 1) _ L0 (c : Nat) (by rfl) HO1.out w1.heap.size rfl (by rfl) hs1 (by omega) ?_; intro v4 w4 hown4 hgr4)
        have hlt3 : ∀ r, u3.ownBlock = some r → w.heap.size + 1 ≤ r := fun r e => (HO1.out.lt r e).1
        have hB4 : Below (w.heap.size + 1) (W.sail w x a) w4 := hB2.grown hgr4 hs1 hlt3
        have hX4 : SBox w4 w.heap.size x a := hsx.low hB4 (by omega)
        rw [← HL.out] at hown4
        clear z0
        go_wp2
        go_roundg (x.s.bs.length - (c + 1))
        case measure => omega
        case rel => exact ⟨c + 1, by omega, rfl, by go_num, hown4, hX4, hB4⟩
      · have HL : Aside (P.untI x.bks (c + 1) = L0) := by show _ = _; rw [HON.out, han]; simp
        go_wp2_with fail
        refine HC.out.mono ?_
        rintro e w1 ⟨rfl, hb1⟩
        rw [han]
        have hB1 : Below wr.heap.size wr w1 := bvia hba hb1
        have HO1 : Aside (OwnJ w1 (w.heap.size + 1) u3 L0) := OwnC.below HOWN.out hB1
        have hB2 : Below (w.heap.size + 1) (W.sail w x a) w1 := hB.trans (hB1.mono hsz)
        have HX1 : Aside (SBox w1 w.heap.size x a) := HBX.out.below hB1
        clear HC d11
        go_wp2
        go_roundg (x.s.bs.length - (c + 1))
        case measure => omega
        case rel => exact ⟨c + 1, by omega, rfl, by go_num, by rw [HL.out]; exact HO1.out, HX1.out, hB2⟩
    · obtain rfl : c = x.s.bs.length := by omega
      have HO : Aside (OwnJ wr w.heap.size u3 (P.untI x.bks x.s.bs.length)) := OwnC.ahead hown (by omega)
      clear hown hbx
      go_wp2
      go_ret
      exact ⟨_, rfl, HO.out, hBw⟩

end Go.Proofs.YtlamhfbdeinkkaeGreat.St
