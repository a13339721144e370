/- Package stock: those, open, untouched. -/
import Derived.Test.YtlamhfbdeinkkaeGreatStJt
import Derived.Test.YtlamhfbdeinkkaeGreatBaCt
namespace Go.Proofs.YtlamhfbdeinkkaeGreat.St
open Go.RowKit Bk
set_option linter.unusedSimpArgs false
set_option linter.unusedVariables false
set_option maxRecDepth 10000

theorem take_filter {α : Type} {l : List α} {x : α} {k : Nat} (p : α → Bool) (hk : k < l.length) (hd : l.drop k = x :: l.drop (k + 1)) : (l.take (k + 1)).filter p = (l.take k).filter p ++ (if p x = true then [x] else []) := by
  rw [take_snoc' hk hd, List.filter_append]
  congr 1
  cases h : p x <;> simp [List.filter_cons, h]

theorem wpList_app_bk {ops : Array Oper} {rest : List Oper} {o : Oper} {a : Act} {Q : Exit → Act → World → Prop} {W0 : World} (hgd : o.guard = none) (s x : Operand)
    (ho : o.op = .call { callee := .builtin .append, args := #[s, x], argTypes := #[30, 30] }) (base : Nat) (v : Value) (l : List BkV) (y : Bkg) (fo : Option Addr) (fc : Nat) (hs : a.eval s = v) (hown : OwnB W0 base v l)
    (H : Nat) (hH : W0.heap.size = H) (hx : a.eval x = .slice (some ⟨H, 0, none⟩) 1 1) (hb : base ≤ W0.heap.size) (hn : l.length ≤ 1000000)
    (h : ∀ v' w', OwnB w' base v' (l ++ [(y, fo, fc)]) → W0.grownBy w' v.ownBlock → wpList Tryz.prog ops Q rest (a.put o.dst v') w') : wpList Tryz.prog ops Q (o :: rest) a (W.bk W0 y fo fc) :=
  wpList_app_one Tryz.infoBk Tryz.underlying30 rfl (by decide) cellsV_len cellsV_one (by decide) hgd s x ho base v l (y, fo, fc) _ rfl hs hown H hH hx hb hn h

set_option maxHeartbeats 2000000 in
/-- 'those(l, counts)', with whatever function literal that answers p. -/
theorem those_own (ao : Option Addr) (cap : Nat) (lv : List BkV) (n : Nat) (hn : lv.length = n) (F : Nat) (cs : Array Value) (p : Bkg → Bool) (w : World) (hl : BkVsAt w ao cap lv) (h16 : n ≤ 1000)
    (hcf : ∀ (args : Array Value) (wx : World), (callFunc F args).run Tryz.prog wx = .ok (.enter F args) wx)
    (hp : Hid (∀ (x : Bkg) (fo : Option Addr) (fc : Nat) (wx : World), Below w.heap.size w wx → Calls Tryz.prog F (#[V.bk x fo fc] ++ cs) wx fun e w' => e = .returned (.bool (p x)) ∧ Below wx.heap.size wx w')) :
    Calls Tryz.prog 145 #[.slice ao n cap, .func (.func F) #[] cs] w fun e w' => ∃ v, e = .returned v ∧ OwnB w' w.heap.size v (lv.filter (fun y => p y.1)) ∧ Below w.heap.size w w' := by
  subst hn
  have hle := hl.le
  have hmx := hl.max
  unfold maxLen at hmx
  go_enter Tryz.func145, Tryz.ntmps145
  go_wp2
  go_loopg [5, 10] lv.length (fun g v i wr => ∃ (k : Nat), k ≤ lv.length ∧ g = lv.length - k ∧ i = .int .i64 k ∧ OwnB wr w.heap.size v ((lv.take k).filter (fun y => p y.1)) ∧ Below w.heap.size w wr)
  case atStart => exact ⟨0, Nat.zero_le _, rfl, rfl, OwnC.nil _ _, Below.refl _ _⟩
  case round =>
    obtain ⟨k, hk, rfl, rfl, hown, hB⟩ := hrel
    by_cases hlt : k < lv.length
    · obtain ⟨b, off, y, rfl, hbw, hd, hy, hfy⟩ := BkVsAt.get hl hB k hlt
      have HT : Aside ((lv.take (k + 1)).filter (fun y => p y.1) = (lv.take k).filter (fun y => p y.1) ++ (if p y.1 = true then [y] else [])) := take_filter (fun y : BkV => p y.1) hlt hd
      have hln : ((lv.take k).filter (fun y => p y.1)).length ≤ 1000 := by
        have h1 := List.length_filter_le (fun y : BkV => p y.1) (lv.take k)
        have h2 := List.length_take_le' k lv
        omega
      generalize (lv.take k).filter (fun y => p y.1) = L0 at hown HT hln
      obtain ⟨y, fo, fc⟩ := y
      simp only at hy hfy HT
      obtain ⟨y0, y1, y2, y3, y4, y5, y6, y7, y8, y9, y10⟩ := hy
      have hbl : b < wr.heap.size := World.block_lt_of_cell? wr _ y0
      have hkl : (k : Int) < lv.length := by omega
      have HOWN : Aside (OwnB wr w.heap.size u5 L0) := hown
      have HBS := hB.size
      have hba := bk_below wr y fo fc
      clear hd hown
      cases hpf : p y
      · have HL : Aside (L0 = (lv.take (k + 1)).filter (fun y => p y.1)) := by show _ = _; rw [HT.out, hpf]; simp
        go_wp2_with fail
        refine (hp.out y fo fc _ (bvia hB hba)).mono ?_
        rintro e w1 ⟨rfl, hb1⟩
        rw [hpf]
        have HO1 : Aside (OwnB w1 w.heap.size u5 ((lv.take (k + 1)).filter (fun y => p y.1))) := by
          have := OwnC.below HOWN.out (bvia hba hb1)
          rw [HL.out] at this
          exact this
        go_wp2
        go_roundg (lv.length - (k + 1))
        case measure => omega
        case rel => exact ⟨k + 1, by omega, rfl, by go_num, HO1.out, bvia hB (bvia hba hb1)⟩
      · have HL : Aside (L0 ++ [(y, fo, fc)] = (lv.take (k + 1)).filter (fun y => p y.1)) := by show _ = _; rw [HT.out, hpf]; simp
        go_wp2_with fail
        refine (hp.out y fo fc _ (bvia hB hba)).mono ?_
        rintro e w1 ⟨rfl, hb1⟩
        rw [hpf]
        obtain ⟨z0, z1, z2, z3, z4, z5, z6, z7, z8, z9, z10⟩ := (BBox.new wr y fo fc).below hb1
        have HO1 : Aside (OwnB w1 w.heap.size u5 L0) := OwnC.below HOWN.out (bvia hba hb1)
        have hB1 : Below w.heap.size w w1 := bvia hB (bvia hba hb1)
        have hs1 := hB1.size
        clear y0 y1 y2 y3 y4 y5 y6 y7 y8 y9 y10 HOWN HT
        go_wp2_with (at_builtin; refine wpList_app_bk (by rfl) _ _ (by rfl) w.heap.size _ L0 y fo fc (by rfl) HO1.out w1.heap.size rfl (by rfl) hs1 (by omega) ?_; intro v4 w4 hown4 hgr4)
        have hB4 : Below w.heap.size w w4 := OwnC.grown hB1 HO1.out (Nat.le_refl _) hgr4
        rw [HL.out] at hown4
        clear z0 z1 z2 z3 z4 z5 z6 z7 z8 z9 z10
        go_wp2
        go_roundg (lv.length - (k + 1))
        case measure => omega
        case rel => exact ⟨k + 1, by omega, rfl, by go_num, hown4, hB4⟩
    · obtain rfl : k = lv.length := by omega
      rw [List.take_of_length_le (Nat.le_refl _)] at hown
      go_wp2
      go_ret
      exact ⟨_, rfl, hown, hB⟩

/-- A live promise without a cabin, as the program asks. -/
def P.opP (b : Bkg) : Bool := P.lp b && !P.hc b
theorem opP_opn {s : Vsl} {b : Bkg} (h : P.bkE s b = 0) : P.opP b = P.opn b := by
  obtain ⟨_, _, _, _, _, hk, _⟩ := bk_ok h
  rw [P.opP, P.opn, P.lp, P.live, P.hc]
  by_cases h2 : b.kind = 2
  · have hc := (kind_prom hk h2).2.2.2.2
    have hcc : b.cabin = -1 ∨ 0 ≤ b.cabin := by
      rcases hc with h | ⟨h, _⟩
      · exact .inl h
      · right; simp [P.cabB, P.btw] at h; omega
    rcases hcc with h1 | h1
    · simp [h2, h1]
    · have h3 : ¬ b.cabin = -1 := by omega
      have h4 : ¬ b.cabin < 0 := by omega
      simp [h2, h3, h4]
  · simp [h2]

set_option maxHeartbeats 1000000 in
theorem open1_any (b : Bkg) (fo : Option Addr) (fc : Nat) (w : World) :
    Calls Tryz.prog 146 (#[V.bk b fo fc] ++ #[]) w fun e w' => e = .returned (.bool (P.opP b)) ∧ Below w.heap.size w w' := by
  show Calls Tryz.prog 146 #[V.bk b fo fc] w _
  have hbt := bk_below w b fo fc
  have hbx := BBox.new w b fo fc
  cases hlp : P.lp b
  · go_enter Tryz.func146, Tryz.ntmps146
    go_wp2_with (go_at_call 108; refine (lp_is b fo fc _ false hlp).mono ?_; rintro e w1 ⟨rfl, hb1⟩)
    go_ret
    exact ⟨ret_bool (by simp [P.opP, hlp]), bvia hbt hb1⟩
  · go_enter Tryz.func146, Tryz.ntmps146
    go_wp2_with fail
    refine (lp_is b fo fc _ true hlp).mono ?_
    rintro e w1 ⟨rfl, hb1⟩
    obtain ⟨z0, z1, z2, z3, z4, z5, z6, z7, z8, z9, z10⟩ := hbx.below hb1
    go_wp2_with fail
    refine (hasCabin_any b fo fc _).mono ?_
    rintro e w2 ⟨rfl, hb2⟩
    go_wp2
    go_ret
    exact ⟨ret_bool (by simp [P.opP, hlp]), bvia hbt (bvia hb1 hb2)⟩

set_option maxHeartbeats 1000000 in
theorem open_own (x : Sail) (a : SailA) (w : World) (lv : List BkV) (hlv : lv.map (·.1) = x.bks) (hl : BkVsAt w a.ao a.cap lv) (h16 : x.bks.length ≤ 16) :
    Calls Tryz.prog 94 #[V.sail x a] w fun e w' => ∃ v, e = .returned v ∧ OwnB w' w.heap.size v (lv.filter (fun y => P.opP y.1)) ∧ Below w.heap.size w w' := by
  have hsx := SBox.new w x a
  have hsb := sail_below w x a
  have hn : lv.length = x.bks.length := by rw [← hlv]; simp
  have HT : Aside (Calls Tryz.prog 145 #[.slice a.ao x.bks.length a.cap, .func (.func 146) #[] #[]] (W.sail w x a) fun e w' => ∃ v, e = .returned v ∧ OwnB w' (W.sail w x a).heap.size v (lv.filter (fun y => P.opP y.1)) ∧ Below (W.sail w x a).heap.size (W.sail w x a) w') :=
    those_own a.ao a.cap lv x.bks.length hn 146 #[] P.opP _ (SlAt.below RBkV.mono hl hsb) (by omega) (enters_of Tryz.func146 (by kernel_rfl) rfl) (fun b fo fc wx _ => open1_any b fo fc wx)
  go_enter Tryz.func94, Tryz.ntmps94
  go_wp2_with fail
  refine HT.out.mono ?_
  rintro e w1 ⟨v, rfl, hown, hb1⟩
  have HO : Aside (OwnB w1 w.heap.size v (lv.filter (fun y => P.opP y.1))) := OwnC.ahead hown (by simp)
  clear hown
  go_wp2
  go_ret
  exact ⟨_, rfl, HO.out, bvia hsb hb1⟩

set_option maxHeartbeats 1000000 in
theorem untouched1_any (cabin : Int) (G : Nat) (b : Bkg) (fo : Option Addr) (fc : Nat) (w : World) (hG : w.cell? ⟨G, 0, none⟩ = some (.int .i64 cabin)) :
    Calls Tryz.prog 193 (#[V.bk b fo fc] ++ #[.pointer (some ⟨G, 0, none⟩)]) w fun e w' => e = .returned (.bool (P.hasC cabin b)) ∧ Below w.heap.size w w' := by
  show Calls Tryz.prog 193 #[V.bk b fo fc, .pointer (some ⟨G, 0, none⟩)] w _
  have hbt := bk_below w b fo fc
  have hbx := BBox.new w b fo fc
  cases hlv : P.live b
  · go_enter Tryz.func193, Tryz.ntmps193
    go_wp2_with (go_at_call 172; refine (stLive_any b fo fc _).mono ?_; rintro e w1 ⟨rfl, hb1⟩; rw [hlv])
    go_ret
    exact ⟨ret_bool (by simp [P.hasC, hlv]), bvia hbt hb1⟩
  · go_enter Tryz.func193, Tryz.ntmps193
    go_wp2_with (go_at_call 172; refine (stLive_any b fo fc _).mono ?_; rintro e w1 ⟨rfl, hb1⟩; rw [hlv]; have z5 := (hbx.below hb1).c5; have zG := cellIn (bvia hbt hb1) hG)
    go_ret
    exact ⟨ret_bool (by by_cases h : b.cabin = cabin <;> simp [P.hasC, hlv, h]), bvia hbt hb1⟩

/-- Cabins that no live booking has. -/
def P.unt (l : List Bkg) (n : Nat) : List Nat := (List.range n).filter fun c => !l.any (P.hasC (c : Nat))
def P.untI (l : List Bkg) (n : Nat) : List Int := (P.unt l n).map fun c => ((c : Nat) : Int)
theorem untI_on (l : List Bkg) (n : Nat) : P.untI l (n + 1) = P.untI l n ++ (if l.any (P.hasC (n : Nat)) = true then [] else [((n : Nat) : Int)]) := by
  rw [P.untI, P.unt, List.range_succ, List.filter_append, List.map_append]
  congr 1
  cases h : l.any (P.hasC (n : Nat)) <;> simp [List.filter_cons, h]
theorem untI_len (l : List Bkg) (n : Nat) : (P.untI l n).length ≤ n := by
  rw [P.untI, List.length_map, P.unt]
  have := List.length_filter_le (fun c => !l.any (P.hasC (c : Nat))) (List.range n)
  simpa using this
theorem mine_nil {l : List Bkg} {c : Int} : P.mine c l = [] ↔ l.any (P.hasC c) = false := by
  rw [P.mine, List.map_eq_nil_iff, List.filter_eq_nil_iff, List.any_eq_false]

set_option maxHeartbeats 2000000 in
theorem untouched_own (x : Sail) (a : SailA) (w : World) (hs : SailAt w x a) (h12 : x.s.bs.length ≤ 12) :
    Calls Tryz.prog 147 #[V.sail x a] w fun e w' => ∃ v, e = .returned v ∧ OwnJ w' w.heap.size v (P.untI x.bks x.s.bs.length) ∧ Below w.heap.size w w' := by
  have hsx := SBox.new w x a
  have hsb := sail_below w x a
  have hcap := hs.ship.cabs.le
  have hcmx := hs.ship.cabs.max
  unfold maxLen at hcmx
  go_enter Tryz.func147, Tryz.ntmps147
  go_wp2
  go_loopg [3, 9] x.s.bs.length (fun g v i wr => ∃ (c : Nat), c ≤ x.s.bs.length ∧ g = x.s.bs.length - c ∧ i = .int .i64 c ∧ OwnJ wr (w.heap.size + 1) v (P.untI x.bks c) ∧ SBox wr w.heap.size x a ∧ Below (w.heap.size + 1) (W.sail w x a) wr)
  case atStart => exact ⟨0, Nat.zero_le _, rfl, rfl, OwnC.nil _ _, hsx, Below.refl _ _⟩
  case round =>
    obtain ⟨c, hc, rfl, rfl, hown, hbx, hB⟩ := hrel
    have hBw : Below w.heap.size w wr := hsb.trans (hB.mono (by omega))
    have hsz := hB.size
    simp only [World.size_alloc] at hsz
    by_cases hlt : c < x.s.bs.length
    · have HON : Aside (P.untI x.bks (c + 1) = P.untI x.bks c ++ (if x.bks.any (P.hasC (c : Nat)) = true then [] else [((c : Nat) : Int)])) := untI_on ..
      have hln := untI_len x.bks c
      generalize P.untI x.bks c = L0 at hown HON hln
      have HOWN : Aside (OwnJ wr (w.heap.size + 1) u3 L0) := hown
      have HBX : Aside (SBox wr w.heap.size x a) := hbx
      have d11 := hbx.c11
      have hwl : w.heap.size < wr.heap.size := hbx.lt
      have hba : Below wr.heap.size wr (wr.alloc (.cells #[.int .i64 c] 3)) := by go_grown
      have hcl : (c : Int) < x.s.bs.length := by omega
      have HC : Aside (Calls Tryz.prog 98 #[.slice a.ao x.bks.length a.cap, .func (.func 193) #[] #[.pointer (some ⟨wr.heap.size, 0, none⟩)]] (wr.alloc (.cells #[.int .i64 c] 3)) fun e w' => e = .returned (.bool (x.bks.any (P.hasC (c : Nat)))) ∧ Below (wr.alloc (.cells #[.int .i64 c] 3)).heap.size (wr.alloc (.cells #[.int .i64 c] 3)) w') :=
        bkContains_any a.ao a.cap x.bks 193 #[.pointer (some ⟨wr.heap.size, 0, none⟩)] (P.hasC (c : Nat)) _ (SlAt.below RBk.mono hs.bks (bvia hBw hba)) (enters_of Tryz.func193 (by kernel_rfl) rfl)
          (fun b fo fc wx hw => untouched1_any c wr.heap.size b fo fc wx (cellIn hw (Fo.newCell wr _ _).1))
      clear hown hbx
      cases han : x.bks.any (P.hasC (c : Nat))
      · have HL : Aside (P.untI x.bks (c + 1) = L0 ++ [((c : Nat) : Int)]) := by show _ = _; rw [HON.out, han]; simp
        go_wp2_with fail
        refine HC.out.mono ?_
        rintro e w1 ⟨rfl, hb1⟩
        rw [han]
        have hB1 : Below wr.heap.size wr w1 := bvia hba hb1
        have z0 : w1.cell? ⟨wr.heap.size, 0, none⟩ = some (.int .i64 c) := cellIn hb1 (Fo.newCell wr _ _).1
        have HO1 : Aside (OwnJ w1 (w.heap.size + 1) u3 L0) := OwnC.below HOWN.out hB1
        have hB2 : Below (w.heap.size + 1) (W.sail w x a) w1 := hB.trans (hB1.mono hsz)
        have hs1 : w.heap.size + 1 ≤ w1.heap.size := by have := hB1.size; omega
        have HX1 : Aside (SBox w1 w.heap.size x a) := HBX.out.below hB1
        clear HC d11
        go_wp2_with (at_builtin; refine wpList_app_int (by rfl) _ _ (by rfl) (w.heap.size + 1) _ L0 (c : Nat) (by rfl) HO1.out w1.heap.size rfl (by rfl) hs1 (by omega) ?_; intro v4 w4 hown4 hgr4)
        have hlt3 : ∀ r, u3.ownBlock = some r → w.heap.size + 1 ≤ r := fun r e => (HO1.out.lt r e).1
        have hB4 : Below (w.heap.size + 1) (W.sail w x a) w4 := hB2.grown hgr4 hs1 hlt3
        have hX4 : SBox w4 w.heap.size x a := hsx.low hB4 (by omega)
        rw [← HL.out] at hown4
        clear z0
        go_wp2
        go_roundg (x.s.bs.length - (c + 1))
        case measure => omega
        case rel => exact ⟨c + 1, by omega, rfl, by go_num, hown4, hX4, hB4⟩
      · have HL : Aside (P.untI x.bks (c + 1) = L0) := by show _ = _; rw [HON.out, han]; simp
        go_wp2_with fail
        refine HC.out.mono ?_
        rintro e w1 ⟨rfl, hb1⟩
        rw [han]
        have hB1 : Below wr.heap.size wr w1 := bvia hba hb1
        have HO1 : Aside (OwnJ w1 (w.heap.size + 1) u3 L0) := OwnC.below HOWN.out hB1
        have hB2 : Below (w.heap.size + 1) (W.sail w x a) w1 := hB.trans (hB1.mono hsz)
        have HX1 : Aside (SBox w1 w.heap.size x a) := HBX.out.below hB1
        clear HC d11
        go_wp2
        go_roundg (x.s.bs.length - (c + 1))
        case measure => omega
        case rel => exact ⟨c + 1, by omega, rfl, by go_num, by rw [HL.out]; exact HO1.out, HX1.out, hB2⟩
    · obtain rfl : c = x.s.bs.length := by omega
      have HO : Aside (OwnJ wr w.heap.size u3 (P.untI x.bks x.s.bs.length)) := OwnC.ahead hown (by omega)
      clear hown hbx
      go_wp2
      go_ret
      exact ⟨_, rfl, HO.out, hBw⟩

end Go.Proofs.YtlamhfbdeinkkaeGreat.St
namespace Go.Proofs.YtlamhfbdeinkkaeGreat.St
open Go.RowKit Bk
set_option linter.unusedSimpArgs false
set_option linter.unusedVariables false
set_option maxRecDepth 10000

/-- A booking with another cabin. -/
def P.wc (b : Bkg) (c : Int) : Bkg := ⟨b.id, b.kind, b.state, b.guests, b.level, c, b.cat, b.frm, b.to, b.til, b.fol⟩
def P.may (s : Vsl) (b : Bkg) (c : Int) : Bool := decide (P.checkE s (P.wc b c) = 0)

set_option maxHeartbeats 1000000 in
theorem mayHave_any (s : Vsl) (a : VslA) (b : Bkg) (fo : Option Addr) (fc : Nat) (c : Int) (w : World) (hs : VslAt w s a) (hf : Fo.EntsAt w fo fc b.fol) :
    Calls Tryz.prog 148 #[V.vsl s a, V.bk b fo fc, .int .i64 c] w fun e w' => e = .returned (.bool (P.may s b c)) ∧ Below w.heap.size w w' := by
  have hbx := two_b w s a b fo fc
  have hvx := two_v w s a b fo fc
  have hB := two_below w s a (P.wc b c) fo fc
  have HC := bookCheck_any s a (P.wc b c) fo fc (W.two w s a (P.wc b c) fo fc) (hs.below hB) (SlAt.below Fo.REnt.mono hf hB)
  have HC2 : Aside (Calls Tryz.prog 71 #[V.vsl s a, V.bk (P.wc b c) fo fc] (W.two w s a (P.wc b c) fo fc) fun e w' => e = .returned (.int .i64 (P.checkE s (P.wc b c))) ∧ Below (W.two w s a (P.wc b c) fo fc).heap.size (W.two w s a (P.wc b c) fo fc) w') := HC
  clear HC
  go_enter Tryz.func148, Tryz.ntmps148
  go_wp2_with fail
  refine HC2.out.mono ?_
  rintro e w1 ⟨rfl, hb1⟩
  go_wp2
  go_ret
  exact ⟨ret_bool (by rw [P.may]; first | rfl | (by_cases h : P.checkE s (P.wc b c) = 0 <;> simp [h])), bvia hB hb1⟩

def P.edP (s : Vsl) (us : List Int) (i : Nat) (b : Bkg) : List (Int × Int) := (us.filter (P.may s b)).map fun c => ((i : Int), c)
def P.pedP (s : Vsl) (us : List Int) : Nat → List Bkg → List (Int × Int)
  | _, [] => []
  | i, b :: t => P.edP s us i b ++ P.pedP s us (i + 1) t
theorem pedP_snoc (s : Vsl) (us : List Int) (m : List Bkg) (b : Bkg) (i : Nat) : P.pedP s us i (m ++ [b]) = P.pedP s us i m ++ P.edP s us (i + m.length) b := by
  induction m generalizing i with
  | nil => simp [P.pedP]
  | cons x t ih =>
    rw [List.cons_append, P.pedP, P.pedP, ih, List.append_assoc, List.length_cons]
    congr 3
    omega
theorem edP_len (s : Vsl) (us : List Int) (i : Nat) (b : Bkg) : (P.edP s us i b).length ≤ us.length := by
  rw [P.edP, List.length_map]
  exact List.length_filter_le _ _
theorem pedP_len (s : Vsl) (us : List Int) (m : List Bkg) (i : Nat) : (P.pedP s us i m).length ≤ m.length * us.length := by
  induction m generalizing i with
  | nil => simp [P.pedP]
  | cons x t ih =>
    rw [P.pedP, List.length_cons, Nat.succ_mul, List.length_append]
    have := ih (i + 1)
    have := edP_len s us i x
    omega
theorem edP_on {s : Vsl} {us : List Int} {i k : Nat} {b : Bkg} {c : Int} (hk : k < us.length) (hd : us.drop k = c :: us.drop (k + 1)) : P.edP s (us.take (k + 1)) i b = P.edP s (us.take k) i b ++ (if P.may s b c = true then [((i : Int), c)] else []) := by
  rw [P.edP, P.edP, take_filter (P.may s b) hk hd, List.map_append]
  congr 1
  cases P.may s b c <;> simp

set_option maxHeartbeats 4000000 in
theorem edges_own (x : Sail) (a : SailA) (bo : Option Addr) (bc : Nat) (bl : List BkV) (nb : Nat) (hnb : bl.length = nb) (w : World) (hs : SailAt w x a) (hbl : BkVsAt w bo bc bl) (h12 : x.s.bs.length ≤ 12) (h16 : nb ≤ 16) :
    Calls Tryz.prog 95 #[V.sail x a, .slice bo nb bc] w fun e w' => ∃ v, e = .returned v ∧ OwnG w' w.heap.size v (P.pedP x.s (P.untI x.bks x.s.bs.length) 0 (bl.map (·.1))) ∧ Below w.heap.size w w' := by
  subst hnb
  have hsx := SBox.new w x a
  have hsb := sail_below w x a
  have hle := hbl.le
  have hmx := hbl.max
  unfold maxLen at hmx
  obtain ⟨d0, d1, d2, d3, d4, d5, d6, d7, d8, d9, d10, d11, d12⟩ := hsx
  go_enter Tryz.func95, Tryz.ntmps95
  go_wp2_with fail
  refine (untouched_own x a _ (hs.below hsb) h12).mono ?_
  rintro e w1 ⟨v1, rfl, own1, hb1⟩
  have hus := untI_len x.bks x.s.bs.length
  generalize hUS : P.untI x.bks x.s.bs.length = us at own1 hus
  have HUS : Aside (P.untI x.bks x.s.bs.length = us) := hUS
  clear hUS
  obtain ⟨ua, uc, rfl, hu1⟩ := OwnJ.at own1
  have hule := hu1.le
  have humx := hu1.max
  unfold maxLen at humx
  have hx1 : SBox w1 w.heap.size x a := (SBox.new w x a).below hb1
  have hB1 : Below w.heap.size w w1 := bvia hsb hb1
  have hs1 := hs.below hB1
  have hbl1 : BkVsAt w1 bo bc bl := SlAt.below RBkV.mono hbl hB1
  have HB1 : Aside (Below w.heap.size w w1) := hB1
  have hwl : w.heap.size < w1.heap.size := hx1.lt
  clear own1 d0 d1 d2 d3 d4 d5 d6 d7 d8 d9 d10 d11 d12 hb1 hB1
  go_wp2
  go_loopg [5, 15] bl.length (fun g v i wr => ∃ (k : Nat), k ≤ bl.length ∧ g = bl.length - k ∧ i = .int .i64 k ∧ OwnG wr w1.heap.size v (P.pedP x.s us 0 ((bl.take k).map (·.1))) ∧ Below w1.heap.size w1 wr)
  case atStart => exact ⟨0, Nat.zero_le _, rfl, rfl, OwnC.nil _ _, Below.refl _ _⟩
  case round =>
    obtain ⟨k, hk, rfl, rfl, he, hB⟩ := hrel
    have hsz := hB.size
    by_cases hlt : k < bl.length
    · obtain ⟨b, off, y, hao, hbw, hd, hy, hfy⟩ := BkVsAt.get hbl1 hB k hlt
      have HT : Aside (P.pedP x.s us 0 ((bl.take (k + 1)).map (·.1)) = P.pedP x.s us 0 ((bl.take k).map (·.1)) ++ P.edP x.s us k y.1) := by
        show _ = _
        rw [take_snoc' hlt hd, List.map_append, List.map_singleton, pedP_snoc]
        congr 2
        simp
        omega
      have hel : (P.pedP x.s us 0 ((bl.take k).map (·.1))).length ≤ 192 := by
        have h1 := pedP_len x.s us ((bl.take k).map (·.1)) 0
        have h2 : ((bl.take k).map (·.1)).length ≤ 16 := by
          rw [List.length_map]
          exact Nat.le_trans (List.length_take_le' k bl) h16
        have h3 := Nat.mul_le_mul h2 (Nat.le_trans hus h12)
        omega
      generalize P.pedP x.s us 0 ((bl.take k).map (·.1)) = E0 at he HT hel
      obtain ⟨y, fo, fc⟩ := y
      simp only at hy hfy HT
      have hF : Aside (∀ W, Below w1.heap.size w1 W → Fo.EntsAt W fo fc y.fol) := fun W hW => by
        obtain ⟨_, _, z, hz1, _, hz3, _, hz5⟩ := BkVsAt.get hbl1 hW k hlt
        rw [hd] at hz3
        simp only [List.cons.injEq] at hz3
        rw [← hz3.1] at hz5
        exact hz5
      rw [hao]
      obtain ⟨y0, y1, y2, y3, y4, y5, y6, y7, y8, y9, y10⟩ := hy
      have hbl' : b < wr.heap.size := World.block_lt_of_cell? wr _ y0
      have hkl : (k : Int) < bl.length := by omega
      have HE : Aside (OwnG wr w1.heap.size u5 E0) := he
      have HYB : Aside (BBox (W.bk wr y fo fc) wr.heap.size y fo fc) := BBox.new wr y fo fc
      have hba := bk_below wr y fo fc
      have hev : ∀ r, u5.ownBlock = some r → r ≠ wr.heap.size := fun r e => by have := (he.lt r e).2; omega
      have HAO : Aside (bo = some ⟨b, off, none⟩) := hao
      have HEV : Aside (∀ r, u5.ownBlock = some r → r ≠ wr.heap.size) := hev
      clear hd he hao hev
      go_wp2
      obtain ⟨wo, hwo⟩ : ∃ wo : World, wo = wr := ⟨_, rfl⟩
      rw [← hwo] at HYB HEV hba hfy hsz hB HE ⊢
      clear hwo y0 y1 y2 y3 y4 y5 y6 y7 y8 y9 y10
      go_loopg [5, 22] us.length (fun g ev i wx => ∃ (m : Nat), m ≤ us.length ∧ g = us.length - m ∧ i = .int .i64 m ∧ OwnG wx w1.heap.size ev (E0 ++ P.edP x.s (us.take m) k y) ∧ (∀ r, ev.ownBlock = some r → r ≠ wo.heap.size) ∧ BBox wx wo.heap.size y fo fc ∧ wo.heap.size < wx.heap.size ∧ Fo.EntsAt wx fo fc y.fol ∧ Below w1.heap.size w1 wx)
      case atStart => exact ⟨0, Nat.zero_le _, rfl, rfl, by simpa [P.edP] using OwnC.below HE.out hba, HEV.out, HYB.out, by simp, SlAt.below Fo.REnt.mono hfy hba, bvia hB hba⟩
      case round =>
        clear HE HEV HYB hba hfy hB
        obtain ⟨m, hm, rfl, rfl, he, hev, hyb, hG, hfy, hB⟩ := hrel
        have hbx := hx1.low hB hwl
        by_cases hml : m < us.length
        · obtain ⟨b2, off2, c, hao2, hbw2, hd2, hc0⟩ := hu1.get hB m hml
          have HON : Aside (P.edP x.s (us.take (m + 1)) k y = P.edP x.s (us.take m) k y ++ (if P.may x.s y c = true then [((k : Int), c)] else [])) := edP_on hml hd2
          have hedl := edP_len x.s (us.take m) k y
          have hedl2 : (us.take m).length ≤ us.length := List.length_take_le' m us
          have hmi : (m : Int) < us.length := by omega
          generalize P.edP x.s (us.take m) k y = E1 at he HON hedl
          have HE : Aside (OwnG wr w1.heap.size u5 (E0 ++ E1)) := he
          have HEV : Aside (∀ r, u5.ownBlock = some r → r ≠ wo.heap.size) := hev
          have HYB : Aside (BBox wr wo.heap.size y fo fc) := hyb
          have HU : Aside (ua = some ⟨b2, off2, none⟩) := hao2
          have f0 := hbx.c0
          have f1 := hbx.c1
          have f2 := hbx.c2
          have f3 := hbx.c3
          obtain ⟨z0, z1, z2, z3, z4, z5, z6, z7, z8, z9, z10⟩ := hyb
          rw [hao2]
          clear hd2 he hev hbx hao2
          go_wp2_with fail
          refine (mayHave_any x.s a.v y fo fc c _ (hs1.below hB).ship hfy).mono ?_
          rintro e w2 ⟨rfl, hb2⟩
          have HE2 : Aside (OwnG w2 w1.heap.size u5 (E0 ++ E1)) := OwnC.below HE.out hb2
          have HY2 : Aside (BBox w2 wo.heap.size y fo fc) := HYB.out.below hb2
          have hf2 : Fo.EntsAt w2 fo fc y.fol := SlAt.below Fo.REnt.mono hfy hb2
          have hG2 : wo.heap.size < w2.heap.size := by have := hb2.size; omega
          have hB2 := bvia hB hb2
          have hs2 := hB2.size
          clear z0 z1 z2 z3 z4 z5 z6 z7 z8 z9 z10 f0 f1 f2 f3 hc0 HE HYB hfy hB hb2 hG
          cases hmy : P.may x.s y c
          · have HN : Aside (P.edP x.s (us.take (m + 1)) k y = E1) := by show _ = _; rw [HON.out, hmy]; simp
            rw [← HU.out]
            go_wp2
            go_roundg (us.length - (m + 1))
            case measure => omega
            case rel => exact ⟨m + 1, by omega, rfl, by go_num, by rw [HN.out]; exact HE2.out, HEV.out, HY2.out, hG2, hf2, hB2⟩
          · have HN : Aside (E0 ++ P.edP x.s (us.take (m + 1)) k y = (E0 ++ E1) ++ [((k : Int), c)]) := by show _ = _; rw [HON.out, hmy, List.append_assoc]; simp
            rw [← HU.out]
            go_wp2_with (at_builtin; refine wpList_app_at Tryz.infoG Tryz.underlying65 rfl (by decide) cellsG_len cellsG_one (by decide) (by rfl) _ _ (by rfl) w1.heap.size _ (E0 ++ E1) ((k : Int), c) _ (by rfl) (by rfl) HE2.out w2.heap.size rfl (by rfl) hs2 (by rw [List.length_append]; omega) ?_; intro v4 w4 hown4 hgr4 hat4)
            have hlt5 : ∀ r, u5.ownBlock = some r → w1.heap.size ≤ r := fun r e => (HE2.out.lt r e).1
            have hy4 : BBox w4 wo.heap.size y fo fc := BBox.gr HY2.out hgr4 (fun e => HEV.out _ e rfl)
            have hB4 : Below w1.heap.size w1 w4 := hB2.grown hgr4 hs2 hlt5
            have hG4 : wo.heap.size < w4.heap.size := by have := hgr4.size; omega
            have hev4 : ∀ r, v4.ownBlock = some r → r ≠ wo.heap.size := fun r e => by
              rcases hat4 with h | h
              · exact HEV.out r (h.symm.trans e)
              · rw [h] at e
                have := Option.some.inj e
                omega
            have hf4 : Fo.EntsAt w4 fo fc y.fol := hF.out w4 hB4
            rw [← HN.out] at hown4
            go_wp2
            go_roundg (us.length - (m + 1))
            case measure => omega
            case rel => exact ⟨m + 1, by omega, rfl, by go_num, hown4, hev4, hy4, hG4, hf4, hB4⟩
        · obtain rfl : m = us.length := by omega
          rw [List.take_of_length_le (Nat.le_refl _), ← HT.out] at he
          have HE : Aside (OwnG wr w1.heap.size u5 (P.pedP x.s us 0 ((bl.take (k + 1)).map (·.1)))) := he
          rw [← HAO.out]
          clear he hyb hev
          go_wp2
          go_roundg (bl.length - (k + 1))
          case measure => omega
          case rel => exact ⟨k + 1, by omega, rfl, by go_num, HE.out, hB⟩
    · obtain rfl : k = bl.length := by omega
      rw [List.take_of_length_le (Nat.le_refl _)] at he
      have HE : Aside (OwnG wr w.heap.size u5 (P.pedP x.s us 0 (bl.map (·.1)))) := OwnC.ahead he (by omega)
      have HBf : Aside (Below w.heap.size w wr) := HB1.out.trans (hB.mono (by omega))
      clear he
      go_wp2
      go_ret
      exact ⟨u5, rfl, (by rw [HUS.out]; exact HE.out), HBf.out⟩

end Go.Proofs.YtlamhfbdeinkkaeGreat.St
