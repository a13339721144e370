/- Package change: the literal that changes one booking of a sailing of its own. -/
import Derived.Test.YtlamhfbdeinkkaeGreatChAo
import Derived.Test.YtlamhfbdeinkkaeGreatSeBo
import Derived.Deep.RegionHeld3
import Derived.Test.YtlamhfbdeinkkaeGreatTwAo
import Derived.Test.YtlamhfbdeinkkaeGreatStJo
namespace Go.Proofs.YtlamhfbdeinkkaeGreat.St
open Go.RowKit Bk
set_option linter.unusedSimpArgs false
set_option linter.unusedVariables false
set_option maxRecDepth 10000

/-- What a literal does to a booking b that lies at a place of a slice of the call's own: T tells the errno and what the booking is then. -/
def LitOk (w : World) (F : Nat) (cs : Array Value) (b : Bkg) (T : Int → Bkg → Prop) : Prop :=
  ∀ (U : World) (m G n k : Nat) (lv : List BkV) (fo : Option Addr) (fc : Nat), Below w.heap.size w U → w.heap.size ≤ m → OwnB U m (.slice (some ⟨G, 0, none⟩) n n) lv → lv.length = n → lv[k]? = some (b, fo, fc) → Fo.OwnN U (G + 1) (.slice fo b.fol.length fc) b.fol →
    Calls Tryz.prog F (#[.pointer (some ⟨G, k * 11, none⟩)] ++ cs) U fun e w' => ∃ (r : Int) (b' : Bkg), e = .returned (.int .i64 r) ∧ T r b' ∧ (∀ i, i < U.heap.size → i ≠ G → w'.heap[i]? = U.heap[i]?) ∧ Below m U w' ∧
      (r = 0 → ∃ fo' fc', OwnB w' m (.slice (some ⟨G, 0, none⟩) n n) (lv.set k (b', fo', fc')) ∧ Fo.OwnN w' (G + 1) (.slice fo' b'.fol.length fc') b'.fol)
theorem setB_cells {x : Sail} {a : SailA} {l : List Bkg} (h : l.length = x.bks.length) : C.sail x a = C.sail (P.setB x l) a := by
  show _ = #[_, _, _, _, _, _, _, _, _, _, _, Value.slice _ l.length _, _]
  rw [h]
  rfl
/-- The sailing behind it. -/
theorem change2_fin {w w1 w' : World} {p N m G k : Nat} {x : Sail} {a : SailA} {lv : List BkV} {b' : Bkg} {fo' : Option Addr} {fc' : Nat} (hF : Fresh w1 N m G x a lv) (hs : ∀ i, i < (W.sail w1 x a).heap.size → i ≠ G → w'.heap[i]? = (W.sail w1 x a).heap[i]?) (hb : Below m (W.sail w1 x a) w')
    (hO : OwnB w' m (.slice (some ⟨G, 0, none⟩) x.bks.length x.bks.length) (lv.set k (b', fo', fc'))) (he : Fo.OwnN w' (G + 1) (.slice fo' b'.fol.length fc') b'.fol) :
    SRow w' w1.heap.size (P.setB x (x.bks.set k b')) a ∧ ∀ U, Gap p w.heap.size N w' U → SailAt U (P.setB x (x.bks.set k b')) a := by
  have hG := hF.lt
  have hnm := hF.nm
  have hmG := hF.mG
  have hsz : (W.sail w1 x a).heap.size = w1.heap.size + 1 := by simp
  have hbs := sail_below w1 x a
  have hz := hb.size
  refine ⟨?_, fun U hU => ?_⟩
  · obtain ⟨t, ht⟩ := (RowIs.new w1 _ _ : SRow (W.sail w1 x a) w1.heap.size x a)
    have e := setB_cells (x := x) (a := a) (l := x.bks.set k b') (by simp)
    exact ⟨t, by rw [← e, hs w1.heap.size (by omega) (by omega)]; exact ht⟩
  · have hUz := hU.1
    obtain ⟨s1, s2⟩ := hF.low U (by omega) (fun c h1 h2 => by
      rw [hU.2 c (.inr h1) (by omega), hb.block c h2, hbs.block c (by omega)])
    refine ⟨s1, s2, ?_⟩
    have hOU := OwnC.up hO (w' := U) ⟨hUz, fun c h1 h2 => hU.2 c (.inr (by omega)) h2⟩
    have hent : ∀ y ∈ lv.set k (b', fo', fc'), Fo.EntsAt U y.2.1 y.2.2 y.1.fol := fun y hy => by
      rcases List.mem_or_eq_of_mem_set hy with h | rfl
      · exact ents_own (OwnC.up (hF.ent y h) ⟨by omega, fun c h1 h2 => by
          rw [hU.2 c (.inr (by omega)) (by omega), hs c (by omega) (by omega), hbs.block c h2]⟩)
      · exact ents_own (OwnC.up he ⟨hUz, fun c h1 h2 => hU.2 c (.inr (by omega)) h2⟩)
    have := BkVsAt.all (bkvs_of (own_at cellsV_len hOU) hent)
    rw [List.map_set, hF.map] at this
    rw [← hF.ao, ← hF.cap] at this
    exact this

set_option maxHeartbeats 4000000 in
theorem change2_how (p : Nat) (w : World) (x : Sail) (pf pa F k : Nat) (cs : Array Value) (b : Bkg) (T : Int → Bkg → Prop) (hf : w.cell? ⟨pf, 0, none⟩ = some (.func (.func F) #[] cs)) (ha : w.cell? ⟨pa, 0, none⟩ = some (.int .i64 k)) (hk : x.bks[k]? = some b) (h16 : x.bks.length ≤ 16)
    (hcf : ∀ (args : Array Value) (wx : World), (callFunc F args).run Tryz.prog wx = .ok (.enter F args) wx) (hL : LitOk w F cs b T) :
    HowOk p w x 118 #[.pointer (some ⟨pf, 0, none⟩), .pointer (some ⟨pa, 0, none⟩)] (fun r => ∃ b', T r b') (fun y => ∃ b', T 0 b' ∧ y = P.setB x (x.bks.set k b')) := by
  intro w1 N m G a lv hB1 hN hF
  have hkl : k < x.bks.length := (List.getElem?_eq_some_iff.1 hk).1
  have hln : lv.length = x.bks.length := by rw [← hF.map]; simp
  have hBs := bvia hB1 (sail_below w1 x a)
  have hBd := bvia hBs (dr _)
  have f1 := cellIn hBd hf
  have a1 := cellIn hBd ha
  have f0 := cellIn hBs hf
  have a0 := cellIn hBs ha
  obtain ⟨v, hv⟩ : ∃ v, lv[k]? = some v := ⟨lv[k]'(by omega), List.getElem?_eq_getElem (by omega)⟩
  have hvb : v.1 = b := by
    have h1 : (lv.map (·.1))[k]? = some v.1 := by rw [List.getElem?_map, hv]; rfl
    rw [hF.map, hk] at h1
    exact (Option.some.inj h1).symm
  obtain ⟨vb, fo, fc⟩ := v
  have hvb : vb = b := hvb
  subst hvb
  have hmem : (vb, fo, fc) ∈ lv := List.mem_of_getElem? hv
  have HC : Aside (Calls Tryz.prog F (#[.pointer (some ⟨G, k * 11, none⟩)] ++ cs) (W.sail w1 x a).drew _) := hL (W.sail w1 x a).drew m G x.bks.length k lv fo fc hBd (Nat.le_trans hN hF.nm) (OwnC.below hF.own (bvia (sail_below w1 x a) (dr _))) hln hv (OwnC.below (hF.ent _ hmem) (bvia (sail_below w1 x a) (dr _)))
  have d11 : (W.sail w1 x a).drew.cell? ⟨w1.heap.size, 11, none⟩ = some (.slice (some ⟨G, 0, none⟩) x.bks.length x.bks.length) := by
    have := ((RowIs.new w1 (C.sail x a) 32).below (dr _)).cell 11
    rw [show (C.sail x a)[11]? = some (.slice a.ao x.bks.length a.cap) from rfl, hF.ao, hF.cap] at this
    exact this
  have HFR : Aside (Fresh w1 N m G x a lv) := hF
  have hki : (k : Int) < x.bks.length := by omega
  clear hF hL hBs hBd hmem hv
  go_enter Tryz.func118, Tryz.ntmps118
  clear hvb
  go_wp2_with fail
  go_region_with (first | (refine HC.out.mono ?_; rintro e w2 ⟨r, b', rfl, hT, hsame, hb2, hO⟩))
  all_goals
    have HFIN : Aside (Below m (W.sail w1 x a) w2 ∧ (r = 0 → ∃ y a', SRow w2 w1.heap.size y a' ∧ (∃ b', T 0 b' ∧ y = P.setB x (x.bks.set k b')) ∧ ∀ U, Gap p w.heap.size N w2 U → SailAt U y a')) := by
      have hb3 : Below m (W.sail w1 x a) w2 := ((dr (W.sail w1 x a)).mono (by have := HFR.out.lt; have := HFR.out.mG; simp; omega)).trans hb2
      refine ⟨hb3, fun h0 => ?_⟩
      subst h0
      obtain ⟨fo', fc', o1, o2⟩ := hO rfl
      obtain ⟨q1, q2⟩ := change2_fin (w := w) (p := p) HFR.out (fun i hi hne => hsame i hi hne) hb3 o1 o2
      exact ⟨_, a, q1, ⟨b', hT, rfl⟩, q2⟩
    have HT : Aside (T r b') := hT
    clear hT hsame hb2 hO HC d11 f0 f1 a0 a1
    go_wp2
    go_ret
    exact ⟨r, rfl, ⟨b', HT.out⟩, HFIN.out.2, HFIN.out.1⟩

end Go.Proofs.YtlamhfbdeinkkaeGreat.St
namespace Go.Proofs.YtlamhfbdeinkkaeGreat.St
open Go.RowKit Bk
set_option linter.unusedSimpArgs false
set_option linter.unusedVariables false
set_option maxRecDepth 10000

set_option maxHeartbeats 2000000 in
theorem bkIdx_any (ao : Option Addr) (cap : Nat) (l : List Bkg) (F : Nat) (cs : Array Value) (p : Bkg → Bool) (w : World) (hl : BksAt w ao cap l)
    (hcf : ∀ (args : Array Value) (wx : World), (callFunc F args).run Tryz.prog wx = .ok (.enter F args) wx)
    (hp : Hid (∀ (x : Bkg) (fo : Option Addr) (fc : Nat) (wx : World), Below w.heap.size w wx → Calls Tryz.prog F (#[V.bk x fo fc] ++ cs) wx fun e w' => e = .returned (.bool (p x)) ∧ Below wx.heap.size wx w')) :
    Calls Tryz.prog 115 #[.slice ao l.length cap, .func (.func F) #[] cs] w fun e w' => ∃ n : Int, e = .returned (.int .i64 n) ∧ ((∃ (k : Nat) (b : Bkg), n = k ∧ l[k]? = some b ∧ p b = true) ∨ (n = -1 ∧ ∀ b ∈ l, p b = false)) ∧ Below w.heap.size w w' := by
  have hle := hl.le
  have hmx := hl.max
  unfold maxLen at hmx
  go_enter Tryz.func115, Tryz.ntmps115
  go_wp2
  go_loopg [8] l.length (fun g i wr => ∃ (k : Nat), k ≤ l.length ∧ g = l.length - k ∧ i = .int .i64 k ∧ Aside (∀ b ∈ l.take k, p b = false) ∧ Below w.heap.size w wr)
  case atStart => exact ⟨0, Nat.zero_le _, rfl, rfl, (fun b hb => by simp at hb), Below.refl _ _⟩
  case round =>
    obtain ⟨k, hk, rfl, rfl, HP, hB⟩ := hrel
    by_cases hlt : k < l.length
    · obtain ⟨b, off, x, fo, fc, rfl, hbw, hd, hy, hfy⟩ := BksAt.get hl hB k hlt
      have HX : Aside (l[k]? = some x) := by
        have := congrArg (fun l => l[0]?) hd
        show _ = _
        simpa using this
      have HT : Aside (l.take (k + 1) = l.take k ++ [x]) := take_snoc' hlt hd
      obtain ⟨y0, y1, y2, y3, y4, y5, y6, y7, y8, y9, y10⟩ := hy
      clear hd hfy
      cases hpf : p x
      · have HP2 : Aside (∀ b ∈ l.take (k + 1), p b = false) := fun b hb => by
          rw [HT.out] at hb
          rcases List.mem_append.1 hb with h | h
          · exact HP.out b h
          · simp at h
            rw [h]
            exact hpf
        go_wp2_with fail
        refine (hp.out x fo fc _ hB).mono ?_
        rintro e w1 ⟨rfl, hb1⟩
        rw [hpf]
        go_wp2
        go_roundg (l.length - (k + 1))
        case measure => omega
        case rel => exact ⟨k + 1, by omega, rfl, by go_num, HP2, bvia hB hb1⟩
      · have HPF : Aside (p x = true) := hpf
        go_wp2_with fail
        refine (hp.out x fo fc _ hB).mono ?_
        rintro e w1 ⟨rfl, hb1⟩
        rw [hpf]
        go_wp2
        go_ret
        exact ⟨_, rfl, .inl ⟨k, x, rfl, HX.out, HPF.out⟩, bvia hB hb1⟩
    · obtain rfl : k = l.length := by omega
      have HA : Aside (∀ b ∈ l, p b = false) := fun b hb => HP.out b (by rw [List.take_of_length_le (Nat.le_refl _)]; exact hb)
      go_wp2
      go_ret
      exact ⟨_, rfl, .inr ⟨rfl, HA.out⟩, hB⟩

set_option maxHeartbeats 1000000 in
theorem change1_any (id : Int) (G : Nat) (b : Bkg) (fo : Option Addr) (fc : Nat) (w : World) (hG : w.cell? ⟨G, 0, none⟩ = some (.int .i64 id)) :
    Calls Tryz.prog 116 (#[V.bk b fo fc] ++ #[.pointer (some ⟨G, 0, none⟩)]) w fun e w' => e = .returned (.bool (decide (b.id = id) && decide (b.state ≠ 3))) ∧ Below w.heap.size w w' := by
  show Calls Tryz.prog 116 #[V.bk b fo fc, .pointer (some ⟨G, 0, none⟩)] w _
  have hGl : G < w.heap.size := World.block_lt_of_cell? w _ hG
  obtain ⟨z0, z1, z2, z3, z4, z5, z6, z7, z8, z9, z10⟩ := BBox.new w b fo fc
  cases h1 : (b.id == id)
  · go_enter Tryz.func116, Tryz.ntmps116
    go_wp2
    go_ret
    exact ⟨ret_bool (by simp at h1; simp [h1]), by go_grown⟩
  · go_enter Tryz.func116, Tryz.ntmps116
    go_wp2
    go_ret
    exact ⟨ret_bool (by simp at h1; by_cases h3 : b.state = 3 <;> simp [h1, h3]), by go_grown⟩

/-- What a change answers. -/
def P.Chg (x : Sail) (id : Int) (T : Bkg → Int → Bkg → Prop) (r : Int) (y : Sail) : Prop :=
  (∃ q, P.SailE x q ∧ ¬ q = 0 ∧ r = q ∧ y = P.zeroS) ∨ (P.SailE x 0 ∧ ((P.LiveIs x.bks id (-1) ∧ r = 5 ∧ y = P.zeroS) ∨
    ∃ (k : Nat) (b : Bkg), P.LiveIs x.bks id k ∧ x.bks[k]? = some b ∧ P.Anew (fun r => ∃ b', T b r b') (fun y => ∃ b', T b 0 b' ∧ y = P.setB x (x.bks.set k b')) r y))
theorem change1_calls : ∀ (args : Array Value) (wx : World), (callFunc 116 args).run Tryz.prog wx = .ok (.enter 116 args) wx := enters_of Tryz.func116 (by kernel_rfl) rfl
theorem change2_calls : ∀ (args : Array Value) (wx : World), (callFunc 118 args).run Tryz.prog wx = .ok (.enter 118 args) wx := enters_of Tryz.func118 (by kernel_rfl) rfl

abbrev W.chg (w : World) (x : Sail) (a : SailA) (id : Int) (f : Value) : World :=
  (((w.alloc (.cells (C.sail x a) 96)).alloc (.cells #[.int .i64 id] 3)).alloc (.cells #[f] 99)).alloc O.zs
set_option maxHeartbeats 16000000 in
theorem change_any (x : Sail) (a : SailA) (id : Int) (F : Nat) (cs : Array Value) (T : Bkg → Int → Bkg → Prop) (w : World) (hs : SailAt w x a)
    (hcf : ∀ (args : Array Value) (wx : World), (callFunc F args).run Tryz.prog wx = .ok (.enter F args) wx) (hL : P.SailE x 0 → ∀ (k : Nat) (b : Bkg) (wx : World), Below w.heap.size w wx → P.LiveIs x.bks id k → x.bks[k]? = some b → LitOk wx F cs b (T b)) :
    Calls Tryz.prog 63 #[V.sail x a, .int .i64 id, .func (.func F) #[] cs] w fun e w' => ∃ r y a', e = .returned (.tuple #[V.sail y a', .int .i64 r]) ∧ P.Chg x id T r y ∧ SailUp w.heap.size w' y a' ∧ Below w.heap.size w w' := by
  have HS : Aside (SailAt w x a) := hs
  have HL : Aside (P.SailE x 0 → ∀ (k : Nat) (b : Bkg) (wx : World), Below w.heap.size w wx → P.LiveIs x.bks id k → x.bks[k]? = some b → LitOk wx F cs b (T b)) := hL
  have hb0 : Below w.heap.size w (W.chg w x a id (.func (.func F) #[] cs)) := bvia (al _ _) (bvia (al _ _) (bvia (al _ _) (al _ _)))
  have HX0 : Aside (SRow (W.chg w x a id (.func (.func F) #[] cs)) w.heap.size x a) := (((RowIs.new w (C.sail x a) 96).below (al _ _)).below (al _ _)).below (al _ _)
  have HI0 : Aside (RowIs (W.chg w x a id (.func (.func F) #[] cs)) (w.heap.size + 1) #[.int .i64 id]) := by
    have := ((RowIs.new (w.alloc (.cells (C.sail x a) 96)) #[.int .i64 id] 3).below (al _ (.cells #[.func (.func F) #[] cs] 99))).below (al _ O.zs)
    rwa [World.size_alloc] at this
  have HF0 : Aside (RowIs (W.chg w x a id (.func (.func F) #[] cs)) (w.heap.size + 1 + 1) #[.func (.func F) #[] cs]) := by
    have := (RowIs.new ((w.alloc (.cells (C.sail x a) 96)).alloc (.cells #[.int .i64 id] 3)) #[.func (.func F) #[] cs] 99).below (al _ O.zs)
    rwa [World.size_alloc, World.size_alloc] at this
  have HZ0 : Aside (RowIs (W.chg w x a id (.func (.func F) #[] cs)) (w.heap.size + 1 + 1 + 1) C.zs) := by
    have := RowIs.new (((w.alloc (.cells (C.sail x a) 96)).alloc (.cells #[.int .i64 id] 3)).alloc (.cells #[.func (.func F) #[] cs] 99)) C.zs 32
    rwa [World.size_alloc, World.size_alloc, World.size_alloc] at this
  clear hs hL
  obtain ⟨d0, d1, d2, d3, d4, d5, d6, d7, d8, d9, d10, d11, d12⟩ := SRow.box HX0.out
  go_enter Tryz.func63, Tryz.ntmps63
  go_wp2_with fail
  refine (stockCheck_any x a _ (HS.out.below hb0)).mono ?_
  rintro e w1 ⟨q, rfl, hq, hb1⟩
  have HQ : Aside (P.SailE x q) := hq
  have hB1 := bvia hb0 hb1
  have HX1 : Aside (SRow w1 w.heap.size x a) := HX0.out.below hb1
  have HI1 : Aside (RowIs w1 (w.heap.size + 1) #[.int .i64 id]) := HI0.out.below hb1
  have HF1 : Aside (RowIs w1 (w.heap.size + 1 + 1) #[.func (.func F) #[] cs]) := HF0.out.below hb1
  have HZ1 : Aside (RowIs w1 (w.heap.size + 1 + 1 + 1) C.zs) := HZ0.out.below hb1
  clear d0 d1 d2 d3 d4 d5 d6 d7 d8 d9 d10 d11 d12 HX0 HI0 HF0 HZ0 hb0 hb1 hq
  cases hz : (q != 0)
  rotate_left
  · have HN : Aside (¬ q = 0) := by show ¬ _; simpa using hz
    go_wp2_with ((with_reducible refine wpList_stO (w.heap.size + 1 + 1 + 1) C.zs (C.sail P.zeroS A.zeroS) ?_ ?_ ?_ HZ1.out ?_ ?_ ?_); exact Tryz.sizeSail; rfl; rfl; rfl; exact sail_one _ _; intro w9 hr9 hg9)
    exact bodyPost_ret (res2 rfl hr9 _ rfl rfl Tryz.underlying32 rfl Tryz.sizeSail) rfl ⟨q, P.zeroS, A.zeroS, rfl, .inl ⟨q, HQ.out, HN.out, rfl, rfl⟩, SailUp.zero _ _, below_gr hB1 hB1.size hg9 (by omega)⟩
  obtain rfl : q = 0 := by simpa using hz
  clear hz
  have h16 : x.bks.length ≤ 16 := (sail_ok HQ.out).2.2.2.2.1
  have i1 : w1.cell? ⟨w.heap.size + 1, 0, none⟩ = some (.int .i64 id) := HI1.out.cell 0
  have HIX : Aside (Calls Tryz.prog 115 #[.slice a.ao x.bks.length a.cap, .func (.func 116) #[] #[.pointer (some ⟨w.heap.size + 1, 0, none⟩)]] w1 _) :=
    bkIdx_any a.ao a.cap x.bks 116 #[.pointer (some ⟨w.heap.size + 1, 0, none⟩)] (fun b => decide (b.id = id) && decide (b.state ≠ 3)) w1 (SlAt.below RBk.mono HS.out.bks hB1) change1_calls (fun y yo yc wx hw => change1_any id (w.heap.size + 1) y yo yc wx (cellIn hw i1))
  have d11 : w1.cell? ⟨w.heap.size, 11, none⟩ = some (.slice a.ao x.bks.length a.cap) := HX1.out.cell 11
  clear i1
  go_wp2_with fail
  refine HIX.out.mono ?_
  rintro e w2 ⟨n, rfl, hn, hb2⟩
  have HN : Aside (P.LiveIs x.bks id n) := by
    rcases hn with ⟨k, b, rfl, h1, h2⟩ | ⟨rfl, h1⟩
    · simp only [Bool.and_eq_true, decide_eq_true_eq] at h2
      exact .inl ⟨k, b, rfl, h1, h2.1, h2.2⟩
    · refine .inr ⟨rfl, fun b hb hid => ?_⟩
      have h := h1 b hb
      by_cases h3 : b.state = 3
      · exact h3
      · simp [hid, h3] at h
  have HNX : Aside ((∃ (k : Nat) (b : Bkg), n = k ∧ x.bks[k]? = some b) ∨ n = -1) := by
    rcases hn with ⟨k, b, h1, h2, _⟩ | ⟨h1, _⟩
    · exact .inl ⟨k, b, h1, h2⟩
    · exact .inr h1
  have hba := al w2 (.cells #[.int .i64 n] 3)
  have hb3 := bvia hb2 hba
  have HBa : Aside (Below w.heap.size w (w2.alloc (.cells #[.int .i64 n] 3))) := bvia hB1 hb3
  have HX2 : Aside (SRow (w2.alloc (.cells #[.int .i64 n] 3)) w.heap.size x a) := HX1.out.below hb3
  have HF2 : Aside (RowIs (w2.alloc (.cells #[.int .i64 n] 3)) (w.heap.size + 1 + 1) #[.func (.func F) #[] cs]) := HF1.out.below hb3
  have HZ2 : Aside (RowIs (w2.alloc (.cells #[.int .i64 n] 3)) (w.heap.size + 1 + 1 + 1) C.zs) := HZ1.out.below hb3
  have HA2 : Aside (RowIs (w2.alloc (.cells #[.int .i64 n] 3)) w2.heap.size #[.int .i64 n]) := RowIs.new w2 _ _
  clear d11 hn hb2 hba hb3 HIX HX1 HI1 HF1 HZ1 hB1
  rcases HNX.out with ⟨k, b, rfl, hget⟩ | rfl
  rotate_left
  · go_wp2_with ((with_reducible refine wpList_stO (w.heap.size + 1 + 1 + 1) C.zs (C.sail P.zeroS A.zeroS) ?_ ?_ ?_ HZ2.out ?_ ?_ ?_); exact Tryz.sizeSail; rfl; rfl; rfl; exact sail_one _ _; intro w9 hr9 hg9)
    exact bodyPost_ret (res2 rfl hr9 _ rfl rfl Tryz.underlying32 rfl Tryz.sizeSail) rfl ⟨5, P.zeroS, A.zeroS, rfl, .inr ⟨HQ.out, .inl ⟨HN.out, rfl, rfl⟩⟩, SailUp.zero _ _, below_gr HBa.out HBa.out.size hg9 (by omega)⟩
  have HG : Aside (x.bks[k]? = some b) := hget
  have hk0 : ¬ (k : Int) < 0 := by omega
  have HH : Aside (HowOk (w2.alloc (.cells #[.int .i64 (k : Nat)] 3)).heap.size (w2.alloc (.cells #[.int .i64 (k : Nat)] 3)) x 118 #[.pointer (some ⟨w.heap.size + 1 + 1, 0, none⟩), .pointer (some ⟨w2.heap.size, 0, none⟩)] (fun r => ∃ b', T b r b') (fun y => ∃ b', T b 0 b' ∧ y = P.setB x (x.bks.set k b'))) :=
    change2_how _ _ x (w.heap.size + 1 + 1) w2.heap.size F k cs b (T b) (HF2.out.cell 0) (HA2.out.cell 0) hget h16 hcf (HL.out HQ.out k b _ HBa.out HN.out hget)
  clear hget hcf
  obtain ⟨d0, d1, d2, d3, d4, d5, d6, d7, d8, d9, d10, d11, d12⟩ := SRow.box HX2.out
  go_wp2_with fail
  refine (anew_any (w2.alloc (.cells #[.int .i64 (k : Nat)] 3)).heap.size x a 118 _ _ _ (w2.alloc (.cells #[.int .i64 (k : Nat)] 3)) (Nat.le_refl _) (HS.out.below HBa.out) (small_of HQ.out) change2_calls HH.out).mono ?_
  rintro e w5 ⟨r, y, a5, rfl, hA, hU5, hb5⟩
  have HA5 : Aside (P.Anew (fun r => ∃ b', T b r b') (fun y => ∃ b', T b 0 b' ∧ y = P.setB x (x.bks.set k b')) r y) := hA
  have HU5 : Aside (SailUp (w2.alloc (.cells #[.int .i64 (k : Nat)] 3)).heap.size w5 y a5) := hU5
  have HZ5 : Aside (RowIs w5 (w.heap.size + 1 + 1 + 1) C.zs) := HZ2.out.below hb5
  have HB5 : Aside (Below w.heap.size w w5) := bvia HBa.out hb5
  have hlt5 : w.heap.size + 1 + 1 + 1 < (w2.alloc (.cells #[.int .i64 (k : Nat)] 3)).heap.size := HZ2.out.lt
  clear d0 d1 d2 d3 d4 d5 d6 d7 d8 d9 d10 d11 d12 hA hU5 hb5 HH HX2 HF2 HZ2 HA2
  go_wp2_with ((with_reducible refine wpList_stO (w.heap.size + 1 + 1 + 1) C.zs (C.sail y a5) ?_ ?_ ?_ HZ5.out ?_ ?_ ?_); exact Tryz.sizeSail; rfl; rfl; rfl; exact sail_one _ _; intro w9 hr9 hg9)
  exact bodyPost_ret (res2 rfl hr9 _ rfl rfl Tryz.underlying32 rfl Tryz.sizeSail) rfl ⟨r, y, a5, rfl, .inr ⟨HQ.out, .inr ⟨k, b, HN.out, HG.out, HA5.out⟩⟩, SailUp.mono (SailUp.up HU5.out (Up.gr hg9 hlt5)) (by omega), below_gr HB5.out HB5.out.size hg9 (by omega)⟩

end Go.Proofs.YtlamhfbdeinkkaeGreat.St
namespace Go.Proofs.YtlamhfbdeinkkaeGreat.St
open Go.RowKit Bk
set_option linter.unusedSimpArgs false
set_option linter.unusedVariables false
set_option maxRecDepth 10000

/-- A store of one cell of an element. -/
theorem own_put1 {w : World} {base G cap n k j : Nat} {lv : List BkV} {y z : BkV} {v : Value} (h : OwnB w base (.slice (some ⟨G, 0, none⟩) n cap) lv) (hn : lv.length = n) (hk : lv[k]? = some y) (hj : j < 11) (hz : cellsV z = (cellsV y).set j v) :
    OwnB (w.setCell ⟨G, k * 11 + j, none⟩ v) base (.slice (some ⟨G, 0, none⟩) n cap) (lv.set k z) ∧ w.grownBy (w.setCell ⟨G, k * 11 + j, none⟩ v) (some G) := by
  subst hn
  obtain ⟨hkl, hky⟩ := List.getElem?_eq_some_iff.1 hk
  have hp := own_put cellsV_len cellsV_one h k z hkl
  rw [List.length_set] at hp
  obtain ⟨cur, h1, h2, h3, _⟩ := own_row h rfl (by omega)
  have hcur : ∃ A R, cur.toList = A ++ cellsV y ++ R ∧ A.length = k * 11 := by
    obtain ⟨hx, hor⟩ := h
    rcases hor with ⟨h4, _⟩ | ⟨g', cap', cur', hv, hgb, hh, hn', hcm, hsz, htk⟩
    · simp at h4
    · simp only [Value.slice.injEq, Option.some.injEq, Addr.mk.injEq, and_true] at hv
      obtain ⟨rfl, _, rfl⟩ := hv
      rw [h1] at hh
      simp only [Option.some.injEq, Obj.cells.injEq] at hh
      obtain rfl := hh.1
      refine ⟨(lv.take k).flatMap cellsV, (lv.drop (k + 1)).flatMap cellsV ++ cur.toList.drop (lv.length * 11), ?_, ?_⟩
      · have e : lv.flatMap cellsV = (lv.take k).flatMap cellsV ++ cellsV y ++ (lv.drop (k + 1)).flatMap cellsV := by
          have hd : lv = lv.take k ++ y :: lv.drop (k + 1) := by
            rw [← hky, ← List.drop_eq_getElem_cons hkl, List.take_append_drop]
          conv => lhs; rw [hd]
          rw [List.flatMap_append, List.flatMap_cons, List.append_assoc]
        rw [← List.append_assoc, ← e, ← htk, List.take_append_drop]
      · rw [flatC_len cellsV_len, List.length_take]
        omega
  obtain ⟨A, R, hc, hA⟩ := hcur
  have hY := cellsV_len y
  have hcl : cur.toList.length = cap * 11 := by simpa using h2
  have hcl2 : A.length + 11 + R.length = cap * 11 := by rw [hc] at hcl; simp [hY] at hcl; omega
  have hv1 : v.oneCell' = true := cellsV_one z v (by rw [hz]; exact List.mem_set (by omega) v)
  have e1 : w.setCell ⟨G, k * 11 + j, none⟩ v = w.setRow G (cur.toList.take (k * 11 + j) ++ [v] ++ cur.toList.drop (k * 11 + j + 1)).toArray :=
    setCells_row w G (k * 11 + j) _ [v] cur h1 (by simp; omega) (fun u hu => by simp at hu; rw [hu]; exact hv1)
  have e2 := setCells_row w G (k * 11) _ (cellsV z) cur h1 (by rw [cellsV_len]; omega) (cellsV_one z)
  have e3 : cur.toList.take (k * 11 + j) ++ [v] ++ cur.toList.drop (k * 11 + j + 1) = cur.toList.take (k * 11) ++ cellsV z ++ cur.toList.drop (k * 11 + (cellsV z).length) := by
    rw [cellsV_len, hc, hz, List.append_assoc A]
    have t1 : (A ++ (cellsV y ++ R)).take (k * 11 + j) = A ++ (cellsV y).take j := by
      rw [List.take_append, List.take_of_length_le (by omega), hA, Nat.add_sub_cancel_left, List.take_append, show j - (cellsV y).length = 0 by omega]
      simp
    have t2 : (A ++ (cellsV y ++ R)).drop (k * 11 + j + 1) = (cellsV y).drop (j + 1) ++ R := by
      rw [List.drop_append, List.drop_of_length_le (by omega), hA, List.nil_append, show k * 11 + j + 1 - k * 11 = j + 1 by omega, List.drop_append, show j + 1 - (cellsV y).length = 0 by omega]
      simp
    have t3 : (A ++ (cellsV y ++ R)).take (k * 11) = A := by
      rw [List.take_append, List.take_of_length_le (by omega), hA]
      simp
    have t4 : (A ++ (cellsV y ++ R)).drop (k * 11 + 11) = R := by
      rw [List.drop_append, List.drop_of_length_le (by omega), hA, List.nil_append, show k * 11 + 11 - k * 11 = 11 by omega, List.drop_append, List.drop_of_length_le (by omega), hY]
      simp
    rw [t1, t2, t3, t4, List.set_eq_take_append_cons_drop, if_pos (by omega)]
    simp [List.append_assoc]
  have e : w.setCell ⟨G, k * 11 + j, none⟩ v = w.setCells G (k * 11) (cellsV z) := by rw [e1, e2, e3]
  rw [e]
  exact hp
theorem own_cell {w : World} {base G cap n k : Nat} {lv : List BkV} {y : BkV} (h : OwnB w base (.slice (some ⟨G, 0, none⟩) n cap) lv) (hn : lv.length = n) (hk : lv[k]? = some y) (j : Nat) (hj : j < 11) : w.cell? ⟨G, k * 11 + j, none⟩ = (cellsV y)[j]? ∧ w.frozen? ⟨G, k * 11 + j, none⟩ = false := by
  obtain ⟨hkl, hky⟩ := List.getElem?_eq_some_iff.1 hk
  refine ⟨?_, (own_there h hn (by omega) j hj).2⟩
  have hs := own_at cellsV_len h
  obtain ⟨b', off, x, cs, h1, h2, h3, h4, h5, h6⟩ := SlAt.get (RC.mono _) hs (Below.refl _ _) k (by omega)
  have hx : x = y := by
    have h0 : lv[k]? = some x := by
      have := congrArg (fun l => l[0]?) h3
      simpa using this
    rw [hk] at h0
    exact (Option.some.inj h0).symm
  subst hx
  simp only [Option.some.injEq, Addr.mk.injEq, and_true] at h1
  obtain ⟨rfl, rfl⟩ := h1
  have hcs : cs = cellsV x := h4
  subst hcs
  have hl := cellsV_len x
  have := h6 j _ (List.getElem?_eq_getElem (by omega))
  rw [Nat.zero_add] at this
  rw [this, List.getElem?_eq_getElem (by omega)]

set_option maxHeartbeats 2000000 in
theorem sure1_lit (w : World) (b : Bkg) : LitOk w 64 #[] b (P.sureT b) := by
  intro U m G n k lv fo fc hB _ hO hn hk hE
  show Calls Tryz.prog 64 #[.pointer (some ⟨G, k * 11, none⟩)] U _
  have hkl : k < lv.length := (List.getElem?_eq_some_iff.1 hk).1
  have c2 : U.cell? ⟨G, k * 11 + 2, none⟩ = some (.int .i64 b.state) := (own_cell hO hn hk 2 (by decide)).1
  have f2 := (own_cell hO hn hk 2 (by decide)).2
  have c9 : U.cell? ⟨G, k * 11 + 9, none⟩ = some (.int .i64 b.til) := (own_cell hO hn hk 9 (by decide)).1
  have f9 := (own_cell hO hn hk 9 (by decide)).2
  have HO : Aside (OwnB U m (.slice (some ⟨G, 0, none⟩) n n) lv) := hO
  have HK : Aside (lv[k]? = some (b, fo, fc)) := hk
  have HN : Aside (lv.length = n) := hn
  have HE : Aside (Fo.OwnN U (G + 1) (.slice fo b.fol.length fc) b.fol) := hE
  have HKL : Aside (k < lv.length) := hkl
  obtain ⟨cur, r1, r2, r3, hGm⟩ := own_row hO hn (by omega)
  have hGU : G < U.heap.size := (Array.getElem?_eq_some_iff.1 r1).1
  clear hO hk hn hE hB r1 r2 r3 hkl
  cases hs1 : (b.state != 1)
  rotate_left
  · have HS : Aside (¬ b.state = 1) := by show ¬ _; simpa using hs1
    go_enter Tryz.func64, Tryz.ntmps64
    go_wp2
    go_ret
    exact ⟨4, b, rfl, ⟨by rw [if_neg HS.out], fun h => absurd h (by decide)⟩, fun i _ _ => rfl, Below.refl _ _, fun h => absurd h (by decide)⟩
  · have HS : Aside (b.state = 1) := by show _ = _; simpa using hs1
    obtain ⟨p1, p2⟩ := own_put1 (z := (⟨b.id, b.kind, 2, b.guests, b.level, b.cabin, b.cat, b.frm, b.to, b.til, b.fol⟩, fo, fc)) (v := .int .i64 2) HO.out HN.out HK.out (j := 2) (by decide) rfl
    obtain ⟨p3, p4⟩ := own_put1 (z := (P.sureB b, fo, fc)) (v := .int .i64 0) p1 (by rw [List.length_set]; exact HN.out) (List.getElem?_set_self HKL.out) (j := 9) (by decide) rfl
    have HP : Aside (OwnB ((U.setCell ⟨G, k * 11 + 2, none⟩ (.int .i64 2)).setCell ⟨G, k * 11 + 9, none⟩ (.int .i64 0)) m (.slice (some ⟨G, 0, none⟩) n n) (lv.set k (P.sureB b, fo, fc))) := by
      rw [List.set_set] at p3
      exact p3
    have HE2 : Aside (Fo.OwnN ((U.setCell ⟨G, k * 11 + 2, none⟩ (.int .i64 2)).setCell ⟨G, k * 11 + 9, none⟩ (.int .i64 0)) (G + 1) (.slice fo b.fol.length fc) b.fol) := by
      have h1 := OwnC.apart HE.out p2 (fun r e hv => by cases e; have := (HE.out.lt _ hv).1; omega)
      exact OwnC.apart h1 p4 (fun r e hv => by cases e; have := (h1.lt _ hv).1; omega)
    have HS2 : Aside (∀ i, i < U.heap.size → i ≠ G → ((U.setCell ⟨G, k * 11 + 2, none⟩ (.int .i64 2)).setCell ⟨G, k * 11 + 9, none⟩ (.int .i64 0)).heap[i]? = U.heap[i]?) := fun i hi hne => by
      rw [p4.block i (Nat.lt_of_lt_of_le hi p2.size) (by simp; omega), p2.block i hi (by simp; omega)]
    have HB2 : Aside (Below m U ((U.setCell ⟨G, k * 11 + 2, none⟩ (.int .i64 2)).setCell ⟨G, k * 11 + 9, none⟩ (.int .i64 0))) :=
      below_gr (below_gr (Below.refl m U) (by omega) p2 hGm) (Nat.le_trans (by omega) p2.size) p4 hGm
    clear p1 p2 p3 p4
    go_enter Tryz.func64, Tryz.ntmps64
    go_wp2
    go_ret
    exact ⟨0, P.sureB b, rfl, ⟨by rw [if_pos HS.out], fun _ => rfl⟩, HS2.out, HB2.out, fun _ => ⟨fo, fc, HP.out, HE2.out⟩⟩
theorem sure1_calls : ∀ (args : Array Value) (wx : World), (callFunc 64 args).run Tryz.prog wx = .ok (.enter 64 args) wx := enters_of Tryz.func64 (by kernel_rfl) rfl

end Go.Proofs.YtlamhfbdeinkkaeGreat.St
