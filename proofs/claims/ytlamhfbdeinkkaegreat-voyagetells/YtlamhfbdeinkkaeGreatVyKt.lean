/- The reference: CloseOf. -/
import Derived.Test.YtlamhfbdeinkkaeGreatVyJt
import Derived.Test.YtlamhfbdeinkkaeGreatVyGt
namespace Go.Proofs.YtlamhfbdeinkkaeGreat.St
open Go.RowKit Bk
set_option linter.unusedSimpArgs false
set_option linter.unusedVariables false
set_option maxRecDepth 10000

/-- The cabin that the next promise gets is the first with which all others can be kept. -/
theorem close_pick {x : Sail} {f : Nat → Int} {k c : Nat} {b : Bkg} (hE : P.SailE x 0) (hL : P.Lex (P.cnt x.bks) (P.pedg x.s x.bks 0 x.bks) f (P.cnt x.bks)) (hx : P.ext (P.cnt x.bks) (P.pedg x.s x.bks 0 x.bks) (P.cnt x.bks) f) (hk : x.bks[k]? = some b) (ho : P.opn b = true) (hc : c < x.s.bs.length) (hcf : (c : Int) ≤ f (P.cnt (x.bks.take k))) :
    (P.elC x.s (P.gv (P.cnt (x.bks.take k)) f x.bks) b c = true → Fit x ((P.gv (P.cnt (x.bks.take k)) f x.bks).set k (P.setC b c)) ∧ ∀ r, P.Room (P.setB x ((P.gv (P.cnt (x.bks.take k)) f x.bks).set k (P.setC b c))) r → (r = 0 ↔ (c : Int) = f (P.cnt (x.bks.take k)))) ∧ ((c : Int) = f (P.cnt (x.bks.take k)) → P.elC x.s (P.gv (P.cnt (x.bks.take k)) f x.bks) b c = true) := by
  obtain ⟨_, _, h0, hbk, _⟩ := sail_ok hE
  have hkl := (List.getElem?_eq_some_iff.1 hk).1
  have hsplit : x.bks = x.bks.take k ++ b :: x.bks.drop (k + 1) := (set_split (g := b) hk).1
  have hfil : x.bks.filter P.opn = (x.bks.take k).filter P.opn ++ b :: (x.bks.drop (k + 1)).filter P.opn := by
    conv => lhs; rw [hsplit]
    rw [List.filter_append, List.filter_cons, if_pos ho]
  have hq : P.cnt (x.bks.take k) < P.cnt x.bks := by
    rw [P.cnt, P.cnt, hfil]
    simp
  have hat : (x.bks.filter P.opn)[P.cnt (x.bks.take k)]? = some b := by
    rw [hfil, List.getElem?_append_right (by rw [P.cnt]; omega), P.cnt]
    simp
  generalize hqe : P.cnt (x.bks.take k) = q at hcf hq hat
  have hext : P.ext (P.cnt x.bks) (P.pedg x.s x.bks 0 x.bks) q f := ext_mono hx (by omega)
  have hF := Fit.gv hE (by omega) hext
  have hgb : (P.gv q f x.bks)[k]? = some b := by
    have h := giv_at (P.upto q f) x.bks 0 k b hk
    rw [if_pos ho, Nat.zero_add, hqe, show P.upto q f q = -1 by rw [P.upto, if_neg (by omega)]] at h
    have hbb : P.setC b (-1) = b := by rw [P.setC, ← open_none (hbk b (List.mem_of_getElem? hk)) ho]
    rw [hbb] at h
    exact h
  have hset : P.gv (q + 1) (P.up f q c) x.bks = (P.gv q f x.bks).set k (P.setC b c) := by
    have h := giv_set (P.up f q c) x.bks 0 k b hk ho
    rw [Nat.zero_add, hqe, show P.up f q c q = c by rw [P.up, if_pos rfl]] at h
    refine h.trans ?_
    congr 1
    exact giv_congr x.bks 0 (fun j _ _ => by
      rw [P.upto, P.upto]
      split
      · rw [P.up, if_neg (by omega)]
      · rfl)
  have hedge : P.elC x.s x.bks b c = true → ((q : Int), (c : Int)) ∈ P.pedg x.s x.bks 0 x.bks := fun h => pedg_in'.2 ⟨b, c, hat, rfl, hc, h⟩
  have hLq := hL q hq
  constructor
  · intro he
    have hel := (gv_elC (by omega)).1 he
    have hed := hedge hel.1
    refine ⟨Fit.give h0 hF hgb ho hc he, fun r hr => ?_⟩
    rw [(Fit.give h0 hF hgb ho hc he).room hr, ← hset, gv_full hbk (by omega) (fun i hi => by
      rcases Nat.lt_or_ge i q with h | h
      · rw [P.up, if_neg (by omega)]
        exact ext_edge hext (by omega) i h
      · obtain rfl : i = q := by omega
        rw [P.up, if_pos rfl]
        exact hed) (fun i j hi hj e => by
      rcases Nat.lt_or_ge i q with h | h <;> rcases Nat.lt_or_ge j q with h' | h'
      · rw [P.up, P.up, if_neg (by omega), if_neg (by omega)] at e
        exact lex_inj hext (by omega) i j h h' e
      · obtain rfl : j = q := by omega
        rw [P.up, P.up, if_neg (by omega), if_pos rfl] at e
        exact absurd e (hel.2 i h)
      · obtain rfl : i = q := by omega
        rw [P.up, P.up, if_pos rfl, if_neg (by omega)] at e
        exact absurd e.symm (hel.2 j h')
      · omega)]
    constructor
    · intro h
      rcases Int.lt_or_eq_of_le hcf with h1 | h1
      · exact absurd h (hLq.2.2 c hed h1)
      · exact h1
    · intro h
      refine (ext_congr (fun j hj => ?_)).1 hLq.2.1
      rw [P.up]
      split
      · next h1 => rw [h1, h]
      · rfl
  · intro h
    refine (gv_elC (by omega)).2 ⟨?_, fun j hj e => ?_⟩
    · obtain ⟨b2, d, h1, h2, h3, h4⟩ := pedg_in'.1 hLq.1
      rw [hat] at h1
      obtain rfl := Option.some.inj h1
      obtain rfl : c = d := by omega
      exact h4
    · have := lex_inj hx (Nat.le_refl _) j q (by omega) hq (by rw [e, h])
      omega

/-- Where CloseOf stands when q promises have cabins. -/
structure CloSt (n0 : Nat) (w : World) (x : Sail) (a : SailA) (l : List Bkg) (wr : World) : Prop where
  lv : ∃ lv ao cap, lv.map (·.1) = l ∧ BLies n0 (w.heap.size + 1 + 1) none wr ao cap lv ∧ SRow wr w.heap.size (P.setB x l) ⟨a.v, a.lo, a.bo, a.lc, a.bc, ao, cap⟩
  zs : RowIs wr (w.heap.size + 1) C.zs
  bl : Below w.heap.size w wr
theorem CloSt.below {n0 : Nat} {w : World} {x : Sail} {a : SailA} {l : List Bkg} {wr wr' : World} (h : CloSt n0 w x a l wr) (hb : Below wr.heap.size wr wr') : CloSt n0 w x a l wr' := by
  obtain ⟨lv, ao, cap, h1, h2, h3⟩ := h.lv
  exact ⟨⟨lv, ao, cap, h1, h2.below hb, h3.below hb⟩, h.zs.below hb, bvia h.bl hb⟩
theorem CloSt.next {n0 : Nat} {w : World} {x : Sail} {a : SailA} {l : List Bkg} {k G cap' m : Nat} {wr w8 w9 : World} {b g : Bkg} {lv : List BkV} {ao : Option Addr} {cap : Nat} {fo : Option Addr} {fc : Nat} (hn : n0 ≤ w.heap.size) (h : CloSt n0 w x a l wr) (hlen : l.length = x.bks.length)
    (hv1 : lv.map (·.1) = l) (hv2 : BLies n0 (w.heap.size + 1 + 1) none wr ao cap lv) (hv3 : lv[k]? = some (b, fo, fc)) (hgf : g.fol = b.fol) (hm : wr.heap.size ≤ m) (hb8 : Below wr.heap.size wr w8)
    (own8 : OwnB w8 m (.slice (some ⟨G, 0, none⟩) x.bks.length cap') (lv.set k (g, fo, fc)))
    (gr9 : w8.grownBy w9 (some w.heap.size)) (hr9 : SRow w9 w.heap.size (P.setB x (l.set k g)) ⟨a.v, a.lo, a.bo, a.lc, a.bc, some ⟨G, 0, none⟩, cap'⟩) : CloSt n0 w x a (l.set k g) w9 := by
  have hzl := h.zs.lt
  have hwl := h.bl.size
  have hs8 := hb8.size
  have hs9 := gr9.size
  have hL8 := hv2.below hb8
  have hG := own8.lt G rfl
  have hent : ∀ y ∈ lv.set k (g, fo, fc), Fo.EntsAt w8 y.2.1 y.2.2 y.1.fol ∧ ∀ b1 o1, y.2.1 = some ⟨b1, o1, none⟩ → 0 < y.1.fol.length → b1 < w8.heap.size ∧ some b1 ≠ none ∧ (b1 < n0 ∨ w.heap.size + 1 + 1 ≤ b1) := fun y hy => by
    rcases List.mem_or_eq_of_mem_set hy with hy | rfl
    · exact ⟨hL8.at_.ents y hy, hL8.ent y hy⟩
    · have hm' := List.mem_of_getElem? hv3
      refine ⟨?_, fun b1 o1 e4 hl1 => hL8.ent _ hm' b1 o1 e4 (by have hl1 : 0 < g.fol.length := hl1; rw [hgf] at hl1; exact hl1)⟩
      show Fo.EntsAt w8 fo fc g.fol
      rw [hgf]
      exact hL8.at_.ents _ hm'
  have hB8 : BLies n0 (w.heap.size + 1 + 1) none w8 (some ⟨G, 0, none⟩) cap' (lv.set k (g, fo, fc)) := by
    refine ⟨bkvs_of ?_ (fun y hy => (hent y hy).1), fun b1 o1 e1 _ => ?_, fun y hy => (hent y hy).2⟩
    · have hl : (lv.set k (g, fo, fc)).length = x.bks.length := by
        rw [List.length_set, ← List.length_map (f := fun y : BkV => y.1), hv1, hlen]
      exact own_at cellsV_len own8
    · simp only [Option.some.injEq, Addr.mk.injEq, and_true] at e1
      obtain ⟨rfl, rfl⟩ := e1
      exact ⟨hG.2, by simp, .inr (by omega)⟩
  exact ⟨⟨lv.set k (g, fo, fc), some ⟨G, 0, none⟩, cap', by rw [List.map_set, hv1], hB8.gr gr9 (by omega) (by omega), hr9⟩, (h.zs.below hb8).gr gr9 (by simp), below_gr (bvia h.bl hb8) (bvia h.bl hb8).size gr9 (Nat.le_refl _)⟩
theorem gv_here {x : Sail} {f : Nat → Int} {k : Nat} {b : Bkg} (hbk : ∀ b ∈ x.bks, P.bkE x.s b = 0) (hk : x.bks[k]? = some b) : (P.gv (P.cnt (x.bks.take k)) f x.bks)[k]? = some b := by
  have h := giv_at (P.upto (P.cnt (x.bks.take k)) f) x.bks 0 k b hk
  rw [Nat.zero_add, show P.upto (P.cnt (x.bks.take k)) f (P.cnt (x.bks.take k)) = -1 by rw [P.upto, if_neg (by omega)]] at h
  split at h
  · next ho =>
    have hbb : P.setC b (-1) = b := by rw [P.setC, ← open_none (hbk b (List.mem_of_getElem? hk)) ho]
    rw [hbb] at h
    exact h
  · exact h
theorem cnt_next {l : List Bkg} {k : Nat} {b : Bkg} (hk : l[k]? = some b) : P.cnt (l.take (k + 1)) = P.cnt (l.take k) + (if P.opn b = true then 1 else 0) := by
  obtain ⟨hkl, e⟩ := List.getElem?_eq_some_iff.1 hk
  rw [List.take_succ_eq_append_getElem hkl, e, P.cnt, P.cnt, List.filter_append, List.length_append, List.filter_cons]
  split <;> rfl
theorem gv_next {x : Sail} {f : Nat → Int} {k : Nat} {b : Bkg} (hk : x.bks[k]? = some b) (ho : P.opn b = true) : P.gv (P.cnt (x.bks.take (k + 1))) f x.bks = (P.gv (P.cnt (x.bks.take k)) f x.bks).set k (P.setC b (f (P.cnt (x.bks.take k)))) := by
  have h := giv_set f x.bks 0 k b hk ho
  rw [Nat.zero_add] at h
  rw [cnt_next hk, if_pos ho]
  exact h
theorem fit_adds {x : Sail} {l : List Bkg} {c : Nat} (h : Fit x l) (hc : c < x.s.bs.length) : P.addsB x.s.legs (P.mine (c : Nat) l) = true := by
  apply Classical.byContradiction
  intro hh
  have := twice_hit (x := P.setB x l) (c := c) hc (by show P.addsB x.s.legs (P.mine (c : Nat) l) = false; simpa using hh)
  rw [h.tw] at this
  cases this
theorem BLies.put {n0 N k G cap' m n : Nat} {wr w8 : World} {b g : Bkg} {lv : List BkV} {ao : Option Addr} {cap : Nat} {fo : Option Addr} {fc : Nat} (hv2 : BLies n0 N none wr ao cap lv) (hlen : lv.length = n) (hv3 : lv[k]? = some (b, fo, fc)) (hgf : g.fol = b.fol) (hm : N ≤ m) (hb8 : Below wr.heap.size wr w8) (own8 : OwnB w8 m (.slice (some ⟨G, 0, none⟩) n cap') (lv.set k (g, fo, fc))) : BLies n0 N none w8 (some ⟨G, 0, none⟩) cap' (lv.set k (g, fo, fc)) := by
  have hL8 := hv2.below hb8
  have hG := own8.lt G rfl
  refine ⟨bkvs_of ?_ (fun y hy => ?_), fun b1 o1 e1 _ => ?_, fun y hy => ?_⟩
  · exact own_at cellsV_len own8
  · rcases List.mem_or_eq_of_mem_set hy with hy | rfl
    · exact hL8.at_.ents y hy
    · show Fo.EntsAt w8 fo fc g.fol
      rw [hgf]
      exact hL8.at_.ents _ (List.mem_of_getElem? hv3)
  · simp only [Option.some.injEq, Addr.mk.injEq, and_true] at e1
    obtain ⟨rfl, rfl⟩ := e1
    exact ⟨hG.2, by simp, .inr (by omega)⟩
  · rcases List.mem_or_eq_of_mem_set hy with hy | rfl
    · exact hL8.ent y hy
    · intro b1 o1 e4 hl1
      exact hL8.ent _ (List.mem_of_getElem? hv3) b1 o1 e4 (by have hl1 : 0 < g.fol.length := hl1; rw [hgf] at hl1; exact hl1)
theorem BLies.cells {n0 N k bb off : Nat} {r : Option Nat} {wr : World} {b : Bkg} {lv : List BkV} {cap : Nat} {fo : Option Addr} {fc : Nat} (h : BLies n0 N r wr (some ⟨bb, off, none⟩) cap lv) (hz : lv[k]? = some (b, fo, fc)) : BkAt wr bb (off + k * 11) b fo fc ∧ bb < wr.heap.size := by
  obtain ⟨b2, o2, z, e, h1, hd, h2, _⟩ := BkVsAt.get h.at_ (Below.refl _ _) k (List.getElem?_eq_some_iff.1 hz).1
  simp only [Option.some.injEq, Addr.mk.injEq, and_true] at e
  obtain ⟨rfl, rfl⟩ := e
  have h0 := congrArg (fun l => l[0]?) hd
  have h3 : lv[k]? = some z := by simpa using h0
  rw [hz] at h3
  obtain rfl := Option.some.inj h3
  exact ⟨h2, h1⟩
theorem BLies.sail {n0 N : Nat} {w0 wr : World} {x : Sail} {a : SailA} {l : List Bkg} {ao : Option Addr} {cap : Nat} {lv : List BkV} (h : BLies n0 N none wr ao cap lv) (hs0 : SailAt w0 x a) (hb : Below w0.heap.size w0 wr) (hl : lv.map (·.1) = l) : SailAt wr (P.setB x l) ⟨a.v, a.lo, a.bo, a.lc, a.bc, ao, cap⟩ := by
  have h0 := hs0.below hb
  refine ⟨h0.ship, h0.fare, ?_⟩
  have := BkVsAt.all h.at_
  rw [hl] at this
  exact this

set_option maxHeartbeats 16000000 in
theorem closeOf_any (x : Sail) (a : SailA) (f : Nat → Int) (w0 w : World) (hb00 : Below w0.heap.size w0 w) (hs0 : SailAt w0 x a) (hE : P.SailE x 0) (hL : P.Lex (P.cnt x.bks) (P.pedg x.s x.bks 0 x.bks) f (P.cnt x.bks)) (hx : P.ext (P.cnt x.bks) (P.pedg x.s x.bks 0 x.bks) (P.cnt x.bks) f) :
    Calls Tryz.prog 36 #[V.sail x a] w fun e w' => ∃ a', e = .returned (V.sail (P.clS x (P.gv (P.cnt x.bks) f x.bks)) a') ∧ SailTw w0.heap.size w.heap.size w' (P.clS x (P.gv (P.cnt x.bks) f x.bks)) a' ∧ Below w.heap.size w w' := by
  have HE : Aside (P.SailE x 0) := hE
  have HLX : Aside (P.Lex (P.cnt x.bks) (P.pedg x.s x.bks 0 x.bks) f (P.cnt x.bks)) := hL
  have HXT : Aside (P.ext (P.cnt x.bks) (P.pedg x.s x.bks 0 x.bks) (P.cnt x.bks) f) := hx
  obtain ⟨_, _, h0, hbk, h16, _⟩ := sail_ok hE
  obtain ⟨hl1, hl7, _, _, _, _, _, hbs⟩ := shp_size h0
  have HSL : Aside (P.sails x.s.legs = true) := by show _ = _; simp [P.sails]; omega
  have HBK : Aside (∀ b ∈ x.bks, P.bkE x.s b = 0) := hbk
  have H0 : Aside (P.shp x.s = 0) := h0
  have HS0 : Aside (SailAt w0 x a) := hs0
  have HB00 : Aside (Below w0.heap.size w0 w) := hb00
  have hn0 := hb00.size
  have hb0 : Below w.heap.size w ((W.sail w x a).alloc O.zs) := bvia (sail_below w x a) (al _ _)
  have HST : Aside (CloSt w0.heap.size w x a (P.gv 0 f x.bks) ((W.sail w x a).alloc O.zs)) := by
    have e0 : P.gv 0 f x.bks = x.bks := giv_none x.bks (fun b hb ho => open_none (hbk b hb) ho) 0 (fun j _ => by rw [P.upto, if_neg (by omega)])
    rw [e0]
    obtain ⟨lv, hlv, hl⟩ := BksAt.pick hs0.bks
    refine ⟨⟨lv, a.ao, a.cap, hlv, ⟨SlAt.below RBkV.mono hl (hb00.trans (hb0.mono hn0)), fun b o e h0 => ?_, fun y hy b o e h0 => ?_⟩, (RowIs.new w _ _ : SRow (W.sail w x a) w.heap.size x a).below (al _ _)⟩, ?_, hb0⟩
    · obtain ⟨b2, o2, e1, e2, _⟩ := hl.cells h0
      rw [e] at e1
      simp only [Option.some.injEq, Addr.mk.injEq, and_true] at e1
      obtain ⟨rfl, rfl⟩ := e1
      have := hb0.size
      exact ⟨by omega, by simp, .inl e2⟩
    · have e2 := ents_lt (hl.ents y hy) h0 e
      have := hb0.size
      exact ⟨by omega, by simp, .inl e2⟩
    · have := RowIs.new (W.sail w x a) C.zs 32
      rwa [World.size_alloc] at this
  clear hb00 hs0 hE hb0 hbk h0 hL hx hl1 hl7
  go_enter Tryz.func36, Tryz.ntmps36
  go_wp2
  go_loopg [3] x.bks.length (fun q iv wr => ∃ (k : Nat), k ≤ x.bks.length ∧ q = x.bks.length - k ∧ iv = .int .i64 k ∧ Aside (CloSt w0.heap.size w x a (P.gv (P.cnt (x.bks.take k)) f x.bks) wr))
  case atStart => exact ⟨0, Nat.zero_le _, rfl, rfl, HST⟩
  case round =>
    clear HST
    obtain ⟨k, hk, rfl, rfl, HST⟩ := hrel
    obtain ⟨lv, ao, cap, hv1, hv2, hrow⟩ := HST.out.lv
    have hlen : (P.gv (P.cnt (x.bks.take k)) f x.bks).length = x.bks.length := giv_len _ _ _
    have d11 : wr.cell? ⟨w.heap.size, 11, none⟩ = some (.slice ao (P.gv (P.cnt (x.bks.take k)) f x.bks).length cap) := hrow.cell 11
    rw [hlen] at d11
    have HR : Aside (SRow wr w.heap.size (P.setB x (P.gv (P.cnt (x.bks.take k)) f x.bks)) ⟨a.v, a.lo, a.bo, a.lc, a.bc, ao, cap⟩) := hrow
    have HV1 : Aside (lv.map (·.1) = P.gv (P.cnt (x.bks.take k)) f x.bks) := hv1
    have HV2 : Aside (BLies w0.heap.size (w.heap.size + 1 + 1) none wr ao cap lv) := hv2
    by_cases hlt : k < x.bks.length
    rotate_left
    · obtain rfl : k = x.bks.length := by omega
      clear hv1 hv2 hrow hlen
      go_upto_region 15 with (fail)
      clear d11
      have htl : x.bks.take x.bks.length = x.bks := List.take_length
      rw [htl] at HR HV1 HST
      have hw0 := HST.out.bl.size
      have hzz := HST.out.zs.lt
      have hg12 := grown_st wr w.heap.size 12 (.bool true)
      have HG12 := asv hg12
      have HZ := asv (HST.out.zs.gr hg12 (by simp))
      have f12 := HR.out.free 12
      obtain ⟨d0, d1, d2, d3, d4, d5, d6, d7, d8, d9, d10, d11, d12⟩ := SRow.box HR.out
      have hs12 := hg12.size
      clear hg12 htl
      go_wp2_with ((with_reducible refine wpList_stO (w.heap.size + 1) C.zs (C.sail (P.clS x (P.gv (P.cnt x.bks) f x.bks)) ⟨a.v, a.lo, a.bo, a.lc, a.bc, ao, cap⟩) ?_ ?_ ?_ HZ.out ?_ ?_ ?_); exact Tryz.sizeSail; rfl; rfl; rfl; exact sail_one _ _; intro w9 hr9 hg9)
      have hL9 := (HV2.out.gr HG12.out (by omega) (by omega)).gr hg9 (by omega) (by omega)
      have hB9 := below_gr (below_gr HST.out.bl HST.out.bl.size HG12.out (Nat.le_refl _)) (by omega) hg9 (by omega)
      refine bodyPost_ret (res1 rfl hr9 _ rfl Tryz.underlying32 rfl Tryz.sizeSail) rfl ⟨⟨a.v, a.lo, a.bo, a.lc, a.bc, ao, cap⟩, rfl, fun U hU => ?_, hB9⟩
      have hBU : Below w0.heap.size w0 U := (HB00.out.trans (hB9.mono hn0)).trans hU.1
      refine ⟨(HS0.out.below hBU).ship, (HS0.out.below hBU).fare, ?_⟩
      have hb := (hL9.on (r' := none) hU.1.size (fun b h1 h2 h3 => ⟨by
        rcases h3 with h3 | h3
        · exact hU.1.block b h3
        · exact hU.2 b (by omega) h1, by simp⟩)).at_
      have := BkVsAt.all hb
      rw [HV1.out] at this
      exact this
    have hlt2 : (k : Int) < x.bks.length := by omega
    obtain ⟨b, hb⟩ : ∃ b, x.bks[k]? = some b := ⟨x.bks[k], List.getElem?_eq_getElem hlt⟩
    have HBG : Aside (x.bks[k]? = some b) := hb
    have hvl : lv.length = x.bks.length := by
      have := congrArg List.length hv1
      rw [List.length_map] at this
      exact this.trans hlen
    obtain ⟨bb, off, z, hao, hbw, hdr, ⟨q0, q1, q2, q3, q4, q5, q6, q7, q8, q9, q10⟩, hfe⟩ := BkVsAt.get hv2.at_ (Below.refl _ _) k (by omega)
    have hz : lv[k]? = some z := by
      have h0 := congrArg (fun l => l[0]?) hdr
      simpa using h0
    have hzb : z.1 = b := by
      have h6 : (lv.map (·.1))[k]? = some z.1 := by rw [List.getElem?_map, hz]; rfl
      rw [hv1, gv_here HBK.out hb] at h6
      exact (Option.some.inj h6).symm
    obtain ⟨zb, fo, fc⟩ := z
    have hzb : zb = b := hzb
    subst hzb
    subst hao
    have HV3 : Aside (lv[k]? = some (zb, fo, fc)) := hz
    have HFE : Aside (Fo.EntsAt wr fo fc zb.fol) := hfe
    have hbl : bb < wr.heap.size := hbw
    clear hb hv1 hv2 hrow hlen hvl hdr hz hfe hbw
    go_wp2_with fail
    refine (isOpen_any zb fo fc _).mono ?_
    rintro e w1 ⟨rfl, hb1⟩
    have HB1 := asv hb1
    clear q0 q1 q2 q3 q4 q5 q6 q7 q8 q9 q10 d11 hb1
    cases ho : P.opn zb
    · have HNX := asv (HST.out.below HB1.out)
      have hcn : P.cnt (x.bks.take (k + 1)) = P.cnt (x.bks.take k) := by rw [cnt_next HBG.out, ho]; rfl
      rw [← hcn] at HNX
      clear hcn
      go_wp2
      go_roundg (x.bks.length - (k + 1))
      case measure => omega
      case rel => exact ⟨k + 1, by omega, rfl, by go_num, HNX⟩
    obtain ⟨wo, rfl⟩ : ∃ wo : World, wo = wr := ⟨_, rfl⟩
    have HOP : Aside (P.opn zb = true) := ho
    have HFQ : Aside (P.ext (P.cnt x.bks) (P.pedg x.s x.bks 0 x.bks) (P.cnt (x.bks.take k)) f ∧ ∃ m : Nat, f (P.cnt (x.bks.take k)) = (m : Int) ∧ m < x.s.bs.length) := by
      have hqn : P.cnt (x.bks.take k) < P.cnt x.bks := by
        have h1 := cnt_next HBG.out
        rw [if_pos ho] at h1
        have h2 : P.cnt (x.bks.take (k + 1)) ≤ P.cnt x.bks := by
          rw [P.cnt, P.cnt]
          exact ((List.take_sublist (k + 1) x.bks).filter P.opn).length_le
        omega
      have h3 := asg_low (HLX.out _ hqn).1
      exact ⟨ext_mono HXT.out (by omega), (f (P.cnt (x.bks.take k))).toNat, by omega, by omega⟩
    obtain ⟨hex, m, hfm, hml⟩ := HFQ.out
    have HFI := asv (Fit.gv HE.out (q := P.cnt (x.bks.take k)) (by
      rw [P.cnt, P.cnt]
      exact ((List.take_sublist k x.bks).filter P.opn).length_le) hex)
    have HFM := asv hfm
    have HCAT : Aside (0 ≤ zb.cat ∧ zb.cat < x.s.cs.length) := open_prom (HBK.out zb (List.mem_of_getElem? HBG.out)) ho
    have hwo := HST.out.zs.lt
    have hgl : (P.gv (P.cnt (x.bks.take k)) f x.bks).length = x.bks.length := giv_len _ _ _
    have HGL := asv hgl
    have HGH := asv (gv_here (f := f) HBK.out HBG.out)
    have HGN := asv (gv_next (f := f) HBG.out HOP.out)
    have HPK := asv (fun (c : Nat) (hc : c < x.s.bs.length) (hcf : (c : Int) ≤ f (P.cnt (x.bks.take k))) => close_pick HE.out HLX.out HXT.out HBG.out HOP.out hc hcf)
    generalize P.gv (P.cnt (x.bks.take k)) f x.bks = l at HR HV1 HST HFI HGL HGH HGN HPK hgl
    have d11 : w1.cell? ⟨w.heap.size, 11, none⟩ = some (.slice (some ⟨bb, off, none⟩) l.length cap) := (HR.out.below HB1.out).cell 11
    have d3 : w1.cell? ⟨w.heap.size, 3, none⟩ = some (.slice a.v.bao x.s.bs.length a.v.bc) := (HR.out.below HB1.out).cell 3
    have hkl : (k : Int) < (l.length : Int) := by omega
    clear ho hex hgl
    go_wp2
    clear d11 d3
    go_loopg [4] x.s.bs.length (fun g cv wx => ∃ c : Nat, c ≤ m ∧ g = x.s.bs.length - c ∧ cv = .int .i64 c ∧ Aside (Below wo.heap.size wo wx))
    case atStart => exact ⟨0, Nat.zero_le _, rfl, rfl, HB1⟩
    case round =>
      clear HB1
      obtain ⟨c, hcm, rfl, rfl, HBX⟩ := hrel
      have hcl : c < x.s.bs.length := by omega
      have HPC := asv (HPK.out c hcl (by rw [HFM.out]; omega))
      have HMC : Aside (P.cabB x.s c = true) := by show _ = _; exact cabB_in (by omega) (by omega)
      have HRX := asv (HR.out.below HBX.out)
      have HVX := asv (HV2.out.below HBX.out)
      have hszr : wo.heap.size ≤ wr.heap.size := HBX.out.size
      have HBA : Aside (BksAt wr (some ⟨bb, off, none⟩) cap l) := by
        have := BkVsAt.all HVX.out.at_
        rw [HV1.out] at this
        exact this
      have d11 : wr.cell? ⟨w.heap.size, 11, none⟩ = some (.slice (some ⟨bb, off, none⟩) l.length cap) := HRX.out.cell 11
      have d3 : wr.cell? ⟨w.heap.size, 3, none⟩ = some (.slice a.v.bao x.s.bs.length a.v.bc) := HRX.out.cell 3
      go_wp2_with fail
      refine (spansOf_any x.s.legs (some ⟨bb, off, none⟩) cap l c _ HBA.out HSL.out (fun b hb => (bk_ok (HFI.out.bk b hb)).1)).mono ?_
      rintro e w2 ⟨v2, rfl, own2, hb2⟩
      have HBX2 := asv (HBX.out.trans (hb2.mono hszr))
      have HR2 := asv (HRX.out.below hb2)
      have HW2 := asv (HVX.out.below hb2)
      have hsz2 : wo.heap.size ≤ w2.heap.size := HBX2.out.size
      clear d11 d3 hb2
      by_cases hmn : P.mine c l = []
      rotate_left
      · have had := fit_adds HFI.out hcl
        have hln : 0 < (P.addsL x.s.legs [] (P.mine c l)).length := by
          rw [adds_len (by simpa [P.addsB] using had)]
          have := List.length_pos_iff.2 hmn
          simp; omega
        have hel : P.elC x.s l zb c = false := by simp [P.elC, hmn]
        have hne : ¬ c = m := fun e => by
          have := HPC.out.2 (by rw [HFM.out, e])
          rw [hel] at this
          cases this
        rw [had]
        obtain ⟨a2, c2, hvv, -⟩ := Sp.Own.at own2
        rw [hvv]
        generalize (P.addsL x.s.legs [] (P.mine c l)).length = nl at hln hvv
        have hdl : decide ((0 : Int) < (nl : Int)) = true := by simp; omega
        clear own2 hvv hmn had hel
        go_upto_region 9 with (fail)
        go_quiet (fail)
        go_wp2
        go_roundg (x.s.bs.length - (c + 1))
        case measure => omega
        case rel => exact ⟨c + 1, by omega, by go_num, by go_num, below_drewN HBX2.out _⟩
      have HAD : Aside (P.addsB x.s.legs (P.mine c l) = true) := by show _ = _; rw [hmn]; rfl
      have HAL : Aside (P.addsL x.s.legs [] (P.mine c l) = []) := by show _ = _; rw [hmn]; rfl
      have HEL : Aside (P.elC x.s l zb c = P.elig x.s zb c) := by show _ = _; simp [P.elC, hmn]
      rw [HAD.out]
      rw [HAL.out] at own2
      obtain ⟨a2, c2, rfl, -⟩ := Sp.Own.at own2
      clear own2 hmn HAD HAL
      have d0 : w2.cell? ⟨w.heap.size, 0, none⟩ = some (.int .i64 x.s.legs) := HR2.out.cell 0
      have d1 : w2.cell? ⟨w.heap.size, 1, none⟩ = some (.int .i64 x.s.souls) := HR2.out.cell 1
      have d2 : w2.cell? ⟨w.heap.size, 2, none⟩ = some (.slice a.v.cao x.s.cs.length a.v.cc) := HR2.out.cell 2
      have d3 : w2.cell? ⟨w.heap.size, 3, none⟩ = some (.slice a.v.bao x.s.bs.length a.v.bc) := HR2.out.cell 3
      have d11 : w2.cell? ⟨w.heap.size, 11, none⟩ = some (.slice (some ⟨bb, off, none⟩) l.length cap) := HR2.out.cell 11
      obtain ⟨⟨q0, q1, q2, q3, q4, q5, q6, q7, q8, q9, q10⟩, hbl2⟩ := HW2.out.cells HV3.out
      go_upto_region 9 with (fail)
      go_region_held3 (fun u => u.cell? ⟨w.heap.size, 0, none⟩ = some (.int .i64 x.s.legs) ∧ u.cell? ⟨w.heap.size, 1, none⟩ = some (.int .i64 x.s.souls) ∧ u.cell? ⟨w.heap.size, 2, none⟩ = some (.slice a.v.cao x.s.cs.length a.v.cc) ∧ u.cell? ⟨w.heap.size, 3, none⟩ = some (.slice a.v.bao x.s.bs.length a.v.bc) ∧ u.cell? ⟨w.heap.size, 11, none⟩ = some (.slice (some ⟨bb, off, none⟩) l.length cap) ∧ u.cell? ⟨bb, off + k * 11, none⟩ = some (.int .i64 zb.id) ∧ u.cell? ⟨bb, off + k * 11 + 1, none⟩ = some (.int .i64 zb.kind) ∧ u.cell? ⟨bb, off + k * 11 + 2, none⟩ = some (.int .i64 zb.state) ∧ u.cell? ⟨bb, off + k * 11 + 3, none⟩ = some (.int .i64 zb.guests) ∧ u.cell? ⟨bb, off + k * 11 + 4, none⟩ = some (.bool zb.level) ∧ u.cell? ⟨bb, off + k * 11 + 5, none⟩ = some (.int .i64 zb.cabin) ∧ u.cell? ⟨bb, off + k * 11 + 6, none⟩ = some (.int .i64 zb.cat) ∧ u.cell? ⟨bb, off + k * 11 + 7, none⟩ = some (.int .i64 zb.frm) ∧ u.cell? ⟨bb, off + k * 11 + 8, none⟩ = some (.int .i64 zb.to) ∧ u.cell? ⟨bb, off + k * 11 + 9, none⟩ = some (.int .i64 zb.til) ∧ u.cell? ⟨bb, off + k * 11 + 10, none⟩ = some (.slice fo zb.fol.length fc))
        (first
          | with_reducible exact ⟨ed0, ed1, ed2, ed3, ed11, eq0, eq1, eq2, eq3, eq4, eq5, eq6, eq7, eq8, eq9, eq10⟩
          | with_reducible exact ⟨d0, d1, d2, d3, d11, q0, q1, q2, q3, q4, q5, q6, q7, q8, q9, q10⟩
          | go_keep)
        (first | (go_at_call 91; refine (isEligible_any x.s a.v zb fo fc c _ ((HS0.out.below (HB00.out.trans ((bvia (bvia HST.out.bl HBX2.out) (by go_grown)).mono hn0))).ship) H0.out HMC.out HCAT.out).mono ?_; rintro e w3 ⟨rfl, hb3'⟩; have hb3 : Below w2.heap.size w2 w3 := bvia (by go_grown) hb3'; have ed0 := cellIn hb3 d0; have ed1 := cellIn hb3 d1; have ed2 := cellIn hb3 d2; have ed3 := cellIn hb3 d3; have ed11 := cellIn hb3 d11; have eq0 := cellIn hb3 q0; have eq1 := cellIn hb3 q1; have eq2 := cellIn hb3 q2; have eq3 := cellIn hb3 q3; have eq4 := cellIn hb3 q4; have eq5 := cellIn hb3 q5; have eq6 := cellIn hb3 q6; have eq7 := cellIn hb3 q7; have eq8 := cellIn hb3 q8; have eq9 := cellIn hb3 q9; have eq10 := cellIn hb3 q10))
      have HBX3 := asv (HBX2.out.trans (hb3.mono hsz2))
      have HR3 := asv (HR2.out.below hb3)
      have HW3 := asv (HW2.out.below hb3)
      have hsz3 : wo.heap.size ≤ w3.heap.size := HBX3.out.size
      clear hb3 hb3' hbl2 d0 d1 d2 d3 d11 q0 q1 q2 q3 q4 q5 q6 q7 q8 q9 q10 ed0 ed1 ed2 ed3 ed11 eq0 eq1 eq2 eq3 eq4 eq5 eq6 eq7 eq8 eq9 eq10
      cases hel : P.elig x.s zb c
      · have hne : ¬ c = m := fun e => by
          have := HPC.out.2 (by rw [HFM.out, e])
          rw [HEL.out, hel] at this
          cases this
        go_wp2
        go_roundg (x.s.bs.length - (c + 1))
        case measure => omega
        case rel => exact ⟨c + 1, by omega, by go_num, by go_num, HBX3⟩
      have HGO := asv (HPC.out.1 (by rw [HEL.out]; exact hel))
      clear hel
      have d0 : w3.cell? ⟨w.heap.size, 0, none⟩ = some (.int .i64 x.s.legs) := HR3.out.cell 0
      have d1 : w3.cell? ⟨w.heap.size, 1, none⟩ = some (.int .i64 x.s.souls) := HR3.out.cell 1
      have d2 : w3.cell? ⟨w.heap.size, 2, none⟩ = some (.slice a.v.cao x.s.cs.length a.v.cc) := HR3.out.cell 2
      have d3 : w3.cell? ⟨w.heap.size, 3, none⟩ = some (.slice a.v.bao x.s.bs.length a.v.bc) := HR3.out.cell 3
      have d4 : w3.cell? ⟨w.heap.size, 4, none⟩ = some (.slice a.lo x.L.length a.lc) := HR3.out.cell 4
      have d5 : w3.cell? ⟨w.heap.size, 5, none⟩ = some (.int .i64 x.al) := HR3.out.cell 5
      have d6 : w3.cell? ⟨w.heap.size, 6, none⟩ = some (.int .i64 x.th) := HR3.out.cell 6
      have d7 : w3.cell? ⟨w.heap.size, 7, none⟩ = some (.slice a.bo x.B.length a.bc) := HR3.out.cell 7
      have d8 : w3.cell? ⟨w.heap.size, 8, none⟩ = some (.int .i64 x.dn) := HR3.out.cell 8
      have d9 : w3.cell? ⟨w.heap.size, 9, none⟩ = some (.int .i64 x.day) := HR3.out.cell 9
      have d10 : w3.cell? ⟨w.heap.size, 10, none⟩ = some (.int .i64 x.lvs) := HR3.out.cell 10
      have d11 : w3.cell? ⟨w.heap.size, 11, none⟩ = some (.slice (some ⟨bb, off, none⟩) l.length cap) := HR3.out.cell 11
      have d12 : w3.cell? ⟨w.heap.size, 12, none⟩ = some (.bool x.cl) := HR3.out.cell 12
      obtain ⟨⟨q0, q1, q2, q3, q4, q5, q6, q7, q8, q9, q10⟩, hbl3⟩ := HW3.out.cells HV3.out
      have hw3 : w.heap.size < w3.heap.size := HR3.out.lt
      go_wp2_with fail
      change Calls Tryz.prog _ _ (W.bk w3 (P.setC zb c) fo fc) _
      have HB4 : Aside (Below w3.heap.size w3 (W.bk w3 (P.setC zb c) fo fc)) := bk_below w3 (P.setC zb c) fo fc
      generalize hW4 : W.bk w3 (P.setC zb c) fo fc = w4 at HB4 ⊢
      refine (setBooking_own (P.setB x l) ⟨a.v, a.lo, a.bo, a.lc, a.bc, some ⟨bb, off, none⟩, cap⟩ lv k (P.setC zb c) fo fc w4 HV1.out (HW3.out.below HB4.out).at_.plain (by show l.length ≤ 16; have := HGL.out; omega) (by show k < l.length; have := HGL.out; omega)).mono ?_
      rintro e w5 ⟨G, cap', rfl, own5, hb5⟩
      have h34 := HB4.out.size
      have h45 := hb5.size
      have HB5 := asv (HBX3.out.trans ((bvia HB4.out hb5).mono hsz3))
      have HW5 := asv ((HW3.out.below HB4.out).put (g := P.setC zb c) (n := l.length) (m := w4.heap.size) (by rw [← HV1.out, List.length_map]) HV3.out rfl (by omega) hb5 own5)
      have HO5 := asv own5
      have hsz5 : wo.heap.size ≤ w5.heap.size := HB5.out.size
      have HY2 : Aside (RowIs (W.sail w5 (P.setB x (l.set k (P.setC zb c))) ⟨a.v, a.lo, a.bo, a.lc, a.bc, some ⟨G, 0, none⟩, cap'⟩) w5.heap.size (C.sail (P.setB x (l.set k (P.setC zb c))) ⟨a.v, a.lo, a.bo, a.lc, a.bc, some ⟨G, 0, none⟩, cap'⟩)) := RowIs.new w5 _ _
      clear own5 hb5 hW4 hbl3 d0 d1 d2 d3 d4 d5 d6 d7 d8 d9 d10 d11 d12 q0 q1 q2 q3 q4 q5 q6 q7 q8 q9 q10
      go_wp2_with fail
      change Calls Tryz.prog _ #[V.sail (P.setB x (l.set k (P.setC zb c))) ⟨a.v, a.lo, a.bo, a.lc, a.bc, some ⟨G, 0, none⟩, cap'⟩] (W.sail w5 (P.setB x (l.set k (P.setC zb c))) ⟨a.v, a.lo, a.bo, a.lc, a.bc, some ⟨G, 0, none⟩, cap'⟩) _
      have HBS : Aside (Below w5.heap.size w5 (W.sail w5 (P.setB x (l.set k (P.setC zb c))) ⟨a.v, a.lo, a.bo, a.lc, a.bc, some ⟨G, 0, none⟩, cap'⟩)) := sail_below w5 _ _
      generalize W.sail w5 (P.setB x (l.set k (P.setC zb c))) ⟨a.v, a.lo, a.bo, a.lc, a.bc, some ⟨G, 0, none⟩, cap'⟩ = w7 at HY2 HBS ⊢
      have HB7 := asv (HB5.out.trans (HBS.out.mono hsz5))
      refine (roomOf_any (P.setB x (l.set k (P.setC zb c))) ⟨a.v, a.lo, a.bo, a.lc, a.bc, some ⟨G, 0, none⟩, cap'⟩ w7 ((HW5.out.below HBS.out).sail HS0.out (HB00.out.trans ((bvia HST.out.bl HB7.out).mono hn0)) (by rw [List.map_set, HV1.out])) H0.out HGO.out.1.bk (by show (l.set k (P.setC zb c)).length ≤ 16; have := HGL.out; rw [List.length_set]; omega)).mono ?_
      rintro e w6 ⟨r, rfl, hroom, hb6⟩
      have HRM := asv (HGO.out.2 r hroom)
      have HB6 := asv (HB7.out.trans (hb6.mono HB7.out.size))
      have HB76 := asv hb6
      have hr7 : w5.heap.size < w7.heap.size := HY2.out.lt
      clear hroom hb6
      cases hr : (r == 0)
      · have hne : ¬ c = m := fun e => by
          have := HRM.out.2 (by rw [HFM.out, e])
          simp [this] at hr
        go_wp2
        go_roundg (x.s.bs.length - (c + 1))
        case measure => omega
        case rel => exact ⟨c + 1, by omega, by go_num, by go_num, HB6⟩
      have HCM : Aside (c = m) := by
        show c = m
        have h1 : r = 0 := by simpa using hr
        have h2 := HRM.out.1 h1
        rw [HFM.out] at h2
        omega
      have HX6 := asv (HR.out.below HB6.out)
      obtain ⟨d0, d1, d2, d3, d4, d5, d6, d7, d8, d9, d10, d11, d12⟩ := SRow.box (HY2.out.below HB76.out : SRow w6 w5.heap.size (P.setB x (l.set k (P.setC zb c))) ⟨a.v, a.lo, a.bo, a.lc, a.bc, some ⟨G, 0, none⟩, cap'⟩)
      have HO6 := asv (OwnC.below HO5.out (bvia HBS.out HB76.out))
      go_wp2_with ((with_reducible refine wpList_stO w.heap.size (C.sail (P.setB x l) ⟨a.v, a.lo, a.bo, a.lc, a.bc, some ⟨bb, off, none⟩, cap⟩) (C.sail (P.setB x (l.set k (P.setC zb c))) ⟨a.v, a.lo, a.bo, a.lc, a.bc, some ⟨G, 0, none⟩, cap'⟩) ?_ ?_ ?_ HX6.out ?_ ?_ ?_); exact Tryz.sizeSail; rfl; rfl; rfl; exact sail_one _ _; intro w10 hr10 hg10; have HR10 := asv hr10; have HG10 := asv hg10; clear hr10 hg10)
      have HNX : Aside (CloSt w0.heap.size w x a (P.gv (P.cnt (x.bks.take (k + 1))) f x.bks) w10) := by
        show CloSt _ _ _ _ _ _
        have h1 := HGN.out
        rw [HFM.out, ← HCM.out] at h1
        rw [h1]
        have hl := HGL.out
        exact CloSt.next (g := P.setC zb c) hn0 HST.out hl HV1.out HV2.out HV3.out rfl (show wo.heap.size ≤ w4.heap.size by omega) HB6.out (by rw [← hl]; exact HO6.out) HG10.out HR10.out
      go_roundg (x.bks.length - (k + 1))
      case measure => omega
      case rel => exact ⟨k + 1, by omega, rfl, by go_num, HNX⟩

end Go.Proofs.YtlamhfbdeinkkaeGreat.St
