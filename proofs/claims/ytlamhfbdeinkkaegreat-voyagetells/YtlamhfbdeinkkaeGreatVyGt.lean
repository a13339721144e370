/- Package voyage: the literal of settle. -/
import Derived.Test.YtlamhfbdeinkkaeGreatVmDt
import Derived.Test.YtlamhfbdeinkkaeGreatChDt
import Derived.Test.YtlamhfbdeinkkaeGreatLtAt
import Derived.Test.YtlamhfbdeinkkaeGreatStXt
import Derived.Test.YtlamhfbdeinkkaeGreatChGt
import Derived.Deep.CutRange
namespace Go.Proofs.YtlamhfbdeinkkaeGreat.St
open Go.RowKit Bk
set_option linter.unusedSimpArgs false
set_option linter.unusedVariables false
set_option maxRecDepth 10000

/-- The place of the i-th open promise. -/
theorem open_place {b : Bkg} : ∀ (l : List Bkg) (i : Nat), (l.filter P.opn)[i]? = some b → ∃ p, l[p]? = some b ∧ P.cnt (l.take p) = i := by
  intro l
  induction l with
  | nil => intro i h; simp at h
  | cons y t iht =>
    intro i h
    rw [List.filter_cons] at h
    split at h
    · next ho =>
      cases i with
      | zero => exact ⟨0, by simpa using h, rfl⟩
      | succ i =>
        obtain ⟨p, e1, e2⟩ := iht i (by simpa using h)
        exact ⟨p + 1, by simpa using e1, by rw [List.take_succ_cons, P.cnt, List.filter_cons, if_pos ho, List.length_cons]; rw [P.cnt] at e2; omega⟩
    · next ho =>
      obtain ⟨p, e1, e2⟩ := iht i h
      exact ⟨p + 1, by simpa using e1, by rw [List.take_succ_cons, P.cnt, List.filter_cons, if_neg ho]; exact e2⟩
theorem gv_rise {l : List Bkg} (q : Nat) (f : Nat → Int) (h : l.Pairwise (fun a b => a.id < b.id)) : (P.gv q f l).Pairwise (fun a b => a.id < b.id) := by
  have h1 : (l.map (fun b => b.id)).Pairwise (· < ·) := List.pairwise_map.2 h
  rw [← giv_ids (P.upto q f) l 0] at h1
  exact List.pairwise_map.1 h1
/-- The promise that gets a cabin next. -/
theorem next_open {s : Vsl} {l : List Bkg} {q : Nat} {f : Nat → Int} (hb : ∀ b ∈ l, P.bkE s b = 0) (hq : q < P.cnt l) : ∃ (p : Nat) (b : Bkg), l[p]? = some b ∧ P.opn b = true ∧ (P.pids l)[q]? = some b.id ∧ (P.gv q f l)[p]? = some b ∧ P.gv (q + 1) f l = (P.gv q f l).set p (P.setC b (f q)) := by
  have hq' : q < (l.filter P.opn).length := hq
  obtain ⟨b, hfb⟩ : ∃ b, (l.filter P.opn)[q]? = some b := ⟨_, List.getElem?_eq_getElem hq'⟩
  obtain ⟨p, hp, hcnt⟩ := open_place l q hfb
  have ho : P.opn b = true := (List.mem_filter.1 (List.mem_of_getElem? hfb)).2
  refine ⟨p, b, hp, ho, ?_, ?_, ?_⟩
  · rw [P.pids, List.getElem?_map, hfb]
    rfl
  · have h := giv_at (P.upto q f) l 0 p b hp
    rw [if_pos ho, Nat.zero_add, hcnt, show P.upto q f q = -1 by rw [P.upto, if_neg (by omega)]] at h
    have hbb : P.setC b (-1) = b := by rw [P.setC, ← open_none (hb b (List.mem_of_getElem? hp)) ho]
    rw [hbb] at h
    exact h
  · have h := giv_set f l 0 p b hp ho
    rw [Nat.zero_add, hcnt] at h
    exact h

/-- Where settle's literal stands when q promises have cabins. -/
structure SetSt (V0 : World) (n0 N m G hd pi : Nat) (x : Sail) (a : SailA) (f : Nat → Int) (ao1 : Option Addr) (c1 : Nat) (aoS : Option Addr) (cS : Nat) (q : Nat) (wr : World) : Prop where
  lv : ∃ lv, OwnB wr m (.slice (some ⟨G, 0, none⟩) x.bks.length x.bks.length) lv ∧ lv.map (·.1) = P.gv q f x.bks ∧ ∀ y ∈ lv, Fo.OwnN wr (G + 1) (.slice y.2.1 y.1.fol.length y.2.2) y.1.fol
  hd : SRow wr hd x a
  ids : RowIs wr pi #[.slice ao1 (P.cnt x.bks) c1]
  ed : GTw n0 N wr aoS cS (P.pairs (P.cnt x.bks) f)
  bl : Below m V0 wr
theorem SetSt.below {V0 : World} {n0 N m G hd pi : Nat} {x : Sail} {a : SailA} {f : Nat → Int} {ao1 : Option Addr} {c1 : Nat} {aoS : Option Addr} {cS q : Nat} {wr wr' : World} (h : SetSt V0 n0 N m G hd pi x a f ao1 c1 aoS cS q wr) (hb : Below wr.heap.size wr wr') (hm : m ≤ V0.heap.size) (hn : n0 ≤ V0.heap.size) : SetSt V0 n0 N m G hd pi x a f ao1 c1 aoS cS q wr' := by
  obtain ⟨lv, h1, h2, h3⟩ := h.lv
  have := h.bl.size
  exact ⟨⟨lv, OwnC.below h1 hb, h2, fun y hy => OwnC.below (h3 y hy) hb⟩, h.hd.below hb, h.ids.below hb, h.ed.below hb (by omega), h.bl.trans (hb.mono (by omega))⟩
theorem SetSt.next {V0 : World} {n0 N m G hd pi p : Nat} {x : Sail} {a : SailA} {f : Nat → Int} {ao1 : Option Addr} {c1 : Nat} {aoS : Option Addr} {cS q : Nat} {wr : World} {lv : List BkV} {b : Bkg} {fo : Option Addr} {fc : Nat} (h : SetSt V0 n0 N m G hd pi x a f ao1 c1 aoS cS q wr)
    (h1 : OwnB wr m (.slice (some ⟨G, 0, none⟩) x.bks.length x.bks.length) lv) (h2 : lv.map (·.1) = P.gv q f x.bks) (h3 : ∀ y ∈ lv, Fo.OwnN wr (G + 1) (.slice y.2.1 y.1.fol.length y.2.2) y.1.fol) (h4 : lv[p]? = some (b, fo, fc)) (h5 : lv.length = x.bks.length)
    (h6 : P.gv (q + 1) f x.bks = (P.gv q f x.bks).set p (P.setC b (f q))) (hm : m ≤ V0.heap.size) (hn : n0 ≤ m) (hG : m ≤ G) (hGN : G < N) (hGh : hd ≠ G) (hGi : pi ≠ G) :
    SetSt V0 n0 N m G hd pi x a f ao1 c1 aoS cS (q + 1) (wr.setCell ⟨G, p * 11 + 5, none⟩ (.int .i64 (f q))) := by
  obtain ⟨p1, p2⟩ := own_put1 (z := (P.setC b (f q), fo, fc)) (v := .int .i64 (f q)) h1 h5 h4 (j := 5) (by decide) rfl
  have hs := h.bl.size
  refine ⟨⟨_, p1, by rw [List.map_set, h2, h6], fun y hy => ?_⟩, h.hd.gr p2 (by simp; exact hGh), h.ids.gr p2 (by simp; exact hGi), fun U hU => h.ed U ((Twixt.gr p2 (by omega) (by omega) hGN).trans hU), below_gr h.bl (by omega) p2 hG⟩
  have key : ∀ z ∈ lv, Fo.OwnN (wr.setCell ⟨G, p * 11 + 5, none⟩ (.int .i64 (f q))) (G + 1) (.slice z.2.1 z.1.fol.length z.2.2) z.1.fol := fun z hz => OwnC.apart (h3 z hz) p2 (fun r e hv => by
    cases e
    have := ((h3 z hz).lt _ hv).1
    omega)
  rcases List.mem_or_eq_of_mem_set hy with hy | rfl
  · exact key y hy
  · exact key (b, fo, fc) (List.mem_of_getElem? h4)
theorem SetSt.get {V0 : World} {n0 N m G hd pi p : Nat} {x : Sail} {a : SailA} {f : Nat → Int} {ao1 : Option Addr} {c1 : Nat} {aoS : Option Addr} {cS q : Nat} {wr : World} {b : Bkg} (h : SetSt V0 n0 N m G hd pi x a f ao1 c1 aoS cS q wr) (hp : (P.gv q f x.bks)[p]? = some b) :
    ∃ lv fo fc, OwnB wr m (.slice (some ⟨G, 0, none⟩) x.bks.length x.bks.length) lv ∧ lv.map (·.1) = P.gv q f x.bks ∧ (∀ y ∈ lv, Fo.OwnN wr (G + 1) (.slice y.2.1 y.1.fol.length y.2.2) y.1.fol) ∧ lv[p]? = some (b, fo, fc) ∧ lv.length = x.bks.length ∧ BksAt wr (some ⟨G, 0, none⟩) x.bks.length (P.gv q f x.bks) := by
  obtain ⟨lv, h1, h2, h3⟩ := h.lv
  have hl : lv.length = x.bks.length := by
    have h4 := congrArg List.length h2
    rw [List.length_map, giv_len] at h4
    exact h4
  obtain ⟨z, hz⟩ : ∃ z, lv[p]? = some z := by
    have h4 : (lv.map (·.1))[p]? = some b := by rw [h2]; exact hp
    rw [List.getElem?_map] at h4
    cases hx : lv[p]? with
    | none => rw [hx] at h4; cases h4
    | some z => exact ⟨z, rfl⟩
  have hzb : z.1 = b := by
    have h4 : (lv.map (·.1))[p]? = some z.1 := by rw [List.getElem?_map, hz]; rfl
    rw [h2, hp] at h4
    exact (Option.some.inj h4).symm
  obtain ⟨zb, fo, fc⟩ := z
  have hzb : zb = b := hzb
  subst hzb
  refine ⟨lv, fo, fc, h1, h2, h3, hz, hl, ?_⟩
  have h5 := BkVsAt.all (bkvs_of (own_at cellsV_len h1) (fun y hy => ents_own (h3 y hy)))
  rw [h2] at h5
  exact h5
/-- Behind the last one. -/
theorem set_fin {p : Nat} {x : Sail} {a : SailA} {w w1 V0 wr : World} {n0 N m G pi : Nat} {lv : List BkV} {f : Nat → Int} {ao1 : Option Addr} {c1 : Nat} {aoS : Option Addr} {cS NN : Nat} (hF : Fresh w1 N m G x a lv) (h : SetSt V0 n0 NN m G w1.heap.size pi x a f ao1 c1 aoS cS (P.cnt x.bks) wr) (hW : W.sail w1 x a = V0) (hN : w.heap.size ≤ N) :
    SRow (wr.setCell ⟨w1.heap.size, 12, none⟩ (.bool true)) w1.heap.size (P.clS x (P.gv (P.cnt x.bks) f x.bks)) a ∧ (∀ U, Gap p w.heap.size N (wr.setCell ⟨w1.heap.size, 12, none⟩ (.bool true)) U → SailAt U (P.clS x (P.gv (P.cnt x.bks) f x.bks)) a) ∧ Below m V0 (wr.setCell ⟨w1.heap.size, 12, none⟩ (.bool true)) := by
  subst hW
  have hG := hF.lt
  have hnm := hF.nm
  have hmG := hF.mG
  have hsz : (W.sail w1 x a).heap.size = w1.heap.size + 1 := by simp
  have hbs := sail_below w1 x a
  obtain ⟨lk, h1, h2, h3⟩ := h.lv
  have hss := h.bl.size
  have hg := grown_st wr w1.heap.size 12 (.bool true)
  have hgs := hg.size
  have hlen : (P.gv (P.cnt x.bks) f x.bks).length = x.bks.length := giv_len _ _ _
  refine ⟨?_, fun U hU => ?_, below_gr h.bl (by omega) hg (by omega)⟩
  · have h4 := RowIs.set (k := 12) h.hd (.bool true)
    have e : (C.sail x a).setIfInBounds 12 (.bool true) = C.sail (P.clS x (P.gv (P.cnt x.bks) f x.bks)) a := by
      show _ = #[_, _, _, _, _, _, _, _, _, _, _, Value.slice _ (P.gv (P.cnt x.bks) f x.bks).length _, _]
      rw [hlen]
      rfl
    rwa [e] at h4
  · have hUz := hU.1
    obtain ⟨s1, s2⟩ := hF.low U (by omega) (fun c g1 g2 => by
      rw [hU.2 c (.inr g1) (by omega), hg.block c (by omega) (by simp; omega), h.bl.block c g2, hbs.block c (by omega)])
    refine ⟨s1, s2, ?_⟩
    have hown : OwnB (wr.setCell ⟨w1.heap.size, 12, none⟩ (.bool true)) m (.slice (some ⟨G, 0, none⟩) x.bks.length x.bks.length) lk := OwnC.apart h1 hg (fun r e hv => by
      cases e
      have : some G = some w1.heap.size := hv
      simp only [Option.some.injEq] at this
      omega)
    have hOU := OwnC.up hown (w' := U) ⟨hUz, fun c g1 g2 => hU.2 c (.inr (by omega)) g2⟩
    have hent : ∀ y ∈ lk, Fo.EntsAt U y.2.1 y.2.2 y.1.fol := fun y hy => ents_on (ents_own (h3 y hy)) fun b o e hl => by
      have g := ((h3 y hy).lt b (by rw [e]; rfl))
      have hne : b ≠ w1.heap.size := by
        intro hbe
        obtain ⟨t, ht⟩ := h.hd
        rcases (h3 y hy).2 with ⟨e1, _⟩ | ⟨g', cap', cur, hv, _, hh, _, _, hcs, _⟩
        · rw [e] at e1
          simp at e1
        · rw [e] at hv
          simp only [Value.slice.injEq, Option.some.injEq, Addr.mk.injEq, and_true] at hv
          obtain ⟨⟨rfl, rfl⟩, _⟩ := hv
          rw [hbe, ht] at hh
          simp only [Option.some.injEq, Obj.cells.injEq] at hh
          have := congrArg Array.size hh.1
          rw [hcs] at this
          have h13 : (C.sail x a).size = 13 := rfl
          omega
      exact ⟨by omega, by rw [hU.2 b (.inr (by omega)) (by omega), hg.block b g.2 (by simp; exact hne)]⟩
    have := BkVsAt.all (bkvs_of (own_at cellsV_len hOU) hent)
    rw [h2] at this
    rw [← hF.ao, ← hF.cap] at this
    exact this

set_option maxHeartbeats 16000000 in
theorem settle1_how (p : Nat) (x : Sail) (a0 : SailA) (w0 w : World) (pi pp pe : Nat) (ao1 : Option Addr) (c1 : Nat) (ao2 : Option Addr) (c2 : Nat) (hi0 : IntsAt w0 ao1 c1 (P.pids x.bks)) (he0 : GAt w0 ao2 c2 (P.pedg x.s x.bks 0 x.bks)) (hb0 : Below w0.heap.size w0 w)
    (hpi : RowIs w pi #[.slice ao1 (P.cnt x.bks) c1]) (hpp : SRow w pp x a0) (hpe : RowIs w pe #[.slice ao2 (P.pedg x.s x.bks 0 x.bks).length c2]) (hE : P.SailE x 0) :
    HowOk p w x 140 #[.pointer (some ⟨pi, 0, none⟩), .pointer (some ⟨pp, 0, none⟩), .pointer (some ⟨pe, 0, none⟩)] (fun r => r = 0) (fun y => ∃ f, P.Lex (P.cnt x.bks) (P.pedg x.s x.bks 0 x.bks) f (P.cnt x.bks) ∧ P.ext (P.cnt x.bks) (P.pedg x.s x.bks 0 x.bks) (P.cnt x.bks) f ∧ y = P.clS x (P.gv (P.cnt x.bks) f x.bks)) := by
  intro w1 N m G a lv hB1 hN hF
  show Calls Tryz.prog 140 #[.pointer (some ⟨w1.heap.size, 0, none⟩), .pointer (some ⟨pi, 0, none⟩), .pointer (some ⟨pp, 0, none⟩), .pointer (some ⟨pe, 0, none⟩)] (W.sail w1 x a) _
  have hsz : (W.sail w1 x a).heap.size = w1.heap.size + 1 := by simp
  have hw1 := hB1.size
  have hw0 := hb0.size
  have hGl := hF.lt
  have hnm := hF.nm
  have hmG := hF.mG
  have hpil := hpi.lt
  obtain ⟨_, _, h0, hbk, h16, _⟩ := sail_ok hE
  have hrise := (bksI_rise (pre_zero (sail_ok hE).1).2.1).2
  obtain ⟨_, _, _, _, _, _, _, hbs12⟩ := shp_size h0
  have hn16 : P.cnt x.bks ≤ 16 := by have := List.length_filter_le P.opn x.bks; show (x.bks.filter P.opn).length ≤ 16; omega
  have hbs := sail_below w1 x a
  have hBs := bvia hB1 hbs
  have HBK : Aside (∀ b ∈ x.bks, P.bkE x.s b = 0) := hbk
  have HRI : Aside (x.bks.Pairwise (fun a b => a.id < b.id)) := hrise
  have HFR : Aside (Fresh w1 N m G x a lv) := hF
  have HB0 : Aside (Below w0.heap.size w0 (W.sail w1 x a)) := bvia hb0 hBs
  have HI0 : Aside (IntsAt w0 ao1 c1 (P.pids x.bks)) := hi0
  have HBN : Aside ((W.sail w1 x a).heap.size = w1.heap.size + 1) := hsz
  have hEl : (P.pedg x.s x.bks 0 x.bks).length ≤ 1000000 := by
    have h1 := pedg_len x.s x.bks x.bks 0
    have h2 : x.bks.length * x.s.bs.length ≤ 16 * 12 := Nat.mul_le_mul h16 hbs12
    omega
  have HEB : Aside (∀ z ∈ P.pedg x.s x.bks 0 x.bks, 0 ≤ z.1 ∧ z.1 < ((P.cnt x.bks : Nat) : Int) ∧ 0 ≤ z.2 ∧ z.2 < ((x.s.bs.length : Nat) : Int)) := fun z hz => by
    have h1 := pedg_mem hz
    have h2 : P.cnt x.bks = (x.bks.filter P.opn).length := rfl
    omega
  have HSD := settled_any ao2 c2 (P.pedg x.s x.bks 0 x.bks) (P.cnt x.bks) x.s.bs.length w0 (W.sail w1 x a) HB0.out he0 HEB.out (pedg_nodup x.s x.bks x.bks 0) (pedg_srt x.s x.bks x.bks 0) (right_full hE) hn16 (by omega) hEl
  have hcle := hi0.le
  have hcmx := hi0.max
  unfold maxLen at hcmx
  rw [pids_len] at hcle
  have hcle : P.cnt x.bks ≤ c1 := hcle
  have HPI : Aside (RowIs (W.sail w1 x a) pi #[.slice ao1 (P.cnt x.bks) c1]) := hpi.below hBs
  have i0 : (W.sail w1 x a).cell? ⟨pi, 0, none⟩ = some (.slice ao1 (P.cnt x.bks) c1) := HPI.out.cell 0
  have e0 : (W.sail w1 x a).cell? ⟨pe, 0, none⟩ = some (.slice ao2 (P.pedg x.s x.bks 0 x.bks).length c2) := (hpe.below hBs).cell 0
  have p3 : (W.sail w1 x a).cell? ⟨pp, 3, none⟩ = some (.slice a0.v.bao x.s.bs.length a0.v.bc) := (hpp.below hBs).cell 3
  clear hF hE hb0 hbk hrise hi0 he0 hpi hpp hpe hB1 h0 hEl hBs hbs
  go_enter Tryz.func140, Tryz.ntmps140
  go_wp2_with fail
  refine HSD.mono ?_
  rintro e w2 ⟨aoS, cS, f, rfl, hlx, hex, hgt, hb2⟩
  have HLX : Aside (P.Lex (P.cnt x.bks) (P.pedg x.s x.bks 0 x.bks) f (P.cnt x.bks)) := hlx
  have HEX : Aside (P.ext (P.cnt x.bks) (P.pedg x.s x.bks 0 x.bks) (P.cnt x.bks) f) := hex
  have HST : Aside (SetSt (W.sail w1 x a) w0.heap.size (W.sail w1 x a).heap.size m G w1.heap.size pi x a f ao1 c1 aoS cS 0 w2) := by
    have hbs := sail_below w1 x a
    have hF := HFR.out
    refine ⟨⟨lv, OwnC.below (OwnC.below hF.own hbs) hb2, ?_, fun y hy => OwnC.below (OwnC.below (hF.ent y hy) hbs) hb2⟩, (RowIs.new w1 _ _ : SRow (W.sail w1 x a) w1.heap.size x a).below hb2, HPI.out.below hb2, hgt, hb2.mono (by omega)⟩
    rw [hF.map]
    exact (giv_none x.bks (fun b hb ho => open_none (HBK.out b hb) ho) 0 (fun j _ => by rw [P.upto, if_neg (by omega)])).symm
  have HAO : Aside (a.ao = some ⟨G, 0, none⟩ ∧ a.cap = x.bks.length) := ⟨HFR.out.ao, HFR.out.cap⟩
  clear hlx hex hgt hb2 HSD i0 e0 p3 HPI HEB
  go_wp2
  generalize hV : W.sail w1 x a = V0 at HST HB0 HBN hsz
  have HVE : Aside (W.sail w1 x a = V0) := hV
  clear hV
  go_loopg [18] (P.cnt x.bks) (fun q iv wr => ∃ k : Nat, k ≤ P.cnt x.bks ∧ q = P.cnt x.bks - k ∧ iv = .int .i64 k ∧ Aside (SetSt V0 w0.heap.size V0.heap.size m G w1.heap.size pi x a f ao1 c1 aoS cS k wr))
  case atStart => exact ⟨0, Nat.zero_le _, rfl, rfl, HST⟩
  case round =>
    clear HST
    obtain ⟨k, hk, rfl, rfl, HST⟩ := hrel
    have hhd := HST.out.hd.lt
    by_cases hlt : k < P.cnt x.bks
    rotate_left
    · obtain rfl : k = P.cnt x.bks := by omega
      have hfin := set_fin (p := p) HFR.out HST.out HVE.out hN
      have HFIN : Aside (SRow (wr.setCell ⟨w1.heap.size, 12, none⟩ (.bool true)) w1.heap.size (P.clS x (P.gv (P.cnt x.bks) f x.bks)) a ∧ (∀ U, Gap p w.heap.size N (wr.setCell ⟨w1.heap.size, 12, none⟩ (.bool true)) U → SailAt U (P.clS x (P.gv (P.cnt x.bks) f x.bks)) a) ∧ Below m (W.sail w1 x a) (wr.setCell ⟨w1.heap.size, 12, none⟩ (.bool true))) := by
        show _ ∧ _
        rw [HVE.out]
        exact hfin
      have d12 : wr.cell? ⟨w1.heap.size, 12, none⟩ = some (.bool x.cl) := HST.out.hd.cell 12
      have f12 := HST.out.hd.free 12
      clear hfin
      go_wp2
      go_ret
      exact ⟨0, rfl, rfl, fun _ => ⟨_, a, HFIN.out.1, ⟨f, HLX.out, HEX.out, rfl⟩, HFIN.out.2.1⟩, HFIN.out.2.2⟩
    have hlt2 : (k : Int) < P.cnt x.bks := by omega
    obtain ⟨b1, off, z, hao, hbw, hd, y0, y1⟩ := GAt.get HST.out.ed.at (Below.refl _ _) k (by rw [pairs_len]; exact hlt)
    have hz : z = ((k : Int), f k) := by
      have h1 := drop_at hd
      rw [pairs_at f hlt] at h1
      exact (Option.some.inj h1).symm
    subst hz
    subst hao
    have hbx := al wr (.cells #[.int .i64 (k : Nat), .int .i64 (f k)] 85)
    clear hd
    go_upto_region 4 with (fail)
    change Code.wp Tryz.prog _ _ _ (wr.alloc (.cells #[.int .i64 (k : Nat), .int .i64 (f k)] 85))
    have HBX : Aside (RowIs (wr.alloc (.cells #[.int .i64 (k : Nat), .int .i64 (f k)] 85)) wr.heap.size #[.int .i64 (k : Nat), .int .i64 (f k)]) := RowIs.new wr _ _
    have HSN : Aside (SetSt V0 w0.heap.size V0.heap.size m G w1.heap.size pi x a f ao1 c1 (some ⟨b1, off, none⟩) cS k (wr.alloc (.cells #[.int .i64 (k : Nat), .int .i64 (f k)] 85))) := HST.out.below hbx (by omega) (by omega)
    clear HST y0 y1 hbx
    generalize wr.alloc (.cells #[.int .i64 (k : Nat), .int .i64 (f k)] 85) = wB at HBX HSN ⊢
    obtain ⟨q, b, hqb, hqo, hqi, hqg, hqs⟩ := next_open (f := f) HBK.out hlt
    obtain ⟨bi, oi, z, haoi, hbwi, hdi, z0⟩ := IntsAt.get HI0.out (HB0.out.trans (HSN.out.bl.mono (by omega))) k (by rw [pids_len]; exact hlt)
    have hz : z = b.id := by
      have h1 := drop_at hdi
      rw [hqi] at h1
      exact (Option.some.inj h1).symm
    subst hz
    subst haoi
    obtain ⟨lk, fo, fc, hv1, hv2, hv3, hv4, hv5, hv6⟩ := HSN.out.get hqg
    have HV1 : Aside (OwnB wB m (.slice (some ⟨G, 0, none⟩) x.bks.length x.bks.length) lk) := hv1
    have HV2 : Aside (lk.map (·.1) = P.gv k f x.bks) := hv2
    have HV3 : Aside (∀ y ∈ lk, Fo.OwnN wB (G + 1) (.slice y.2.1 y.1.fol.length y.2.2) y.1.fol) := hv3
    have HV4 : Aside (lk[q]? = some (b, fo, fc)) := hv4
    have HV5 : Aside (lk.length = x.bks.length) := hv5
    have HV6 : Aside (BksAt wB (some ⟨G, 0, none⟩) x.bks.length (P.gv k f x.bks)) := hv6
    have HQG : Aside ((P.gv k f x.bks)[q]? = some b) := hqg
    have HQS : Aside (P.gv (k + 1) f x.bks = (P.gv k f x.bks).set q (P.setC b (f k))) := hqs
    have HGR : Aside ((P.gv k f x.bks).Pairwise (fun a b => a.id < b.id)) := gv_rise k f HRI.out
    have HGL : Aside ((P.gv k f x.bks).length = x.bks.length) := giv_len _ _ _
    have hql : q < x.bks.length := (List.getElem?_eq_some_iff.1 hqb).1
    have hql2 : (q : Int) < x.bks.length := by omega
    have d11 : wB.cell? ⟨w1.heap.size, 11, none⟩ = some (.slice (some ⟨G, 0, none⟩) x.bks.length x.bks.length) := by
      have := HSN.out.hd.cell 11
      rw [show (C.sail x a)[11]? = some (.slice a.ao x.bks.length a.cap) from rfl, HAO.out.1, HAO.out.2] at this
      exact this
    have i0 : wB.cell? ⟨pi, 0, none⟩ = some (.slice (some ⟨bi, oi, none⟩) (P.cnt x.bks) c1) := HSN.out.ids.cell 0
    have k0 : wB.cell? ⟨wr.heap.size, 0, none⟩ = some (.int .i64 (k : Nat)) := HBX.out.cell 0
    have k1 : wB.cell? ⟨wr.heap.size, 1, none⟩ = some (.int .i64 (f k)) := HBX.out.cell 1
    have HQL : Aside (q < x.bks.length) := hql
    clear hqb hqo hqi hqg hqs hbwi hdi hv1 hv2 hv3 hv4 hv5 hv6
    refine wp_region_before (L := 18) (S := fun u : World => u.cell? ⟨w1.heap.size, 11, none⟩ = some (.slice (some ⟨G, 0, none⟩) x.bks.length x.bks.length) ∧ u.cell? ⟨pi, 0, none⟩ = some (.slice (some ⟨bi, oi, none⟩) (P.cnt x.bks) c1) ∧ u.cell? ⟨wr.heap.size, 0, none⟩ = some (.int .i64 (k : Nat)) ∧ u.cell? ⟨wr.heap.size, 1, none⟩ = some (.int .i64 (f k)) ∧ u.cell? ⟨bi, oi + k, none⟩ = some (.int .i64 b.id)) (by kernel_rfl) (fun hset => ?_)
    have hS : (fun u : World => u.cell? ⟨w1.heap.size, 11, none⟩ = some (.slice (some ⟨G, 0, none⟩) x.bks.length x.bks.length) ∧ u.cell? ⟨pi, 0, none⟩ = some (.slice (some ⟨bi, oi, none⟩) (P.cnt x.bks) c1) ∧ u.cell? ⟨wr.heap.size, 0, none⟩ = some (.int .i64 (k : Nat)) ∧ u.cell? ⟨wr.heap.size, 1, none⟩ = some (.int .i64 (f k)) ∧ u.cell? ⟨bi, oi + k, none⟩ = some (.int .i64 b.id)) { wB with drawn := wB.drawn + 1 } := ⟨cellIn (dr _) d11, cellIn (dr _) i0, cellIn (dr _) k0, cellIn (dr _) k1, cellIn (dr _) z0⟩
    refine wpAnyB_put0 (i := 0) (d := (some 22)) (v := ?_) hset rfl rfl (by kernel_rfl) (by kernel_rfl) (by kernel_rfl) (by decide) (fun _ _ _ h => h) (Or.inl ⟨by rfl, ?_⟩) (fun _ => hS) (fun hset => ?_)
    rotate_left
    · (intro w; go_simp; try with_reducible rfl)
    simp only [Act.put, List.setIfInBounds_toArray, List.set_cons_zero, List.set_cons_succ, List.getElem_toArray, List.getElem_cons_succ, List.getElem_cons_zero]
    refine wpAnyB_put0 (i := 1) (d := (some 23)) (v := ?_) hset rfl rfl (by kernel_rfl) (by kernel_rfl) (by kernel_rfl) (by decide) (fun _ _ _ h => h) (Or.inl ⟨by rfl, ?_⟩) (fun _ => hS) (fun hset => ?_)
    rotate_left
    · (intro w; go_simp; try with_reducible rfl)
    simp only [Act.put, List.setIfInBounds_toArray, List.set_cons_zero, List.set_cons_succ, List.getElem_toArray, List.getElem_cons_succ, List.getElem_cons_zero]
    refine wpAnyB_put0 (i := 2) (d := (some 24)) (v := ?_) hset rfl rfl (by kernel_rfl) (by kernel_rfl) (by kernel_rfl) (by decide) (fun _ _ _ h => h) (Or.inl ⟨by rfl, ?_⟩) (fun _ => hS) (fun hset => ?_)
    rotate_left
    · (intro w; go_simp; try with_reducible rfl)
    simp only [Act.put, List.setIfInBounds_toArray, List.set_cons_zero, List.set_cons_succ, List.getElem_toArray, List.getElem_cons_succ, List.getElem_cons_zero]
    refine wpAnyB_put (i := 3) (n := 40) (d := (some 25)) (v := ?_) hset rfl rfl (by kernel_rfl) (by kernel_rfl) (by kernel_rfl) (by kernel_rfl) (by decide) (fun _ _ _ h => h) (Or.inl ⟨by rfl, ?_⟩) hS (fun hset => ?_)
    rotate_left
    · (intro w hSw; (try dsimp only at hSw); go_simp; try with_reducible rfl)
    simp only [Act.put, List.setIfInBounds_toArray, List.set_cons_zero, List.set_cons_succ, List.getElem_toArray, List.getElem_cons_succ, List.getElem_cons_zero]
    refine wpAnyB_put0 (i := 4) (d := (some 26)) (v := ?_) hset rfl rfl (by kernel_rfl) (by kernel_rfl) (by kernel_rfl) (by decide) (fun _ _ _ h => h) (Or.inl ⟨by rfl, ?_⟩) (fun _ => hS) (fun hset => ?_)
    rotate_left
    · (intro w; go_simp; try with_reducible rfl)
    simp only [Act.put, List.setIfInBounds_toArray, List.set_cons_zero, List.set_cons_succ, List.getElem_toArray, List.getElem_cons_succ, List.getElem_cons_zero]
    refine wpAnyB_put0 (i := 5) (d := (some 27)) (v := ?_) hset rfl rfl (by kernel_rfl) (by kernel_rfl) (by kernel_rfl) (by decide) (fun _ _ _ h => h) (Or.inl ⟨by rfl, ?_⟩) (fun _ => hS) (fun hset => ?_)
    rotate_left
    · (intro w; go_simp; try with_reducible rfl)
    simp only [Act.put, List.setIfInBounds_toArray, List.set_cons_zero, List.set_cons_succ, List.getElem_toArray, List.getElem_cons_succ, List.getElem_cons_zero]
    refine wpAnyB_put0 (i := 6) (d := (some 28)) (v := ?_) hset rfl rfl (by kernel_rfl) (by kernel_rfl) (by kernel_rfl) (by decide) (fun _ _ _ h => h) (Or.inl ⟨by rfl, ?_⟩) (fun _ => hS) (fun hset => ?_)
    rotate_left
    · (intro w; go_simp; try with_reducible rfl)
    simp only [Act.put, List.setIfInBounds_toArray, List.set_cons_zero, List.set_cons_succ, List.getElem_toArray, List.getElem_cons_succ, List.getElem_cons_zero]
    refine wpAnyB_put (i := 7) (n := 40) (d := (some 29)) (v := ?_) hset rfl rfl (by kernel_rfl) (by kernel_rfl) (by kernel_rfl) (by kernel_rfl) (by decide) (fun _ _ _ h => h) (Or.inl ⟨by rfl, ?_⟩) hS (fun hset => ?_)
    rotate_left
    · (intro w hSw; (try dsimp only at hSw); go_simp; try with_reducible rfl)
    simp only [Act.put, List.setIfInBounds_toArray, List.set_cons_zero, List.set_cons_succ, List.getElem_toArray, List.getElem_cons_succ, List.getElem_cons_zero]
    refine wpAnyB_put (i := 8) (n := 40) (d := (some 30)) (v := ?_) hset rfl rfl (by kernel_rfl) (by kernel_rfl) (by kernel_rfl) (by kernel_rfl) (by decide) (fun _ _ _ h => h) (Or.inl ⟨by rfl, ?_⟩) hS (fun hset => ?_)
    rotate_left
    · (intro w hSw; (try dsimp only at hSw); go_simp; try with_reducible rfl)
    simp only [Act.put, List.setIfInBounds_toArray, List.set_cons_zero, List.set_cons_succ, List.getElem_toArray, List.getElem_cons_succ, List.getElem_cons_zero]
    refine wpAnyB_put0 (i := 9) (d := (some 31)) (v := ?_) hset rfl rfl (by kernel_rfl) (by kernel_rfl) (by kernel_rfl) (by decide) (fun _ _ _ h => h) (Or.inl ⟨by rfl, ?_⟩) (fun _ => hS) (fun hset => ?_)
    rotate_left
    · (intro w; go_simp; try with_reducible rfl)
    simp only [Act.put, List.setIfInBounds_toArray, List.set_cons_zero, List.set_cons_succ, List.getElem_toArray, List.getElem_cons_succ, List.getElem_cons_zero]
    refine wpAnyB_put (i := 10) (n := 40) (d := (some 32)) (v := ?_) hset rfl rfl (by kernel_rfl) (by kernel_rfl) (by kernel_rfl) (by kernel_rfl) (by decide) (fun _ _ _ h => h) (Or.inl ⟨by rfl, ?_⟩) hS (fun hset => ?_)
    rotate_left
    · (intro w hSw; (try dsimp only at hSw); go_simp; try with_reducible rfl)
    simp only [Act.put, List.setIfInBounds_toArray, List.set_cons_zero, List.set_cons_succ, List.getElem_toArray, List.getElem_cons_succ, List.getElem_cons_zero]
    refine wpAnyB_put0 (i := 11) (d := (some 33)) (v := ?_) hset rfl rfl (by kernel_rfl) (by kernel_rfl) (by kernel_rfl) (by decide) (fun _ _ _ h => h) (Or.inl ⟨by rfl, ?_⟩) (fun _ => hS) (fun hset => ?_)
    rotate_left
    · (intro w; go_simp; try with_reducible rfl)
    simp only [Act.put, List.setIfInBounds_toArray, List.set_cons_zero, List.set_cons_succ, List.getElem_toArray, List.getElem_cons_succ, List.getElem_cons_zero]
    refine wpAnyB_put (i := 12) (n := 40) (d := (some 34)) (v := ?_) hset rfl rfl (by kernel_rfl) (by kernel_rfl) (by kernel_rfl) (by kernel_rfl) (by decide) (fun _ _ _ h => h) (Or.inl ⟨by rfl, ?_⟩) hS (fun hset => ?_)
    rotate_left
    · (intro w hSw; (try dsimp only at hSw); go_simp; try with_reducible rfl)
    simp only [Act.put, List.setIfInBounds_toArray, List.set_cons_zero, List.set_cons_succ, List.getElem_toArray, List.getElem_cons_succ, List.getElem_cons_zero]
    refine wpAnyB_put0 (i := 14) (d := (some 36)) (v := ?_) hset rfl rfl (by kernel_rfl) (by kernel_rfl) (by kernel_rfl) (by decide) (fun _ _ _ h => h) (Or.inl ⟨by rfl, ?_⟩) (fun _ => hS) (fun hset => ?_)
    rotate_left
    · (intro w; go_simp; try with_reducible rfl)
    simp only [Act.put, List.setIfInBounds_toArray, List.set_cons_zero, List.set_cons_succ, List.getElem_toArray, List.getElem_cons_succ, List.getElem_cons_zero]
    refine wpAnyB_put (i := 15) (n := 40) (d := (some 37)) (v := ?_) hset rfl rfl (by kernel_rfl) (by kernel_rfl) (by kernel_rfl) (by kernel_rfl) (by decide) (fun _ _ _ h => h) (Or.inl ⟨by rfl, ?_⟩) hS (fun hset => ?_)
    rotate_left
    · (intro w hSw; (try dsimp only at hSw); go_simp; try with_reducible rfl)
    simp only [Act.put, List.setIfInBounds_toArray, List.set_cons_zero, List.set_cons_succ, List.getElem_toArray, List.getElem_cons_succ, List.getElem_cons_zero]
    refine wpAnyB_steps (rs := [13]) (by kernel_rfl) (by simp) ?_
    refine StepsB.ahead rfl hset (by kernel_rfl) (fun hset K hK => ?_) StepsB.nil
    simp only [List.getElem_toArray, List.getElem_cons_succ, List.getElem_cons_zero]
    go_simp
    have hat := at_any (some ⟨G, 0, none⟩) x.bks.length (P.gv k f x.bks) b.id _ (SlAt.below RBk.mono HV6.out (dr _))
    rw [HGL.out] at hat
    refine hat.mono ?_
    rintro e w5 ⟨n, rfl, hn, hb5'⟩
    obtain rfl := PlaceIs.at HGR.out hn HQG.out rfl
    have hb5 : Below wB.heap.size wB w5 := bvia (dr _) hb5'
    refine hK.out _ _ ?_ (fun hS => ?_)
    · exact ⟨cellIn hb5 d11, cellIn hb5 i0, cellIn hb5 k0, cellIn hb5 k1, cellIn hb5 z0⟩
    clear hK K
    try simp only [Act.put, List.setIfInBounds_toArray, List.set_cons_zero, List.set_cons_succ, List.getElem_toArray, List.getElem_cons_succ, List.getElem_cons_zero]
    refine wpAnyB_put0 (i := 16) (d := (some 38)) (v := ?_) hset rfl rfl (by kernel_rfl) (by kernel_rfl) (by kernel_rfl) (by decide) (fun _ _ _ h => h) (Or.inl ⟨by rfl, ?_⟩) (fun _ => hS) (fun hset => ?_)
    rotate_left
    · (intro w; go_simp; try with_reducible rfl)
    simp only [Act.put, List.setIfInBounds_toArray, List.set_cons_zero, List.set_cons_succ, List.getElem_toArray, List.getElem_cons_succ, List.getElem_cons_zero]
    refine wpAnyB_put0 (i := 17) (d := (some 39)) (v := ?_) hset rfl rfl (by kernel_rfl) (by kernel_rfl) (by kernel_rfl) (by decide) (fun _ _ _ h => h) (Or.inl ⟨by rfl, ?_⟩) (fun _ => hS) (fun hset => ?_)
    rotate_left
    · (intro w; go_simp; try with_reducible rfl)
    simp only [Act.put, List.setIfInBounds_toArray, List.set_cons_zero, List.set_cons_succ, List.getElem_toArray, List.getElem_cons_succ, List.getElem_cons_zero]
    refine wpAnyB_steps (rs := [18]) (by kernel_rfl) (by simp) ?_
    refine StepsB.behind rfl hset (by kernel_rfl) (by kernel_rfl) (fun hset K hK => ?_) StepsB.nil
    have ho5 := own_cell (OwnC.below HV1.out hb5) HV5.out HV4.out 5 (by decide)
    have o5 : w5.cell? ⟨G, q * 11 + 5, none⟩ = some (.int .i64 b.cabin) := ho5.1
    have u5 := ho5.2
    simp only [List.getElem_toArray, List.getElem_cons_succ, List.getElem_cons_zero]
    go_simp
    refine hK.out _ _ ?_
    clear hK K
    try simp only [Act.put, List.setIfInBounds_toArray, List.set_cons_zero, List.set_cons_succ, List.getElem_toArray, List.getElem_cons_succ, List.getElem_cons_zero]
    all_goals refine wpAnyB_done (by kernel_rfl) ?_ _
    have HNX : Aside (SetSt V0 w0.heap.size V0.heap.size m G w1.heap.size pi x a f (some ⟨bi, oi, none⟩) c1 (some ⟨b1, off, none⟩) cS (k + 1) (w5.setCell ⟨G, q * 11 + 5, none⟩ (.int .i64 (f k)))) :=
      SetSt.next (HSN.out.below hb5 (by omega) (by omega)) (OwnC.below HV1.out hb5) HV2.out (fun y hy => OwnC.below (HV3.out y hy) hb5) HV4.out HV5.out HQS.out (by omega) (by omega) hmG (by omega) (by omega) (by omega)
    clear hset hS d11 i0 k0 k1 z0 hn hb5 hb5' hat ho5 o5 u5
    go_wp2
    go_roundg (P.cnt x.bks - (k + 1))
    case measure => omega
    case rel => exact ⟨k + 1, by omega, rfl, by go_num, HNX⟩

end Go.Proofs.YtlamhfbdeinkkaeGreat.St
