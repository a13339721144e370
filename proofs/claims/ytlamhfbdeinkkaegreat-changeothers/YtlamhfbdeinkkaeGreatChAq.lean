/- Package change, the reference: liveAt, setBooking. -/
import Derived.Test.YtlamhfbdeinkkaeGreatSeYq
import Derived.Test.YtlamhfbdeinkkaeGreatAnCq
import Derived.Test.YtlamhfbdeinkkaeGreatStXq
import Derived.Test.YtlamhfbdeinkkaeGreatSeAq
import Derived.Deep.MidRow
import Derived.Test.YtlamhfbdeinkkaeGreatSeHq
import Derived.Deep.RegionHeld3
namespace Go.Proofs.YtlamhfbdeinkkaeGreat.St
open Go.RowKit Bk
set_option linter.unusedSimpArgs false
set_option linter.unusedVariables false
set_option maxRecDepth 10000

/-- The place of a live booking of a number. -/
def P.LiveIs (l : List Bkg) (id n : Int) : Prop := (∃ (k : Nat) (b : Bkg), n = k ∧ l[k]? = some b ∧ b.id = id ∧ b.state ≠ 3) ∨ (n = -1 ∧ ∀ b ∈ l, b.id = id → b.state = 3)
theorem LiveIs.one {l : List Bkg} {id n m : Int} (hr : l.Pairwise (fun a b => a.id < b.id)) (h : P.LiveIs l id n) (h' : P.LiveIs l id m) : n = m := by
  rcases h with ⟨k, b, rfl, h1, h2, h3⟩ | ⟨rfl, h1⟩ <;> rcases h' with ⟨k', b', rfl, g1, g2, g3⟩ | ⟨rfl, g1⟩
  · obtain ⟨hk, e1⟩ := List.getElem?_eq_some_iff.1 h1
    obtain ⟨hk', e2⟩ := List.getElem?_eq_some_iff.1 g1
    have hp := List.pairwise_iff_getElem.1 hr
    rcases Nat.lt_trichotomy k k' with hlt | rfl | hlt
    · have := hp k k' hk hk' hlt
      rw [e1, e2] at this
      omega
    · rfl
    · have := hp k' k hk' hk hlt
      rw [e1, e2] at this
      omega
  · exact absurd (g1 b (List.mem_of_getElem? h1) h2) h3
  · exact absurd (h1 b' (List.mem_of_getElem? g1) g2) g3
  · rfl

end Go.Proofs.YtlamhfbdeinkkaeGreat.St
namespace Go.Proofs.YtlamhfbdeinkkaeGreat.St
open Go.RowKit Bk
set_option linter.unusedSimpArgs false
set_option linter.unusedVariables false
set_option maxRecDepth 10000

theorem own_row {w : World} {base G cap n : Nat} {lv : List BkV} (h : OwnB w base (.slice (some ⟨G, 0, none⟩) n cap) lv) (hn : lv.length = n) (h0 : 0 < n) : ∃ cur, w.heap[G]? = some (.cells cur 37 (0, 0)) ∧ cur.size = cap * 11 ∧ n ≤ cap ∧ base ≤ G := by
  obtain ⟨hx, h2⟩ := h
  rcases h2 with ⟨h3, _⟩ | ⟨g', cap', cur, hv, hgb, hh, hn', hcm, hsz, htk⟩
  · simp at h3
  · simp only [Value.slice.injEq, Option.some.injEq, Addr.mk.injEq, and_true] at hv
    obtain ⟨rfl, rfl, rfl⟩ := hv
    exact ⟨cur, hh, hsz, hn', hgb⟩
theorem own_there {w : World} {base G cap n k : Nat} {lv : List BkV} (h : OwnB w base (.slice (some ⟨G, 0, none⟩) n cap) lv) (hn : lv.length = n) (hk : k < n) : w.there G (k * 11) 11 := by
  obtain ⟨cur, h1, h2, h3, _⟩ := own_row h hn (by omega)
  intro j hj
  have hlt : k * 11 + j < cur.size := by omega
  refine ⟨?_, by simp [World.frozen?, h1]⟩
  rw [cell_of_row w G (k * 11 + j) cur _ (0, 0) h1, Array.getElem?_eq_getElem hlt]
  rfl
end Go.Proofs.YtlamhfbdeinkkaeGreat.St
namespace Go.Proofs.YtlamhfbdeinkkaeGreat.St
open Go.RowKit Bk
set_option linter.unusedSimpArgs false
set_option linter.unusedVariables false
set_option maxRecDepth 10000

/-- One booking is changed as T says: the errno and the sailing. -/
def P.Ch (x : Sail) (id : Int) (T : Bkg → Int → Bkg → Prop) (r : Int) (y : Sail) : Prop :=
  (P.LiveIs x.bks id (-1) ∧ r = 5 ∧ y = P.zeroS) ∨
  ∃ (k : Nat) (b : Bkg), P.LiveIs x.bks id k ∧ x.bks[k]? = some b ∧ ∃ e b', T b e b' ∧ ((¬ e = 0 ∧ r = e ∧ y = P.zeroS) ∨ (e = 0 ∧ r = 0 ∧ y = P.setB x (x.bks.set k b')))
theorem Ch.one {x : Sail} {id : Int} {T : Bkg → Int → Bkg → Prop} {r r' : Int} {y y' : Sail} (hr : x.bks.Pairwise (fun a b => a.id < b.id)) (hT : ∀ b e b' e' b'', T b e b' → T b e' b'' → e = e' ∧ (e = 0 → b' = b'')) (h : P.Ch x id T r y) (h' : P.Ch x id T r' y') : r = r' ∧ y = y' := by
  rcases h with ⟨h1, rfl, rfl⟩ | ⟨k, b, h1, h2, e, b', h3, h4⟩ <;> rcases h' with ⟨g1, rfl, rfl⟩ | ⟨k', c, g1, g2, e', c', g3, g4⟩
  · exact ⟨rfl, rfl⟩
  · have := LiveIs.one hr h1 g1; omega
  · have := LiveIs.one hr h1 g1; omega
  · have hk := LiveIs.one hr h1 g1
    obtain rfl : k = k' := by omega
    rw [h2] at g2
    obtain rfl := Option.some.inj g2
    obtain ⟨e1, e2⟩ := hT _ _ _ _ _ h3 g3
    subst e1
    rcases h4 with ⟨a1, rfl, rfl⟩ | ⟨rfl, rfl, rfl⟩ <;> rcases g4 with ⟨c1, rfl, rfl⟩ | ⟨c1, rfl, rfl⟩
    · exact ⟨rfl, rfl⟩
    · exact absurd c1 a1
    · exact absurd rfl c1
    · rw [e2 rfl]; exact ⟨rfl, rfl⟩
def P.sureB (b : Bkg) : Bkg := ⟨b.id, b.kind, 2, b.guests, b.level, b.cabin, b.cat, b.frm, b.to, 0, b.fol⟩
def P.sureT (b : Bkg) (e : Int) (b' : Bkg) : Prop := e = (if b.state = 1 then 0 else 4) ∧ (e = 0 → b' = P.sureB b)
theorem sureT_one (b : Bkg) (e : Int) (b' : Bkg) (e' : Int) (b'' : Bkg) (h : P.sureT b e b') (h' : P.sureT b e' b'') : e = e' ∧ (e = 0 → b' = b'') := by
  obtain ⟨h1, h2⟩ := h
  obtain ⟨g1, g2⟩ := h'
  have : e = e' := by rw [h1, g1]
  exact ⟨this, fun h0 => by rw [h2 h0, g2 (by omega)]⟩

end Go.Proofs.YtlamhfbdeinkkaeGreat.St
namespace Go.Proofs.YtlamhfbdeinkkaeGreat.St
open Go.RowKit Bk
set_option linter.unusedSimpArgs false
set_option linter.unusedVariables false
set_option maxRecDepth 10000

/-- J1: what is wrong with a move, ahead of the room. -/
def P.movE (x : Sail) (b : Bkg) (c : Int) : Int := if b.cabin < 0 then 4 else if c < 0 ∨ (x.s.bs.length : Int) ≤ c then 3 else if c = b.cabin then 6 else P.bkE x.s (P.setC b c)
def P.Moves (x : Sail) (id c r : Int) (y : Sail) : Prop :=
  (P.LiveIs x.bks id (-1) ∧ r = 5 ∧ y = P.zeroS) ∨
  ∃ (k : Nat) (b : Bkg), P.LiveIs x.bks id k ∧ x.bks[k]? = some b ∧
    ((¬ P.movE x b c = 0 ∧ r = P.movE x b c ∧ y = P.zeroS) ∨ (P.movE x b c = 0 ∧ P.Room (P.setB x (x.bks.set k (P.setC b c))) r ∧ ((r = 0 ∧ y = P.setB x (x.bks.set k (P.setC b c))) ∨ (¬ r = 0 ∧ y = P.zeroS))))
theorem Moves.one {x : Sail} {id c r r' : Int} {y y' : Sail} (hr : x.bks.Pairwise (fun a b => a.id < b.id)) (h : P.Moves x id c r y) (h' : P.Moves x id c r' y') : r = r' ∧ y = y' := by
  rcases h with ⟨h1, rfl, rfl⟩ | ⟨k, b, h1, h2, h4⟩ <;> rcases h' with ⟨g1, rfl, rfl⟩ | ⟨k', b', g1, g2, g4⟩
  · exact ⟨rfl, rfl⟩
  · have := LiveIs.one hr h1 g1; omega
  · have := LiveIs.one hr h1 g1; omega
  · have hk := LiveIs.one hr h1 g1
    obtain rfl : k = k' := by omega
    rw [h2] at g2
    obtain rfl := Option.some.inj g2
    rcases h4 with ⟨a1, rfl, rfl⟩ | ⟨a1, a2, a3⟩ <;> rcases g4 with ⟨c1, rfl, rfl⟩ | ⟨c1, c2, c3⟩
    · exact ⟨rfl, rfl⟩
    · exact absurd c1 a1
    · exact absurd a1 c1
    · obtain rfl := Room.one a2 c2
      refine ⟨rfl, ?_⟩
      rcases a3 with ⟨p1, rfl⟩ | ⟨p1, rfl⟩ <;> rcases c3 with ⟨q1, rfl⟩ | ⟨q1, rfl⟩
      · rfl
      · exact absurd p1 q1
      · exact absurd q1 p1
      · rfl

end Go.Proofs.YtlamhfbdeinkkaeGreat.St
namespace Go.Proofs.YtlamhfbdeinkkaeGreat.St
open Go.RowKit Bk
set_option linter.unusedSimpArgs false
set_option linter.unusedVariables false
set_option maxRecDepth 10000

/-- What a literal does to a booking b that lies at a place of a slice of the call's own: T tells the errno and what the booking is then. -/
def LitOk (w : World) (F : Nat) (cs : Array Value) (b : Bkg) (T : Int → Bkg → Prop) : Prop :=
  ∀ (U : World) (m G n k : Nat) (lv : List BkV) (fo : Option Addr) (fc : Nat), Below w.heap.size w U → w.heap.size ≤ m → OwnB U m (.slice (some ⟨G, 0, none⟩) n n) lv → lv.length = n → lv[k]? = some (b, fo, fc) → Fo.OwnN U (G + 1) (.slice fo b.fol.length fc) b.fol →
    Calls Tryz.prog F (#[.pointer (some ⟨G, k * 11, none⟩)] ++ cs) U fun e w' => ∃ (r : Int) (b' : Bkg), e = .returned (.int .i64 r) ∧ T r b' ∧ (∀ i, i < U.heap.size → i ≠ G → w'.heap[i]? = U.heap[i]?) ∧ Below m U w' ∧
      (r = 0 → ∃ fo' fc', OwnB w' m (.slice (some ⟨G, 0, none⟩) n n) (lv.set k (b', fo', fc')) ∧ Fo.OwnN w' (G + 1) (.slice fo' b'.fol.length fc') b'.fol)
theorem setB_cells {x : Sail} {a : SailA} {l : List Bkg} (h : l.length = x.bks.length) : C.sail x a = C.sail (P.setB x l) a := by
  show _ = #[_, _, _, _, _, _, _, _, _, _, _, Value.slice _ l.length _, _]
  rw [h]
  rfl
/-- The sailing behind it. -/
theorem change2_fin {w w1 w' : World} {p N m G k : Nat} {x : Sail} {a : SailA} {lv : List BkV} {b' : Bkg} {fo' : Option Addr} {fc' : Nat} (hF : Fresh w1 N m G x a lv) (hs : ∀ i, i < (W.sail w1 x a).heap.size → i ≠ G → w'.heap[i]? = (W.sail w1 x a).heap[i]?) (hb : Below m (W.sail w1 x a) w')
    (hO : OwnB w' m (.slice (some ⟨G, 0, none⟩) x.bks.length x.bks.length) (lv.set k (b', fo', fc'))) (he : Fo.OwnN w' (G + 1) (.slice fo' b'.fol.length fc') b'.fol) :
    SRow w' w1.heap.size (P.setB x (x.bks.set k b')) a ∧ ∀ U, Gap p w.heap.size N w' U → SailAt U (P.setB x (x.bks.set k b')) a := by
  have hG := hF.lt
  have hnm := hF.nm
  have hmG := hF.mG
  have hsz : (W.sail w1 x a).heap.size = w1.heap.size + 1 := by simp
  have hbs := sail_below w1 x a
  have hz := hb.size
  refine ⟨?_, fun U hU => ?_⟩
  · obtain ⟨t, ht⟩ := (RowIs.new w1 _ _ : SRow (W.sail w1 x a) w1.heap.size x a)
    have e := setB_cells (x := x) (a := a) (l := x.bks.set k b') (by simp)
    exact ⟨t, by rw [← e, hs w1.heap.size (by omega) (by omega)]; exact ht⟩
  · have hUz := hU.1
    obtain ⟨s1, s2⟩ := hF.low U (by omega) (fun c h1 h2 => by
      rw [hU.2 c (.inr h1) (by omega), hb.block c h2, hbs.block c (by omega)])
    refine ⟨s1, s2, ?_⟩
    have hOU := OwnC.up hO (w' := U) ⟨hUz, fun c h1 h2 => hU.2 c (.inr (by omega)) h2⟩
    have hent : ∀ y ∈ lv.set k (b', fo', fc'), Fo.EntsAt U y.2.1 y.2.2 y.1.fol := fun y hy => by
      rcases List.mem_or_eq_of_mem_set hy with h | rfl
      · exact ents_own (OwnC.up (hF.ent y h) ⟨by omega, fun c h1 h2 => by
          rw [hU.2 c (.inr (by omega)) (by omega), hs c (by omega) (by omega), hbs.block c h2]⟩)
      · exact ents_own (OwnC.up he ⟨hUz, fun c h1 h2 => hU.2 c (.inr (by omega)) h2⟩)
    have := BkVsAt.all (bkvs_of (own_at cellsV_len hOU) hent)
    rw [List.map_set, hF.map] at this
    rw [← hF.ao, ← hF.cap] at this
    exact this

set_option maxHeartbeats 4000000 in
theorem change2_how (p : Nat) (w : World) (x : Sail) (pf pa F k : Nat) (cs : Array Value) (b : Bkg) (T : Int → Bkg → Prop) (hf : w.cell? ⟨pf, 0, none⟩ = some (.func (.func F) #[] cs)) (ha : w.cell? ⟨pa, 0, none⟩ = some (.int .i64 k)) (hk : x.bks[k]? = some b) (h16 : x.bks.length ≤ 16)
    (hcf : ∀ (args : Array Value) (wx : World), (callFunc F args).run Tryz.prog wx = .ok (.enter F args) wx) (hL : LitOk w F cs b T) :
    HowOk p w x 118 #[.pointer (some ⟨pf, 0, none⟩), .pointer (some ⟨pa, 0, none⟩)] (fun r => ∃ b', T r b') (fun y => ∃ b', T 0 b' ∧ y = P.setB x (x.bks.set k b')) := by
  intro w1 N m G a lv hB1 hN hF
  have hkl : k < x.bks.length := (List.getElem?_eq_some_iff.1 hk).1
  have hln : lv.length = x.bks.length := by rw [← hF.map]; simp
  have hBs := bvia hB1 (sail_below w1 x a)
  have hBd := bvia hBs (dr _)
  have f1 := cellIn hBd hf
  have a1 := cellIn hBd ha
  have f0 := cellIn hBs hf
  have a0 := cellIn hBs ha
  obtain ⟨v, hv⟩ : ∃ v, lv[k]? = some v := ⟨lv[k]'(by omega), List.getElem?_eq_getElem (by omega)⟩
  have hvb : v.1 = b := by
    have h1 : (lv.map (·.1))[k]? = some v.1 := by rw [List.getElem?_map, hv]; rfl
    rw [hF.map, hk] at h1
    exact (Option.some.inj h1).symm
  obtain ⟨vb, fo, fc⟩ := v
  have hvb : vb = b := hvb
  subst hvb
  have hmem : (vb, fo, fc) ∈ lv := List.mem_of_getElem? hv
  have HC : Aside (Calls Tryz.prog F (#[.pointer (some ⟨G, k * 11, none⟩)] ++ cs) (W.sail w1 x a).drew _) := hL (W.sail w1 x a).drew m G x.bks.length k lv fo fc hBd (Nat.le_trans hN hF.nm) (OwnC.below hF.own (bvia (sail_below w1 x a) (dr _))) hln hv (OwnC.below (hF.ent _ hmem) (bvia (sail_below w1 x a) (dr _)))
  have d11 : (W.sail w1 x a).drew.cell? ⟨w1.heap.size, 11, none⟩ = some (.slice (some ⟨G, 0, none⟩) x.bks.length x.bks.length) := by
    have := ((RowIs.new w1 (C.sail x a) 32).below (dr _)).cell 11
    rw [show (C.sail x a)[11]? = some (.slice a.ao x.bks.length a.cap) from rfl, hF.ao, hF.cap] at this
    exact this
  have HFR : Aside (Fresh w1 N m G x a lv) := hF
  have hki : (k : Int) < x.bks.length := by omega
  clear hF hL hBs hBd hmem hv
  go_enter Tryz.func118, Tryz.ntmps118
  clear hvb
  go_wp2_with fail
  go_region_with (first | (refine HC.out.mono ?_; rintro e w2 ⟨r, b', rfl, hT, hsame, hb2, hO⟩))
  all_goals
    have HFIN : Aside (Below m (W.sail w1 x a) w2 ∧ (r = 0 → ∃ y a', SRow w2 w1.heap.size y a' ∧ (∃ b', T 0 b' ∧ y = P.setB x (x.bks.set k b')) ∧ ∀ U, Gap p w.heap.size N w2 U → SailAt U y a')) := by
      have hb3 : Below m (W.sail w1 x a) w2 := ((dr (W.sail w1 x a)).mono (by have := HFR.out.lt; have := HFR.out.mG; simp; omega)).trans hb2
      refine ⟨hb3, fun h0 => ?_⟩
      subst h0
      obtain ⟨fo', fc', o1, o2⟩ := hO rfl
      obtain ⟨q1, q2⟩ := change2_fin (w := w) (p := p) HFR.out (fun i hi hne => hsame i hi hne) hb3 o1 o2
      exact ⟨_, a, q1, ⟨b', hT, rfl⟩, q2⟩
    have HT : Aside (T r b') := hT
    clear hT hsame hb2 hO HC d11 f0 f1 a0 a1
    go_wp2
    go_ret
    exact ⟨r, rfl, ⟨b', HT.out⟩, HFIN.out.2, HFIN.out.1⟩

end Go.Proofs.YtlamhfbdeinkkaeGreat.St
