/- The reference: BookingAt. -/
import Derived.Test.YtlamhfbdeinkkaeGreatStAp
import Derived.Test.YtlamhfbdeinkkaeGreatSeLp
import Derived.Test.YtlamhfbdeinkkaeGreatBaCp
import Derived.Test.YtlamhfbdeinkkaeGreatStRp
import Derived.Test.YtlamhfbdeinkkaeGreatStOp
import Derived.Test.YtlamhfbdeinkkaeGreatAnCp
import Derived.Test.YtlamhfbdeinkkaeGreatStXp
import Derived.Test.YtlamhfbdeinkkaeGreatSeAp
import Derived.Deep.MidRow
import Derived.Deep.RegionHeld3
namespace Go.Proofs.YtlamhfbdeinkkaeGreat.St
open Go.RowKit Bk
set_option linter.unusedSimpArgs false
set_option linter.unusedVariables false
set_option maxRecDepth 10000

/-- The place of a number; -1: it is not there. -/
def P.bat (id : Int) : Nat → List Bkg → Int
  | _, [] => -1
  | i, b :: t => if b.id = id then i else P.bat id (i + 1) t
theorem bat_neg {id : Int} {i : Nat} {l : List Bkg} : P.bat id i l = -1 ↔ ∀ b ∈ l, b.id ≠ id := by
  induction l generalizing i with
  | nil => simp [P.bat]
  | cons b t ih =>
    rw [P.bat]
    split
    · rename_i h
      simp [h]
    · rename_i h
      rw [ih]
      simp [h]
set_option maxHeartbeats 1000000 in
theorem bookingAt_any (x : Sail) (a : SailA) (id : Int) (w : World) (hs : SailAt w x a) :
    Calls Tryz.prog 13 #[V.sail x a, .int .i64 id] w fun e w' => e = .returned (.int .i64 (P.bat id 0 x.bks)) ∧ Below w.heap.size w w' := by
  have hle := hs.bks.le
  have hmx := hs.bks.max
  unfold maxLen at hmx
  have hsx := SBox.new w x a
  have hsb := sail_below w x a
  go_enter Tryz.func13, Tryz.ntmps13
  go_wp2
  go_loopg [5] x.bks.length (fun g i wr => ∃ (k : Nat), k ≤ x.bks.length ∧ g = x.bks.length - k ∧ i = .int .i64 k ∧ Aside (P.bat id k (x.bks.drop k) = P.bat id 0 x.bks) ∧ SBox wr w.heap.size x a ∧ Below w.heap.size w wr)
  case atStart => exact ⟨0, Nat.zero_le _, rfl, rfl, rfl, hsx, hsb⟩
  case round =>
    obtain ⟨k, hk, rfl, rfl, HP, hbx, hB⟩ := hrel
    have HBX : Aside (SBox wr w.heap.size x a) := hbx
    have c11 := hbx.c11
    clear hbx
    by_cases hlt : k < x.bks.length
    · obtain ⟨b, off, y, fo, fc, hao, hbw, hd, hy, hfy⟩ := BksAt.get hs.bks hB k hlt
      have h : P.bat id k (x.bks.drop k) = P.bat id 0 x.bks := HP
      rw [hd, P.bat] at h
      have HP2 : Aside ((if y.id = id then (k : Int) else P.bat id (k + 1) (x.bks.drop (k + 1))) = P.bat id 0 x.bks) := h
      rw [hao] at c11
      have y0 := hy.c0
      have hkl : (k : Int) < x.bks.length := by omega
      clear h hd HP hy hfy hao
      cases hy : (y.id == id)
      · have HP3 : Aside (P.bat id (k + 1) (x.bks.drop (k + 1)) = P.bat id 0 x.bks) := by have := HP2.out; rw [if_neg (by simpa using hy)] at this; exact this
        clear HP2
        go_wp2
        go_roundg (x.bks.length - (k + 1))
        case measure => omega
        case rel => exact ⟨k + 1, by omega, rfl, by go_num, HP3, HBX.out, hB⟩
      · have HP3 : Aside ((k : Int) = P.bat id 0 x.bks) := by have := HP2.out; rw [if_pos (by simpa using hy)] at this; exact this
        clear HP2
        go_wp2
        go_ret
        exact ⟨ret_int HP3.out, hB⟩
    · obtain rfl : k = x.bks.length := by omega
      have h : P.bat id x.bks.length (x.bks.drop x.bks.length) = P.bat id 0 x.bks := HP
      rw [List.drop_of_length_le (Nat.le_refl _), P.bat] at h
      have HP3 : Aside (-1 = P.bat id 0 x.bks) := h
      clear h HP
      go_wp2
      go_ret
      exact ⟨ret_int HP3.out, hB⟩

end Go.Proofs.YtlamhfbdeinkkaeGreat.St
namespace Go.Proofs.YtlamhfbdeinkkaeGreat.St
open Go.RowKit Bk
set_option linter.unusedSimpArgs false
set_option linter.unusedVariables false
set_option maxRecDepth 10000

/-- Where a number stands. -/
theorem bat_at {l : List Bkg} {id : Int} (i : Nat) (h : ∃ b ∈ l, b.id = id) : ∃ k : Nat, P.bat id i l = ((i + k : Nat) : Int) ∧ k < l.length ∧ ∃ b, l[k]? = some b ∧ b.id = id := by
  induction l generalizing i with
  | nil => obtain ⟨b, hb, _⟩ := h; simp at hb
  | cons y t ih =>
    by_cases hy : y.id = id
    · exact ⟨0, by rw [P.bat, if_pos hy]; simp, by simp, y, rfl, hy⟩
    · obtain ⟨b, hb, hid⟩ := h
      rcases List.mem_cons.1 hb with rfl | hb
      · exact absurd hid hy
      · obtain ⟨k, h1, h2, c, h3, h4⟩ := ih (i + 1) ⟨b, hb, hid⟩
        refine ⟨k + 1, ?_, by simp; omega, c, by simpa using h3, h4⟩
        rw [P.bat, if_neg hy, h1]
        congr 1
        omega
theorem id_one {l : List Bkg} (hr : l.Pairwise (fun a b => a.id < b.id)) {a b : Bkg} (ha : a ∈ l) (hb : b ∈ l) (e : a.id = b.id) : a = b := by
  induction l with
  | nil => simp at ha
  | cons y t ih =>
    obtain ⟨h1, h2⟩ := List.pairwise_cons.1 hr
    rcases List.mem_cons.1 ha with p1 | p1 <;> rcases List.mem_cons.1 hb with p2 | p2
    · rw [p1, p2]
    · have := h1 b p2; rw [p1] at e; omega
    · have := h1 a p1; rw [p2] at e; omega
    · exact ih h2 p1 p2
end Go.Proofs.YtlamhfbdeinkkaeGreat.St
namespace Go.Proofs.YtlamhfbdeinkkaeGreat.St
open Go.RowKit Bk
set_option linter.unusedSimpArgs false
set_option linter.unusedVariables false
set_option maxRecDepth 10000

/-- The place of a live booking of a number. -/
def P.LiveIs (l : List Bkg) (id n : Int) : Prop := (∃ (k : Nat) (b : Bkg), n = k ∧ l[k]? = some b ∧ b.id = id ∧ b.state ≠ 3) ∨ (n = -1 ∧ ∀ b ∈ l, b.id = id → b.state = 3)
theorem LiveIs.one {l : List Bkg} {id n m : Int} (hr : l.Pairwise (fun a b => a.id < b.id)) (h : P.LiveIs l id n) (h' : P.LiveIs l id m) : n = m := by
  rcases h with ⟨k, b, rfl, h1, h2, h3⟩ | ⟨rfl, h1⟩ <;> rcases h' with ⟨k', b', rfl, g1, g2, g3⟩ | ⟨rfl, g1⟩
  · obtain ⟨hk, e1⟩ := List.getElem?_eq_some_iff.1 h1
    obtain ⟨hk', e2⟩ := List.getElem?_eq_some_iff.1 g1
    have hp := List.pairwise_iff_getElem.1 hr
    rcases Nat.lt_trichotomy k k' with hlt | rfl | hlt
    · have := hp k k' hk hk' hlt
      rw [e1, e2] at this
      omega
    · rfl
    · have := hp k' k hk' hk hlt
      rw [e1, e2] at this
      omega
  · exact absurd (g1 b (List.mem_of_getElem? h1) h2) h3
  · exact absurd (h1 b' (List.mem_of_getElem? g1) g2) g3
  · rfl

end Go.Proofs.YtlamhfbdeinkkaeGreat.St
namespace Go.Proofs.YtlamhfbdeinkkaeGreat.St
open Go.RowKit Bk
set_option linter.unusedSimpArgs false
set_option linter.unusedVariables false
set_option maxRecDepth 10000

theorem own_row {w : World} {base G cap n : Nat} {lv : List BkV} (h : OwnB w base (.slice (some ⟨G, 0, none⟩) n cap) lv) (hn : lv.length = n) (h0 : 0 < n) : ∃ cur, w.heap[G]? = some (.cells cur 37 (0, 0)) ∧ cur.size = cap * 11 ∧ n ≤ cap ∧ base ≤ G := by
  obtain ⟨hx, h2⟩ := h
  rcases h2 with ⟨h3, _⟩ | ⟨g', cap', cur, hv, hgb, hh, hn', hcm, hsz, htk⟩
  · simp at h3
  · simp only [Value.slice.injEq, Option.some.injEq, Addr.mk.injEq, and_true] at hv
    obtain ⟨rfl, rfl, rfl⟩ := hv
    exact ⟨cur, hh, hsz, hn', hgb⟩
theorem own_there {w : World} {base G cap n k : Nat} {lv : List BkV} (h : OwnB w base (.slice (some ⟨G, 0, none⟩) n cap) lv) (hn : lv.length = n) (hk : k < n) : w.there G (k * 11) 11 := by
  obtain ⟨cur, h1, h2, h3, _⟩ := own_row h hn (by omega)
  intro j hj
  have hlt : k * 11 + j < cur.size := by omega
  refine ⟨?_, by simp [World.frozen?, h1]⟩
  rw [cell_of_row w G (k * 11 + j) cur _ (0, 0) h1, Array.getElem?_eq_getElem hlt]
  rfl
end Go.Proofs.YtlamhfbdeinkkaeGreat.St
namespace Go.Proofs.YtlamhfbdeinkkaeGreat.St
open Go.RowKit Bk
set_option linter.unusedSimpArgs false
set_option linter.unusedVariables false
set_option maxRecDepth 10000

/-- What a literal does to a booking b that lies at a place of a slice of the call's own: T tells the errno and what the booking is then. -/
def LitOk (w : World) (F : Nat) (cs : Array Value) (b : Bkg) (T : Int → Bkg → Prop) : Prop :=
  ∀ (U : World) (m G n k : Nat) (lv : List BkV) (fo : Option Addr) (fc : Nat), Below w.heap.size w U → w.heap.size ≤ m → OwnB U m (.slice (some ⟨G, 0, none⟩) n n) lv → lv.length = n → lv[k]? = some (b, fo, fc) → Fo.OwnN U (G + 1) (.slice fo b.fol.length fc) b.fol →
    Calls Tryz.prog F (#[.pointer (some ⟨G, k * 11, none⟩)] ++ cs) U fun e w' => ∃ (r : Int) (b' : Bkg), e = .returned (.int .i64 r) ∧ T r b' ∧ (∀ i, i < U.heap.size → i ≠ G → w'.heap[i]? = U.heap[i]?) ∧ Below m U w' ∧
      (r = 0 → ∃ fo' fc', OwnB w' m (.slice (some ⟨G, 0, none⟩) n n) (lv.set k (b', fo', fc')) ∧ Fo.OwnN w' (G + 1) (.slice fo' b'.fol.length fc') b'.fol)
theorem setB_cells {x : Sail} {a : SailA} {l : List Bkg} (h : l.length = x.bks.length) : C.sail x a = C.sail (P.setB x l) a := by
  show _ = #[_, _, _, _, _, _, _, _, _, _, _, Value.slice _ l.length _, _]
  rw [h]
  rfl
/-- The sailing behind it. -/
theorem change2_fin {w w1 w' : World} {p N m G k : Nat} {x : Sail} {a : SailA} {lv : List BkV} {b' : Bkg} {fo' : Option Addr} {fc' : Nat} (hF : Fresh w1 N m G x a lv) (hs : ∀ i, i < (W.sail w1 x a).heap.size → i ≠ G → w'.heap[i]? = (W.sail w1 x a).heap[i]?) (hb : Below m (W.sail w1 x a) w')
    (hO : OwnB w' m (.slice (some ⟨G, 0, none⟩) x.bks.length x.bks.length) (lv.set k (b', fo', fc'))) (he : Fo.OwnN w' (G + 1) (.slice fo' b'.fol.length fc') b'.fol) :
    SRow w' w1.heap.size (P.setB x (x.bks.set k b')) a ∧ ∀ U, Gap p w.heap.size N w' U → SailAt U (P.setB x (x.bks.set k b')) a := by
  have hG := hF.lt
  have hnm := hF.nm
  have hmG := hF.mG
  have hsz : (W.sail w1 x a).heap.size = w1.heap.size + 1 := by simp
  have hbs := sail_below w1 x a
  have hz := hb.size
  refine ⟨?_, fun U hU => ?_⟩
  · obtain ⟨t, ht⟩ := (RowIs.new w1 _ _ : SRow (W.sail w1 x a) w1.heap.size x a)
    have e := setB_cells (x := x) (a := a) (l := x.bks.set k b') (by simp)
    exact ⟨t, by rw [← e, hs w1.heap.size (by omega) (by omega)]; exact ht⟩
  · have hUz := hU.1
    obtain ⟨s1, s2⟩ := hF.low U (by omega) (fun c h1 h2 => by
      rw [hU.2 c (.inr h1) (by omega), hb.block c h2, hbs.block c (by omega)])
    refine ⟨s1, s2, ?_⟩
    have hOU := OwnC.up hO (w' := U) ⟨hUz, fun c h1 h2 => hU.2 c (.inr (by omega)) h2⟩
    have hent : ∀ y ∈ lv.set k (b', fo', fc'), Fo.EntsAt U y.2.1 y.2.2 y.1.fol := fun y hy => by
      rcases List.mem_or_eq_of_mem_set hy with h | rfl
      · exact ents_own (OwnC.up (hF.ent y h) ⟨by omega, fun c h1 h2 => by
          rw [hU.2 c (.inr (by omega)) (by omega), hs c (by omega) (by omega), hbs.block c h2]⟩)
      · exact ents_own (OwnC.up he ⟨hUz, fun c h1 h2 => hU.2 c (.inr (by omega)) h2⟩)
    have := BkVsAt.all (bkvs_of (own_at cellsV_len hOU) hent)
    rw [List.map_set, hF.map] at this
    rw [← hF.ao, ← hF.cap] at this
    exact this

set_option maxHeartbeats 4000000 in
theorem change2_how (p : Nat) (w : World) (x : Sail) (pf pa F k : Nat) (cs : Array Value) (b : Bkg) (T : Int → Bkg → Prop) (hf : w.cell? ⟨pf, 0, none⟩ = some (.func (.func F) #[] cs)) (ha : w.cell? ⟨pa, 0, none⟩ = some (.int .i64 k)) (hk : x.bks[k]? = some b) (h16 : x.bks.length ≤ 16)
    (hcf : ∀ (args : Array Value) (wx : World), (callFunc F args).run Tryz.prog wx = .ok (.enter F args) wx) (hL : LitOk w F cs b T) :
    HowOk p w x 118 #[.pointer (some ⟨pf, 0, none⟩), .pointer (some ⟨pa, 0, none⟩)] (fun r => ∃ b', T r b') (fun y => ∃ b', T 0 b' ∧ y = P.setB x (x.bks.set k b')) := by
  intro w1 N m G a lv hB1 hN hF
  have hkl : k < x.bks.length := (List.getElem?_eq_some_iff.1 hk).1
  have hln : lv.length = x.bks.length := by rw [← hF.map]; simp
  have hBs := bvia hB1 (sail_below w1 x a)
  have hBd := bvia hBs (dr _)
  have f1 := cellIn hBd hf
  have a1 := cellIn hBd ha
  have f0 := cellIn hBs hf
  have a0 := cellIn hBs ha
  obtain ⟨v, hv⟩ : ∃ v, lv[k]? = some v := ⟨lv[k]'(by omega), List.getElem?_eq_getElem (by omega)⟩
  have hvb : v.1 = b := by
    have h1 : (lv.map (·.1))[k]? = some v.1 := by rw [List.getElem?_map, hv]; rfl
    rw [hF.map, hk] at h1
    exact (Option.some.inj h1).symm
  obtain ⟨vb, fo, fc⟩ := v
  have hvb : vb = b := hvb
  subst hvb
  have hmem : (vb, fo, fc) ∈ lv := List.mem_of_getElem? hv
  have HC : Aside (Calls Tryz.prog F (#[.pointer (some ⟨G, k * 11, none⟩)] ++ cs) (W.sail w1 x a).drew _) := hL (W.sail w1 x a).drew m G x.bks.length k lv fo fc hBd (Nat.le_trans hN hF.nm) (OwnC.below hF.own (bvia (sail_below w1 x a) (dr _))) hln hv (OwnC.below (hF.ent _ hmem) (bvia (sail_below w1 x a) (dr _)))
  have d11 : (W.sail w1 x a).drew.cell? ⟨w1.heap.size, 11, none⟩ = some (.slice (some ⟨G, 0, none⟩) x.bks.length x.bks.length) := by
    have := ((RowIs.new w1 (C.sail x a) 32).below (dr _)).cell 11
    rw [show (C.sail x a)[11]? = some (.slice a.ao x.bks.length a.cap) from rfl, hF.ao, hF.cap] at this
    exact this
  have HFR : Aside (Fresh w1 N m G x a lv) := hF
  have hki : (k : Int) < x.bks.length := by omega
  clear hF hL hBs hBd hmem hv
  go_enter Tryz.func118, Tryz.ntmps118
  clear hvb
  go_wp2_with fail
  go_region_with (first | (refine HC.out.mono ?_; rintro e w2 ⟨r, b', rfl, hT, hsame, hb2, hO⟩))
  all_goals
    have HFIN : Aside (Below m (W.sail w1 x a) w2 ∧ (r = 0 → ∃ y a', SRow w2 w1.heap.size y a' ∧ (∃ b', T 0 b' ∧ y = P.setB x (x.bks.set k b')) ∧ ∀ U, Gap p w.heap.size N w2 U → SailAt U y a')) := by
      have hb3 : Below m (W.sail w1 x a) w2 := ((dr (W.sail w1 x a)).mono (by have := HFR.out.lt; have := HFR.out.mG; simp; omega)).trans hb2
      refine ⟨hb3, fun h0 => ?_⟩
      subst h0
      obtain ⟨fo', fc', o1, o2⟩ := hO rfl
      obtain ⟨q1, q2⟩ := change2_fin (w := w) (p := p) HFR.out (fun i hi hne => hsame i hi hne) hb3 o1 o2
      exact ⟨_, a, q1, ⟨b', hT, rfl⟩, q2⟩
    have HT : Aside (T r b') := hT
    clear hT hsame hb2 hO HC d11 f0 f1 a0 a1
    go_wp2
    go_ret
    exact ⟨r, rfl, ⟨b', HT.out⟩, HFIN.out.2, HFIN.out.1⟩

end Go.Proofs.YtlamhfbdeinkkaeGreat.St
