/- Package sell: the literal of sell; sell. -/
import Derived.Test.YtlamhfbdeinkkaeGreatSeCs
import Derived.Test.YtlamhfbdeinkkaeGreatStOs
import Derived.BigRegion
namespace Go.Proofs.YtlamhfbdeinkkaeGreat.St
open Go.RowKit Bk
set_option linter.unusedSimpArgs false
set_option linter.unusedVariables false
set_option maxRecDepth 10000

/-- What lies in old blocks, behind whatever keeps them. -/
theorem SlAt.same {α : Type} {R : World → α → List Value → Prop} {size : Nat} (hR : ∀ w w' x cs, R w x cs → R w' x cs) {w U : World} {ao : Option Addr} {cap : Nat} {l : List α} (h : SlAt R size w ao cap l) (hs : ∀ b, b < w.heap.size → U.heap[b]? = w.heap[b]?) (hz : w.heap.size ≤ U.heap.size) : SlAt R size U ao cap l := by
  refine ⟨h.le, h.max, h.nil, fun h0 => ?_⟩
  obtain ⟨b, off, rfl, hlt, hc⟩ := h.cells h0
  refine ⟨b, off, rfl, Nat.lt_of_lt_of_le hlt hz, fun i hi => ?_⟩
  obtain ⟨cs, h1, h2, h3⟩ := hc i hi
  refine ⟨cs, hR _ _ _ _ h1, h2, fun j u hj => ?_⟩
  have h4 := h3 j u hj
  simp only [World.cell?] at h4 ⊢
  rw [hs b hlt]
  exact h4
theorem ents_own {U : World} {base : Nat} {ao : Option Addr} {cap : Nat} {l : List Fo.Ent} (h : Fo.OwnN U base (.slice ao l.length cap) l) : Fo.EntsAt U ao cap l := own_at Fo.cellsN_len h

/-- Where it belongs. -/
theorem place_ins {l : List Bkg} {z : Bkg} {k : Nat} (hp : PlaceIs l z.id k) (hn : P.isIn z.id l = false) : l.take k ++ z :: l.drop k = P.insB z l := by
  have hne : ∀ y ∈ l, y.id ≠ z.id := fun y hy e => by
    have := List.any_eq_false.1 hn y hy
    simp [e] at this
  have a1 : ∀ y ∈ l.take k, y.id < z.id := hp.lo
  have a2 : ∀ y ∈ l.drop k, z.id < y.id := fun y hy => by
    have h1 := hp.hi y hy
    have h2 := hne y (List.mem_of_mem_drop hy)
    omega
  have e1 : (l.take k).filter (fun y => decide (y.id < z.id)) = l.take k := List.filter_eq_self.2 (fun y hy => by simpa using a1 y hy)
  have e2 : (l.drop k).filter (fun y => decide (y.id < z.id)) = [] := List.filter_eq_nil_iff.2 (fun y hy => by have := a2 y hy; simp; omega)
  have e3 : (l.take k).filter (fun y => decide (z.id < y.id)) = [] := List.filter_eq_nil_iff.2 (fun y hy => by have := a1 y hy; simp; omega)
  have e4 : (l.drop k).filter (fun y => decide (z.id < y.id)) = l.drop k := List.filter_eq_self.2 (fun y hy => by simpa using a2 y hy)
  have e5 : l.filter (fun y => decide (y.id < z.id)) = l.take k := by
    rw [← List.take_append_drop k l, List.filter_append, List.take_append_drop, e1, e2, List.append_nil]
  have e6 : l.filter (fun y => decide (z.id < y.id)) = l.drop k := by
    rw [← List.take_append_drop k l, List.filter_append, List.take_append_drop, e3, e4, List.nil_append]
  rw [P.insB, e5, e6]

/-- A sailing with a booking more, in memory of its own but for that one's folio. -/
theorem sell1_fin {w w1 w2 w3 : World} {p N m G G' cap : Nat} {x : Sail} {a : SailA} {lv : List BkV} {z : Bkg} {fo : Option Addr} {fc k : Nat} (hF : Fresh w1 N m G x a lv) (hw : Below w.heap.size w w1) (hN : w.heap.size ≤ N) (hf : ∀ U, Gap p w.heap.size N w U → Fo.EntsAt U fo fc z.fol) (hk : PlaceIs x.bks z.id k) (hn : P.isIn z.id x.bks = false)
    (hb : Below (W.sail w1 x a).heap.size (W.sail w1 x a) w2) (hO : OwnB w3 m (.slice (some ⟨G', 0, none⟩) (x.bks.length + 1) cap) (lv.take k ++ (z, fo, fc) :: lv.drop k)) (hg1 : w2.grownBy w3 (some G)) :
    (∃ y a', SRow (w3.setCell ⟨w1.heap.size, 11, none⟩ (.slice (some ⟨G', 0, none⟩) (x.bks.length + 1) cap)) w1.heap.size y a' ∧ y = P.withB x z ∧ ∀ U, Gap p w.heap.size N (w3.setCell ⟨w1.heap.size, 11, none⟩ (.slice (some ⟨G', 0, none⟩) (x.bks.length + 1) cap)) U → SailAt U y a') ∧
    Below m (W.sail w1 x a) (w3.setCell ⟨w1.heap.size, 11, none⟩ (.slice (some ⟨G', 0, none⟩) (x.bks.length + 1) cap)) := by
  have hGw := hF.lt
  have hmG := hF.mG
  have hNm := hF.nm
  have hwx : w.heap.size ≤ w1.heap.size := hw.size
  have hsz : (W.sail w1 x a).heap.size = w1.heap.size + 1 := by simp
  have h2 := hb.size
  have h3 := hg1.size
  have hbs : Below w1.heap.size w1 w2 := bvia (sail_below w1 x a) hb
  have hR3 : SRow w3 w1.heap.size x a := ((RowIs.new w1 _ _ : SRow (W.sail w1 x a) w1.heap.size x a).below hb).gr hg1 (by simp; omega)
  have hne : G' ≠ w1.heap.size := fun e => by
    subst e
    rcases hO.2 with ⟨h, _⟩ | ⟨g', cap', cur, hv, _, hh, _, _, hs, _⟩
    · cases h
    · simp only [Value.slice.injEq, Option.some.injEq, Addr.mk.injEq, and_true] at hv
      obtain ⟨rfl, _, rfl⟩ := hv
      obtain ⟨t, h13⟩ := hR3
      rw [h13] at hh
      simp only [Option.some.injEq, Obj.cells.injEq] at hh
      rw [← hh.1] at hs
      have : (13 : Nat) = cap * 11 := hs
      omega
  have hlen : (P.insB z x.bks).length = x.bks.length + 1 := by
    rw [← place_ins hk hn, List.length_append, List.length_cons, List.length_take, List.length_drop]
    have := hk.le
    omega
  obtain ⟨V, hV⟩ : ∃ V, (.slice (some ⟨G', 0, none⟩) (x.bks.length + 1) cap : Value) = V := ⟨_, rfl⟩
  have hg9 := grown_st w3 w1.heap.size 11 V
  have hO9 : OwnB (w3.setCell ⟨w1.heap.size, 11, none⟩ V) m (.slice (some ⟨G', 0, none⟩) (x.bks.length + 1) cap) (lv.take k ++ (z, fo, fc) :: lv.drop k) := OwnC.apart hO hg9 (fun r e hv => by cases e; simp [Value.ownBlock] at hv; exact hne hv)
  have hR9 : SRow (w3.setCell ⟨w1.heap.size, 11, none⟩ V) w1.heap.size (P.withB x z) ⟨a.v, a.lo, a.bo, a.lc, a.bc, some ⟨G', 0, none⟩, cap⟩ := by
    have h := RowIs.set (k := 11) hR3 V
    have e : (C.sail x a).setIfInBounds 11 V = C.sail (P.withB x z) ⟨a.v, a.lo, a.bo, a.lc, a.bc, some ⟨G', 0, none⟩, cap⟩ := by
      rw [← hV]
      show _ = #[_, _, _, _, _, _, _, _, _, _, _, Value.slice _ (P.insB z x.bks).length _, _]
      rw [hlen]
      rfl
    rwa [e] at h
  have hz9 : w3.heap.size ≤ (w3.setCell ⟨w1.heap.size, 11, none⟩ V).heap.size := hg9.size
  rw [hV]
  have hB9 : Below m (W.sail w1 x a) (w3.setCell ⟨w1.heap.size, 11, none⟩ V) := below_gr (below_gr (hb.mono (by omega)) (by omega) hg1 (by omega)) (by omega) hg9 (by omega)
  refine ⟨⟨P.withB x z, ⟨a.v, a.lo, a.bo, a.lc, a.bc, some ⟨G', 0, none⟩, cap⟩, hR9, rfl, fun U hU => ?_⟩, hB9⟩
  have same : ∀ b, b < w1.heap.size → b ≠ G → (p ≤ b ∧ b < w.heap.size ∨ N ≤ b) → U.heap[b]? = w1.heap[b]? := fun b h1 hne hor => by
    rw [hU.2 b hor (by omega), hg9.block b (by omega) (by simp; omega), hg1.block b (by omega) (by simp [hne]), hbs.block b h1]
  have hUz : w1.heap.size ≤ U.heap.size := Nat.le_trans (by omega) hU.1
  obtain ⟨s1, s2⟩ := hF.low U hUz (fun b h4 h5 => same b (by omega) (by omega) (.inr h4))
  refine ⟨s1, s2, ?_⟩
  have hOU : OwnB U m (.slice (some ⟨G', 0, none⟩) (x.bks.length + 1) cap) (lv.take k ++ (z, fo, fc) :: lv.drop k) := OwnC.up hO9 ⟨hU.1, fun b h4 h5 => hU.2 b (.inr (by omega)) h5⟩
  have hent : ∀ y ∈ lv.take k ++ (z, fo, fc) :: lv.drop k, Fo.EntsAt U y.2.1 y.2.2 y.1.fol := fun y hy => by
    have hold : ∀ y ∈ lv, Fo.EntsAt U y.2.1 y.2.2 y.1.fol := fun y hy => ents_own (OwnC.up (hF.ent y hy) ⟨hUz, fun b h4 h5 => same b h5 (by omega) (.inr (by omega))⟩)
    rcases List.mem_append.1 hy with hy | hy
    · exact hold y (List.mem_of_mem_take hy)
    · rcases List.mem_cons.1 hy with rfl | hy
      · refine hf U ⟨Nat.le_trans hwx hUz, fun b h4 h5 => ?_⟩
        rw [same b (by omega) (by omega) h4, hw.block b h5]
      · exact hold y (List.mem_of_mem_drop hy)
  have := BkVsAt.all (bkvs_of (own_at cellsV_len hOU) hent)
  rw [List.map_append, List.map_cons, List.map_take, List.map_drop, hF.map, place_ins hk hn] at this
  exact this

set_option maxHeartbeats 4000000 in
theorem sell1_how (p : Nat) (w : World) (x : Sail) (pa pb : Nat) (z : Bkg) (fo : Option Addr) (fc k : Nat) (h16 : x.bks.length ≤ 1000) (ha : w.cell? ⟨pa, 0, none⟩ = some (.int .i64 k)) (hb : BBox w pb z fo fc) (hf : ∀ N U, Gap p w.heap.size N w U → Fo.EntsAt U fo fc z.fol) (hk : PlaceIs x.bks z.id k) (hn : P.isIn z.id x.bks = false) :
    HowOk p w x 162 #[.pointer (some ⟨pa, 0, none⟩), .pointer (some ⟨pb, 0, none⟩)] (fun r => r = 0) (fun y => y = P.withB x z) := by
  intro w1 N m G a lv hw hN hF
  show Calls Tryz.prog 162 #[.pointer (some ⟨w1.heap.size, 0, none⟩), .pointer (some ⟨pa, 0, none⟩), .pointer (some ⟨pb, 0, none⟩)] (W.sail w1 x a) _
  have hw2 := bvia hw (sail_below w1 x a)
  have hR : SRow (W.sail w1 x a) w1.heap.size x a := RowIs.new w1 _ _
  have c11 : (W.sail w1 x a).cell? ⟨w1.heap.size, 11, none⟩ = some (.slice (some ⟨G, 0, none⟩) x.bks.length x.bks.length) := by
    have := hR.cell 11
    rw [show (C.sail x a)[11]? = some (.slice a.ao x.bks.length a.cap) from rfl, hF.ao, hF.cap] at this
    exact this
  have ca := cellIn hw2 ha
  obtain ⟨z0, z1, z2, z3, z4, z5, z6, z7, z8, z9, z10⟩ := hb.below hw2
  have hlv : lv.length = x.bks.length := by rw [← hF.map, List.length_map]
  have HF : Aside (Fresh w1 N m G x a lv) := hF
  have HLV : Aside (lv.length = x.bks.length) := hlv
  have HR : Aside (SRow (W.sail w1 x a) w1.heap.size x a) := hR
  have HP : Aside (PlaceIs x.bks z.id k) := hk
  have HNI : Aside (P.isIn z.id x.bks = false) := hn
  have HEF : Aside (∀ U, Gap p w.heap.size N w U → Fo.EntsAt U fo fc z.fol) := hf N
  have HSB : Aside (Below w1.heap.size w1 (W.sail w1 x a)) := sail_below w1 x a
  have hkl : k ≤ x.bks.length := hk.le
  have hG1 : G < w1.heap.size := hF.lt
  have hmG : m ≤ G := hF.mG
  have hzs : (W.sail w1 x a).heap.size = w1.heap.size + 1 := by simp
  obtain ⟨wx, hwx⟩ : ∃ wx, W.sail w1 x a = wx := ⟨_, rfl⟩
  have HWX : Aside (W.sail w1 x a = wx) := hwx
  rw [hwx] at c11 ca z0 z1 z2 z3 z4 z5 z6 z7 z8 z9 z10 HR HSB hzs ⊢
  have hgl : w1.heap.size < wx.heap.size := by omega
  have hpa : pa < wx.heap.size := World.block_lt_of_cell? wx _ ca
  have hpb : pb < wx.heap.size := World.block_lt_of_cell? wx _ z0
  have hba : Below wx.heap.size wx (W.bk wx z fo fc) := bk_below wx z fo fc
  have hmw : m ≤ wx.heap.size := by omega
  have hgG : w1.heap.size ≠ G := by omega
  clear hR hF hk hn hlv hb hwx hzs hw2 hf
  go_enter Tryz.func162, Tryz.ntmps162
  go_wp2_with fail
  go_region_with (go_at_call 163; refine (insert_own lv x.bks.length k HLV.out hkl h16 G wx.heap.size m z fo fc _ (by first | exact Nat.le_trans hmw hba.size | (simp; omega)) (OwnC.below HF.out.own (bvia HSB.out (by first | exact hba | go_grown))) (by first | exact one_bk wx z fo fc | exact SlAt.below (RC.mono _) (one_bk wx z fo fc) (by go_grown))).mono ?_; rintro e w3 ⟨G', cap', rfl, own3, gr3⟩; have hR3 : SRow w3 w1.heap.size x a := ((HR.out.below hba).gr (by first | exact gr3 | exact ⟨gr3.os, gr3.tape, gr3.output, gr3.size, gr3.block⟩) (by simp; omega)); have c3 := hR3.cell 11; have f3 := hR3.free 11; have hg3 : w1.heap.size < w3.heap.size := hR3.lt)
  all_goals
    have HFI := fun (hb2 : Below (W.sail w1 x a).heap.size (W.sail w1 x a) _) => sell1_fin HF.out hw hN HEF.out HP.out HNI.out hb2 own3 gr3
    have HFI2 := HFI (by rw [HWX.out]; first | exact hba | go_grown)
    have HF9 : Aside _ := HFI2
    clear HFI HFI2 c3 f3 hR3 own3 gr3
    go_wp2
    go_ret
    exact ⟨0, rfl, rfl, fun _ => HF9.out.1, by have := HF9.out.2; rw [HWX.out] at this; exact this⟩

end Go.Proofs.YtlamhfbdeinkkaeGreat.St
