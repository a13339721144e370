/- The reference: WithBooking. -/
import Derived.Test.YtpjfpgimpgmhcadGreatStXo
import Derived.Test.YtpjfpgimpgmhcadGreatStRo
import Derived.Test.YtpjfpgimpgmhcadGreatSeAo
import Derived.Test.YtpjfpgimpgmhcadGreatBxAo
import Derived.BigRegion
namespace Go.Proofs.YtpjfpgimpgmhcadGreat.St
open Go.RowKit Bk
set_option linter.unusedSimpArgs false
set_option linter.unusedVariables false
set_option maxRecDepth 10000

abbrev O.zero : Obj := .cells #[.int .i64 0, .int .i64 0, .slice none 0 0, .slice none 0 0, .slice none 0 0, .int .i64 0, .int .i64 0, .slice none 0 0, .int .i64 0, .int .i64 0, .int .i64 0, .slice none 0 0, .bool false] 32
abbrev W.wb (w : World) (x : Sail) (a : SailA) (b : Bkg) (fo : Option Addr) (fc : Nat) : World := (W.bk (W.sail w x a) b fo fc).alloc O.zero

abbrev O.bk (b : Bkg) (fo : Option Addr) (fc : Nat) : Obj := .cells #[.int .i64 b.id, .int .i64 b.kind, .int .i64 b.state, .int .i64 b.guests, .bool b.level, .int .i64 b.cabin, .int .i64 b.cat, .int .i64 b.frm, .int .i64 b.to, .int .i64 b.til, .slice fo b.fol.length fc] 42
theorem one_at {U : World} {n : Nat} {b : Bkg} {fo : Option Addr} {fc : Nat} (h : U.heap[n]? = some (O.bk b fo fc)) : SlAt (RC cellsV) 11 U (some ⟨n, 0, none⟩) 1 [(b, fo, fc)] :=
  SlAt.ofBlock (l := [(b, fo, fc)]) [cellsV (b, fo, fc)] h rfl rfl (fun i hi => by
    have hi : i < 1 := hi
    match i, hi with
    | 0, _ => exact ⟨_, rfl, rfl⟩) (by intro c hc; simp at hc; subst hc; rfl) (by simp [maxLen])
theorem new_up {w : World} {o : Obj} {n : Nat} (hn : w.heap.size = n) : (w.alloc o).heap[n]? = some o := by subst hn; exact heap_alloc_new w o
theorem gr_one {X U : World} {row : Option Nat} {n : Nat} {o : Obj} (gr : X.grownBy U row) (h : X.heap[n]? = some o) (hr : some n ≠ row) : U.heap[n]? = some o := by
  rw [gr.block n (Array.getElem?_eq_some_iff.1 h).1 hr]
  exact h

abbrev C.zero : Array Value := #[.int .i64 0, .int .i64 0, .slice none 0 0, .slice none 0 0, .slice none 0 0, .int .i64 0, .int .i64 0, .slice none 0 0, .int .i64 0, .int .i64 0, .int .i64 0, .slice none 0 0, .bool false]
/-- A booking, stored cell by cell. -/
abbrev W.put (w : World) (G p : Nat) (b : Bkg) (fo : Option Addr) (fc : Nat) : World := (((((((((((w.setCell ⟨G, p, none⟩ (.int .i64 b.id)).setCell ⟨G, p + 1, none⟩ (.int .i64 b.kind)).setCell ⟨G, p + 2, none⟩ (.int .i64 b.state)).setCell ⟨G, p + 3, none⟩ (.int .i64 b.guests)).setCell ⟨G, p + 4, none⟩ (.bool b.level)).setCell ⟨G, p + 5, none⟩ (.int .i64 b.cabin)).setCell ⟨G, p + 6, none⟩ (.int .i64 b.cat)).setCell ⟨G, p + 7, none⟩ (.int .i64 b.frm)).setCell ⟨G, p + 8, none⟩ (.int .i64 b.to)).setCell ⟨G, p + 9, none⟩ (.int .i64 b.til)).setCell ⟨G, p + 10, none⟩ (.slice fo b.fol.length fc))
theorem put_eq (w : World) (G p : Nat) (b : Bkg) (fo : Option Addr) (fc : Nat) : W.put w G p b fo fc = w.setCells G p (cellsV (b, fo, fc)) := rfl
theorem insV_of {A B : List BkV} {z : BkV} (h1 : ∀ y ∈ A, y.1.id < z.1.id) (h2 : ∀ y ∈ B, z.1.id < y.1.id) : P.insV z (A ++ B) = A ++ z :: B := by
  have e1 : A.filter (fun y => decide (y.1.id < z.1.id)) = A := List.filter_eq_self.2 (fun y hy => by simpa using h1 y hy)
  have e2 : B.filter (fun y => decide (y.1.id < z.1.id)) = [] := List.filter_eq_nil_iff.2 (fun y hy => by have := h2 y hy; simp; omega)
  have e3 : A.filter (fun y => decide (z.1.id < y.1.id)) = [] := List.filter_eq_nil_iff.2 (fun y hy => by have := h1 y hy; simp; omega)
  have e4 : B.filter (fun y => decide (z.1.id < y.1.id)) = B := List.filter_eq_self.2 (fun y hy => by simpa using h2 y hy)
  rw [P.insV, List.filter_append, List.filter_append, e1, e2, e3, e4, List.append_nil, List.nil_append]
theorem wb_fin {w w2 w4 w9 : World} {x : Sail} {a : SailA} {b : Bkg} {fo : Option Addr} {fc : Nat} {lv : List BkV} {G cap : Nat}
    (hB : Below w.heap.size w w4) (hO : OwnB w4 w2.heap.size (.slice (some ⟨G, 0, none⟩) (x.bks.length + 1) cap) (P.insV (b, fo, fc) lv)) (hG : w2.heap.size ≤ G) (hz : w.heap.size + 1 + 1 < w2.heap.size) (hg : w4.grownBy w9 (some (w.heap.size + 1 + 1))) :
    ∃ G' cap', Ending.returned (.agg (C.sail (P.withB x b) ⟨a.v, a.lo, a.bo, a.lc, a.bc, some ⟨G, 0, none⟩, cap⟩)) = .returned (V.sail (P.withB x b) ⟨a.v, a.lo, a.bo, a.lc, a.bc, some ⟨G', 0, none⟩, cap'⟩) ∧ OwnB w9 w.heap.size (.slice (some ⟨G', 0, none⟩) (x.bks.length + 1) cap') (P.insV (b, fo, fc) lv) ∧ Below w.heap.size w w9 := by
  have hB9 : Below w.heap.size w w9 := below_gr hB hB.size hg (by omega)
  have hO9 : OwnB w9 w2.heap.size (.slice (some ⟨G, 0, none⟩) (x.bks.length + 1) cap) (P.insV (b, fo, fc) lv) := OwnC.apart hO hg (fun r e hv => by cases e; have := (hO.lt _ hv).1; omega)
  exact ⟨G, cap, rfl, OwnC.ahead hO9 (by omega), hB9⟩

set_option maxHeartbeats 8000000 in
theorem withBooking_own (x : Sail) (a : SailA) (lv : List BkV) (b : Bkg) (fo : Option Addr) (fc : Nat) (w : World) (hlv : lv.map (·.1) = x.bks) (hl : SlAt (RC cellsV) 11 w a.ao a.cap lv) (hE : P.SailE x 0) (hid : P.isIn b.id x.bks = false) :
    Calls Tryz.prog 18 #[V.sail x a, V.bk b fo fc] w fun e w' => ∃ G cap, e = .returned (V.sail (P.withB x b) ⟨a.v, a.lo, a.bo, a.lc, a.bc, some ⟨G, 0, none⟩, cap⟩) ∧ OwnB w' w.heap.size (.slice (some ⟨G, 0, none⟩) (x.bks.length + 1) cap) (P.insV (b, fo, fc) lv) ∧ Below w.heap.size w w' := by
  obtain ⟨_, _, _, _, h16, _⟩ := sail_ok hE
  have hn : lv.length = x.bks.length := by rw [← hlv]; simp
  have HN : Aside (lv.length = x.bks.length) := hn
  have HLV : Aside (lv.map (·.1) = x.bks) := hlv
  have HPL : Aside (SlAt (RC cellsV) 11 w a.ao a.cap lv) := hl
  have HE : Aside (P.SailE x 0) := hE
  have HID : Aside (P.isIn b.id x.bks = false) := hid
  have hB2 : Below w.heap.size w (W.wb w x a b fo fc) := bvia (sail_below w x a) (bvia (bk_below _ b fo fc) (al _ _))
  have HX2 : Aside (SBox (W.wb w x a b fo fc) w.heap.size x a) := ((SBox.new w x a).below (bk_below _ b fo fc)).below (al _ _)
  have HY2 : Aside (BBox (W.wb w x a b fo fc) (w.heap.size + 1) b fo fc) := by
    have := (BBox.new (W.sail w x a) b fo fc).below (al _ O.zero)
    rw [World.size_alloc] at this
    exact this
  have HB2 : Aside (Below w.heap.size w (W.wb w x a b fo fc)) := hB2
  have HZ2 : Aside ((W.wb w x a b fo fc).heap[w.heap.size + 1 + 1]? = some O.zero) := by
    have := heap_alloc_new (W.bk (W.sail w x a) b fo fc) O.zero
    rw [World.size_alloc, World.size_alloc] at this
    exact this
  have HF2 : Aside ((W.wb w x a b fo fc).frozen? ⟨w.heap.size, 11, none⟩ = false) := by
    have h1 := sail_frozen w x a 11
    show _ = _
    rw [(bvia (bk_below (W.sail w x a) b fo fc) (al _ O.zero)).frozen (p := ⟨w.heap.size, 11, none⟩) (SBox.new w x a).lt]
    exact h1
  clear hn hlv hl hE hid hB2
  go_enter Tryz.func18, Tryz.ntmps18
  go_wp2_with fail
  change Code.wp Tryz.prog _ _ _ (W.wb w x a b fo fc)
  generalize W.wb w x a b fo fc = w2 at HX2 HY2 HB2 HZ2 HF2 ⊢
  have hB2 := HB2.out
  have c11 := HX2.out.c11
  obtain ⟨z0, z1, z2, z3, z4, z5, z6, z7, z8, z9, z10⟩ := HY2.out
  have HQ : Aside (SlAt (RC cellsV) 11 w2 a.ao a.cap lv) := SlAt.below (RC.mono _) HPL.out hB2
  have HL1 : Aside ((lv ++ [(b, fo, fc)]).length = x.bks.length + 1) := by show _ = _; rw [List.length_append, HN.out]; rfl
  go_region_held3 (fun u => u.cell? ⟨w.heap.size, 11, none⟩ = some (.slice a.ao x.bks.length a.cap) ∧ u.cell? ⟨w.heap.size + 1, 0, none⟩ = some (.int .i64 b.id) ∧ u.cell? ⟨w.heap.size + 1, 1, none⟩ = some (.int .i64 b.kind) ∧ u.cell? ⟨w.heap.size + 1, 2, none⟩ = some (.int .i64 b.state) ∧ u.cell? ⟨w.heap.size + 1, 3, none⟩ = some (.int .i64 b.guests) ∧ u.cell? ⟨w.heap.size + 1, 4, none⟩ = some (.bool b.level) ∧ u.cell? ⟨w.heap.size + 1, 5, none⟩ = some (.int .i64 b.cabin) ∧ u.cell? ⟨w.heap.size + 1, 6, none⟩ = some (.int .i64 b.cat) ∧ u.cell? ⟨w.heap.size + 1, 7, none⟩ = some (.int .i64 b.frm) ∧ u.cell? ⟨w.heap.size + 1, 8, none⟩ = some (.int .i64 b.to) ∧ u.cell? ⟨w.heap.size + 1, 9, none⟩ = some (.int .i64 b.til) ∧ u.cell? ⟨w.heap.size + 1, 10, none⟩ = some (.slice fo b.fol.length fc))
    (first
      | with_reducible exact ⟨q11, r0, r1, r2, r3, r4, r5, r6, r7, r8, r9, r10⟩
      | with_reducible exact ⟨p11, y0, y1, y2, y3, y4, y5, y6, y7, y8, y9, y10⟩
      | with_reducible exact ⟨c11, z0, z1, z2, z3, z4, z5, z6, z7, z8, z9, z10⟩
      | go_keep)
    (first
      | (refine step_of' (by rfl) (wpW_many (cells := cellsV) (size := 11) (base := w2.heap.size) Tryz.infoBk Tryz.underlying30 rfl (by decide) cellsV_len cellsV_one _ _ (by rfl) (.slice ao4 x.bks.length cap4) lv [(b, fo, fc)] (lv ++ [(b, fo, fc)]) 1 (x.bks.length + 1) rfl rfl HL1.out (some ⟨u4.heap.size, 0, none⟩) 1 (by rfl) (OwnC.below own4 (al _ _)) (by rfl) (one_bk u4 b fo fc) (by unfold maxLen; omega) (by omega) (by first | exact bW.size | (have := bW.size; simp; omega)) ?_); intro ao5 cap5 u5 own5 gr5; have bW2 : Below w2.heap.size w2 u5 := (by first | exact OwnC.grown bW own4 (Nat.le_refl _) gr5 | exact OwnC.grown (bvia bW (al _ _)) (OwnC.below own4 (al _ _)) (Nat.le_refl _) gr5); have q11 := cellIn bW2 c11; obtain ⟨r0, r1, r2, r3, r4, r5, r6, r7, r8, r9, r10⟩ := HY2.out.below bW2)
      | (refine step_of' (by rfl) (wpW_many (cells := cellsV) (size := 11) (base := w2.heap.size) Tryz.infoBk Tryz.underlying30 rfl (by decide) cellsV_len cellsV_one _ _ (by rfl) (.slice ao4 x.bks.length cap4) lv [(b, fo, fc)] (lv ++ [(b, fo, fc)]) 1 (x.bks.length + 1) rfl rfl HL1.out (some ⟨w2.heap.size + 1, 0, none⟩) 1 (by rfl) own4 (by rfl) (one_at ho4) (by unfold maxLen; omega) (by omega) (by first | exact bW.size | (have := bW.size; simp; omega)) ?_); intro ao5 cap5 u5 own5 gr5; have bW2 : Below w2.heap.size w2 u5 := (by first | exact OwnC.grown bW own4 (Nat.le_refl _) gr5 | exact OwnC.grown (bvia bW (al _ _)) (OwnC.below own4 (al _ _)) (Nat.le_refl _) gr5); have q11 := cellIn bW2 c11; obtain ⟨r0, r1, r2, r3, r4, r5, r6, r7, r8, r9, r10⟩ := HY2.out.below bW2)
      | (refine step_of' (by rfl) (wpW_many (cells := cellsV) (size := 11) (base := w2.heap.size) Tryz.infoBk Tryz.underlying30 rfl (by decide) cellsV_len cellsV_one _ _ (by rfl) (.slice ao4 x.bks.length cap4) lv [(b, fo, fc)] (lv ++ [(b, fo, fc)]) 1 (x.bks.length + 1) rfl rfl HL1.out (some ⟨w2.heap.size, 0, none⟩) 1 (by rfl) own4 (by rfl) (one_at ho4) (by unfold maxLen; omega) (by omega) (by first | exact bW.size | (have := bW.size; simp; omega)) ?_); intro ao5 cap5 u5 own5 gr5; have bW2 : Below w2.heap.size w2 u5 := (by first | exact OwnC.grown bW own4 (Nat.le_refl _) gr5 | exact OwnC.grown (bvia bW (al _ _)) (OwnC.below own4 (al _ _)) (Nat.le_refl _) gr5); have q11 := cellIn bW2 c11; obtain ⟨r0, r1, r2, r3, r4, r5, r6, r7, r8, r9, r10⟩ := HY2.out.below bW2)
      | (refine step_of' (by rfl) (wpW_many (cells := cellsV) (size := 11) (base := w2.heap.size) Tryz.infoBk Tryz.underlying30 rfl (by decide) cellsV_len cellsV_one _ _ (by rfl) (.slice (some ⟨w2.heap.size, 0, none⟩) 0 0) [] lv lv x.bks.length x.bks.length rfl HN.out HN.out a.ao a.cap (by rfl) (OwnC.below (OwnC.empty (cells := cellsV) (size := 11) (e := 42) w2 w2.heap.size (Nat.le_refl _)) (by go_grown)) (by rfl) (SlAt.below (RC.mono _) HQ.out (by go_grown)) (by unfold maxLen; omega) (by omega) (by first | (simp; done) | (simp; omega)) ?_); intro ao4 cap4 u4 own4 gr4; have bW : Below w2.heap.size w2 u4 := (OwnC.grown (w := w2) (by go_grown) (OwnC.below (OwnC.empty (cells := cellsV) (size := 11) (e := 42) w2 w2.heap.size (Nat.le_refl _)) (by go_grown)) (Nat.le_refl _) gr4); have p11 := cellIn bW c11; obtain ⟨y0, y1, y2, y3, y4, y5, y6, y7, y8, y9, y10⟩ := HY2.out.below bW; first | (have ho4 : u4.heap[w2.heap.size + 1]? = some (O.bk b fo fc) := gr_one gr4 (new_up (World.size_alloc _ _)) (by simp [Value.ownBlock])) | skip)
      | (refine step_of' (by rfl) (wpW_many (cells := cellsV) (size := 11) (base := w2.heap.size) Tryz.infoBk Tryz.underlying30 rfl (by decide) cellsV_len cellsV_one _ _ (by rfl) (.slice (some ⟨w2.heap.size + 1, 0, none⟩) 0 0) [] lv lv x.bks.length x.bks.length rfl HN.out HN.out a.ao a.cap (by rfl) (by have h := OwnC.empty (cells := cellsV) (size := 11) (e := 42) (W.bk w2 b fo fc) w2.heap.size (by simp); rw [World.size_alloc] at h; exact OwnC.below h (by go_grown)) (by rfl) (SlAt.below (RC.mono _) HQ.out (by go_grown)) (by unfold maxLen; omega) (by omega) (by first | (simp; done) | (simp; omega)) ?_); intro ao4 cap4 u4 own4 gr4; have bW : Below w2.heap.size w2 u4 := (OwnC.grown (w := w2) (by go_grown) (by have h := OwnC.empty (cells := cellsV) (size := 11) (e := 42) (W.bk w2 b fo fc) w2.heap.size (by simp); rw [World.size_alloc] at h; exact OwnC.below h (by go_grown)) (Nat.le_refl _) gr4); have p11 := cellIn bW c11; obtain ⟨y0, y1, y2, y3, y4, y5, y6, y7, y8, y9, y10⟩ := HY2.out.below bW; have ho4 : u4.heap[w2.heap.size]? = some (O.bk b fo fc) := gr_one gr4 (list_up (heap_alloc_new w2 (O.bk b fo fc)) (bvia (al _ _) (dr _))) (by simp [Value.ownBlock])))
  all_goals
    obtain ⟨G, hG⟩ : ∃ G, ao5 = some ⟨G, 0, none⟩ := by
      rcases own5.2 with ⟨h, _⟩ | ⟨G, cap, cur, h, _⟩
      · simp at h
      · simp at h
        exact ⟨G, h.1⟩
    subst hG
    clear c11 z0 z1 z2 z3 z4 z5 z6 z7 z8 z9 z10 p11 q11 y0 y1 y2 y3 y4 y5 y6 y7 y8 y9 y10 r0 r1 r2 r3 r4 r5 r6 r7 r8 r9 r10 own4 gr4 gr5 bW
    have HO5 : Aside (OwnB u5 w2.heap.size (.slice (some ⟨G, 0, none⟩) (x.bks.length + 1) cap5) (lv ++ [(b, fo, fc)])) := own5
    clear own5
    go_wp2_with fail
    go_loopg [6] x.bks.length (fun g i wx => ∃ (k : Nat), k ≤ x.bks.length ∧ g = k ∧ i = .int .i64 k ∧ OwnB wx w2.heap.size (.slice (some ⟨G, 0, none⟩) (x.bks.length + 1) cap5) (lv.take k ++ (b, fo, fc) :: lv.drop k) ∧ Aside (∀ y ∈ lv.drop k, b.id < y.1.id) ∧ Below w2.heap.size w2 wx)
    case atStart => exact ⟨x.bks.length, Nat.le_refl _, rfl, by go_num, (by rw [← HN.out, List.take_of_length_le (Nat.le_refl _), List.drop_of_length_le (Nat.le_refl _), HN.out]; exact HO5.out), (by show ∀ y ∈ lv.drop x.bks.length, _; rw [← HN.out, List.drop_of_length_le (Nat.le_refl _)]; simp), bW2⟩
    case round =>
      clear HO5 bW2
      obtain ⟨k, hk, hg, rfl, hown, HAB, hB⟩ := hrel
      rcases Nat.eq_zero_or_pos k with hk0 | hk0
      · have hd0 : decide ((0 : Int) < (k : Int)) = false := by simp; omega
        have hn0 : ¬ 0 < k := by omega
        go_wp2_with fail
        refine wp_region_quiet_below (by kernel_rfl) (by kernel_rfl) (Qt.out ?_)
        repeat (refine Qt.step (fun K hK => ?_); go_simp; first | (refine hK _ ?_; clear hK K) | fail)
        refine Qt.fin ?_
        intro w3 hw3
        obtain ⟨⟨dq3, osq3⟩, hw3⟩ := hw3
        have hb3 := below_regrown wr dq3 osq3
        rw [← hw3] at hb3
        clear hw3
        have HFIN : Aside (OwnB w3 w2.heap.size (.slice (some ⟨G, 0, none⟩) (x.bks.length + 1) cap5) (P.insV (b, fo, fc) lv)) := by
          have h := OwnC.below hown hb3
          have e : P.insV (b, fo, fc) (lv.take k ++ lv.drop k) = lv.take k ++ (b, fo, fc) :: lv.drop k := insV_of (fun y hy => by rw [hk0] at hy; simp at hy) HAB.out
          rw [List.take_append_drop] at e
          rw [← e] at h
          exact h
        clear hown HAB
        have hBx : Below w2.heap.size w2 w3 := hB.trans (hb3.mono hB.size)
        have HX3 : Aside (SBox w3 w.heap.size x a) := HX2.out.below hBx
        have f11 : w3.frozen? ⟨w.heap.size, 11, none⟩ = false := by rw [hBx.frozen (p := ⟨w.heap.size, 11, none⟩) HX2.out.lt]; exact HF2.out
        have hw3 : w.heap.size < w2.heap.size := HX2.out.lt
        have HZ4 : Aside (RowIs (w3.setCell ⟨w.heap.size, 11, none⟩ (.slice (some ⟨G, 0, none⟩) (x.bks.length + 1) cap5)) (w.heap.size + 1 + 1) C.zero) :=
          RowIs.gr (RowIs.below (⟨_, HZ2.out⟩ : RowIs w2 (w.heap.size + 1 + 1) C.zero) hBx) (grown_set w3 w.heap.size 11 _) (by simp; omega)
        have HB4 : Aside (Below w.heap.size w (w3.setCell ⟨w.heap.size, 11, none⟩ (.slice (some ⟨G, 0, none⟩) (x.bks.length + 1) cap5))) := (bvia HB2.out hBx).setCell (p := ⟨w.heap.size, 11, none⟩) (Nat.le_refl _) _
        have HO4 : Aside (OwnB (w3.setCell ⟨w.heap.size, 11, none⟩ (.slice (some ⟨G, 0, none⟩) (x.bks.length + 1) cap5)) w2.heap.size (.slice (some ⟨G, 0, none⟩) (x.bks.length + 1) cap5) (P.insV (b, fo, fc) lv)) :=
          OwnC.apart HFIN.out (grown_set w3 w.heap.size 11 _) (fun r e hv => by cases e; have := (HFIN.out.lt _ hv).1; omega)
        have HG2 : Aside (w2.heap.size ≤ G) := (HFIN.out.lt G rfl).1
        have HZL : Aside (w.heap.size + 1 + 1 < w2.heap.size) := RowIs.lt (cs := C.zero) ⟨_, HZ2.out⟩
        have HLN : Aside ((P.insB b x.bks).length = x.bks.length + 1) := by
          obtain ⟨_, _, e, _⟩ := OwnC.at cellsV_len HFIN.out
          simp only [Value.slice.injEq] at e
          show _ = _
          rw [← HLV.out, ← insV_map (b, fo, fc) lv, List.length_map, HLV.out]
          exact e.2.1.symm
        clear HX2 HF2 HZ2 HFIN
        obtain ⟨d0, d1, d2, d3, d4, d5, d6, d7, d8, d9, d10, d11, d12⟩ := HX3.out
        go_wp2_with (refine wpList_stC rfl 32 _ _ (by rfl) (w.heap.size + 1 + 1) C.zero (C.sail (P.withB x b) ⟨a.v, a.lo, a.bo, a.lc, a.bc, some ⟨G, 0, none⟩, cap5⟩) Tryz.sizeSail (by rfl) (by show _ = Value.agg #[_, _, _, _, _, _, _, _, _, _, _, Value.slice _ (P.insB b x.bks).length _, _]; rw [HLN.out]; rfl) HZ4.out rfl (sail_one _ _) ?_; intro w9 hr9 hg9)
        exact bodyPost_ret (res1 rfl hr9 _ rfl Tryz.underlying32 rfl Tryz.sizeSail) rfl (wb_fin HB4.out HO4.out HG2.out HZL.out hg9)
      · obtain ⟨j, hj⟩ : ∃ j, k = j + 1 := ⟨k - 1, by omega⟩
        subst hj
        obtain ⟨ao, cap, e6, h6⟩ := OwnC.at cellsV_len hown
        have hll : (lv.take (j + 1) ++ (b, fo, fc) :: lv.drop (j + 1)).length = x.bks.length + 1 := by rw [List.length_append, List.length_cons, List.length_take, List.length_drop, HN.out]; omega
        rw [hll] at e6
        simp only [Value.slice.injEq] at e6
        obtain ⟨rfl, -, rfl⟩ := e6
        obtain ⟨_, _, y1, cs1, e1, _, hd1, rfl, _, hc1⟩ := SlAt.get (RC.mono cellsV) h6 (Below.refl _ _) (j + 1) (by omega)
        obtain ⟨_, _, y2, cs2, e2, _, hd2, rfl, _, hc2⟩ := SlAt.get (RC.mono cellsV) h6 (Below.refl _ _) j (by omega)
        simp at e1 e2
        obtain ⟨rfl, rfl⟩ := e1
        obtain ⟨rfl, rfl⟩ := e2
        obtain rfl : y1 = (b, fo, fc) := by
          rw [List.drop_append_of_le_length (by rw [List.length_take]; have := HN.out; omega), List.drop_of_length_le (by rw [List.length_take]; omega)] at hd1
          simp at hd1
          exact hd1.1.symm
        obtain ⟨y, yo, yc⟩ := y2
        have HJ : Aside (lv.drop j = (y, yo, yc) :: lv.drop (j + 1)) := by
          have hjl : j < lv.length := by have := HN.out; omega
          have h1 : lv.drop j = lv[j] :: lv.drop (j + 1) := List.drop_eq_getElem_cons hjl
          rw [List.drop_append_of_le_length (by rw [List.length_take]; omega), List.drop_take, show j + 1 - j = 1 by omega, h1] at hd2
          show lv.drop j = _
          rw [h1]
          simp only [List.take_succ_cons, List.take_zero, List.cons_append, List.nil_append, List.cons.injEq] at hd2
          rw [hd2.1]
        have hrow : ∀ o, wr.frozen? ⟨G, o, none⟩ = false := by
          obtain ⟨_, h⟩ := hown
          rcases h with ⟨h, _⟩ | ⟨g', _, cur, h, _, hh, _⟩
          · simp at h
          · simp at h
            obtain ⟨rfl, _⟩ := h
            intro o
            simp [World.frozen?, hh]
        have HOW : Aside (OwnB wr w2.heap.size (.slice (some ⟨G, 0, none⟩) (x.bks.length + 1) cap5) (lv.take (j + 1) ++ (b, fo, fc) :: lv.drop (j + 1))) := hown
        have p0 : wr.cell? ⟨G, (j + 1) * 11, none⟩ = some (.int .i64 b.id) := by simpa using hc1 0 _ rfl
        have p1 : wr.cell? ⟨G, (j + 1) * 11 + 1, none⟩ = some (.int .i64 b.kind) := by simpa using hc1 1 _ rfl
        have p2 : wr.cell? ⟨G, (j + 1) * 11 + 2, none⟩ = some (.int .i64 b.state) := by simpa using hc1 2 _ rfl
        have p3 : wr.cell? ⟨G, (j + 1) * 11 + 3, none⟩ = some (.int .i64 b.guests) := by simpa using hc1 3 _ rfl
        have p4 : wr.cell? ⟨G, (j + 1) * 11 + 4, none⟩ = some (.bool b.level) := by simpa using hc1 4 _ rfl
        have p5 : wr.cell? ⟨G, (j + 1) * 11 + 5, none⟩ = some (.int .i64 b.cabin) := by simpa using hc1 5 _ rfl
        have p6 : wr.cell? ⟨G, (j + 1) * 11 + 6, none⟩ = some (.int .i64 b.cat) := by simpa using hc1 6 _ rfl
        have p7 : wr.cell? ⟨G, (j + 1) * 11 + 7, none⟩ = some (.int .i64 b.frm) := by simpa using hc1 7 _ rfl
        have p8 : wr.cell? ⟨G, (j + 1) * 11 + 8, none⟩ = some (.int .i64 b.to) := by simpa using hc1 8 _ rfl
        have p9 : wr.cell? ⟨G, (j + 1) * 11 + 9, none⟩ = some (.int .i64 b.til) := by simpa using hc1 9 _ rfl
        have p10 : wr.cell? ⟨G, (j + 1) * 11 + 10, none⟩ = some (.slice fo b.fol.length fc) := by simpa using hc1 10 _ rfl
        have q0 : wr.cell? ⟨G, j * 11, none⟩ = some (.int .i64 y.id) := by simpa using hc2 0 _ rfl
        have q1 : wr.cell? ⟨G, j * 11 + 1, none⟩ = some (.int .i64 y.kind) := by simpa using hc2 1 _ rfl
        have q2 : wr.cell? ⟨G, j * 11 + 2, none⟩ = some (.int .i64 y.state) := by simpa using hc2 2 _ rfl
        have q3 : wr.cell? ⟨G, j * 11 + 3, none⟩ = some (.int .i64 y.guests) := by simpa using hc2 3 _ rfl
        have q4 : wr.cell? ⟨G, j * 11 + 4, none⟩ = some (.bool y.level) := by simpa using hc2 4 _ rfl
        have q5 : wr.cell? ⟨G, j * 11 + 5, none⟩ = some (.int .i64 y.cabin) := by simpa using hc2 5 _ rfl
        have q6 : wr.cell? ⟨G, j * 11 + 6, none⟩ = some (.int .i64 y.cat) := by simpa using hc2 6 _ rfl
        have q7 : wr.cell? ⟨G, j * 11 + 7, none⟩ = some (.int .i64 y.frm) := by simpa using hc2 7 _ rfl
        have q8 : wr.cell? ⟨G, j * 11 + 8, none⟩ = some (.int .i64 y.to) := by simpa using hc2 8 _ rfl
        have q9 : wr.cell? ⟨G, j * 11 + 9, none⟩ = some (.int .i64 y.til) := by simpa using hc2 9 _ rfl
        have q10 : wr.cell? ⟨G, j * 11 + 10, none⟩ = some (.slice yo y.fol.length yc) := by simpa using hc2 10 _ rfl
        have hj0 : (0 : Int) ≤ (j : Int) := by omega
        have hj1 : (j : Int) + 1 < x.bks.length + 1 := by omega
        have hj1' : (j : Int) < x.bks.length + 1 := by omega
        have hj2 : (0 : Int) ≤ (j : Int) + 1 := by omega
        have hj3 : ((j : Int) + 1).toNat = j + 1 := by omega
        have hj4 : (0 : Int) < (j : Int) + 1 := by omega
        have hwj : IntKind.i64.wrap (j : Int) = j := by rw [IntKind.wrap_i64]; omega
        have u0 := cell_regrown p0
        have v0 := cell_regrown q0
        clear hd1 hd2 hc1 hc2 h6 hown hll hk0
        by_cases hlt : b.id < y.id
        · go_wp2_with fail
          refine wp_region_quiet_below (by kernel_rfl) (by kernel_rfl) (Qt.out ?_)
          repeat (refine Qt.step (fun K hK => ?_); go_simp; first | (refine hK _ ?_; clear hK K) | fail)
          refine Qt.fin ?_
          intro w3 hw3
          obtain ⟨⟨dq3, osq3⟩, hw3⟩ := hw3
          have hb3 := below_regrown wr dq3 osq3
          rw [← hw3] at hb3
          have hfz : ∀ o, w3.frozen? ⟨G, o, none⟩ = false := fun o => by rw [hb3.frozen (p := ⟨G, o, none⟩) (show G < wr.heap.size from World.block_lt_of_cell? wr ⟨G, (j + 1) * 11, none⟩ p0)]; exact hrow o
          have P0 := cellIn hb3 p0
          have P1 := cellIn hb3 p1
          have P2 := cellIn hb3 p2
          have P3 := cellIn hb3 p3
          have P4 := cellIn hb3 p4
          have P5 := cellIn hb3 p5
          have P6 := cellIn hb3 p6
          have P7 := cellIn hb3 p7
          have P8 := cellIn hb3 p8
          have P9 := cellIn hb3 p9
          have P10 := cellIn hb3 p10
          have Q0 := cellIn hb3 q0
          have Q1 := cellIn hb3 q1
          have Q2 := cellIn hb3 q2
          have Q3 := cellIn hb3 q3
          have Q4 := cellIn hb3 q4
          have Q5 := cellIn hb3 q5
          have Q6 := cellIn hb3 q6
          have Q7 := cellIn hb3 q7
          have Q8 := cellIn hb3 q8
          have Q9 := cellIn hb3 q9
          have Q10 := cellIn hb3 q10
          have fp0 := hfz ((j + 1) * 11)
          have fp1 := hfz ((j + 1) * 11 + 1)
          have fp2 := hfz ((j + 1) * 11 + 2)
          have fp3 := hfz ((j + 1) * 11 + 3)
          have fp4 := hfz ((j + 1) * 11 + 4)
          have fp5 := hfz ((j + 1) * 11 + 5)
          have fp6 := hfz ((j + 1) * 11 + 6)
          have fp7 := hfz ((j + 1) * 11 + 7)
          have fp8 := hfz ((j + 1) * 11 + 8)
          have fp9 := hfz ((j + 1) * 11 + 9)
          have fp10 := hfz ((j + 1) * 11 + 10)
          have fq0 := hfz (j * 11)
          have fq1 := hfz (j * 11 + 1)
          have fq2 := hfz (j * 11 + 2)
          have fq3 := hfz (j * 11 + 3)
          have fq4 := hfz (j * 11 + 4)
          have fq5 := hfz (j * 11 + 5)
          have fq6 := hfz (j * 11 + 6)
          have fq7 := hfz (j * 11 + 7)
          have fq8 := hfz (j * 11 + 8)
          have fq9 := hfz (j * 11 + 9)
          have fq10 := hfz (j * 11 + 10)
          clear hw3 u0 v0 hrow hfz p0 q0 p1 q1 p2 q2 p3 q3 p4 q4 p5 q5 p6 q6 p7 q7 p8 q8 p9 q9 p10 q10
          have HO6 : Aside (OwnB ((w3.setCells G ((j + 1) * 11) (cellsV (y, yo, yc))).setCells G (j * 11) (cellsV (b, fo, fc))).drew w2.heap.size (.slice (some ⟨G, 0, none⟩) (x.bks.length + 1) cap5) (lv.take j ++ (b, fo, fc) :: lv.drop j)) := by
            have hlj := HN.out
            have e1 : (lv.take (j + 1) ++ (b, fo, fc) :: lv.drop (j + 1)).length = x.bks.length + 1 := by rw [List.length_append, List.length_cons, List.length_take, List.length_drop, hlj]; omega
            have o3 : OwnB w3 w2.heap.size (.slice (some ⟨G, 0, none⟩) (lv.take (j + 1) ++ (b, fo, fc) :: lv.drop (j + 1)).length cap5) (lv.take (j + 1) ++ (b, fo, fc) :: lv.drop (j + 1)) := by rw [e1]; exact OwnC.below HOW.out hb3
            have o4 := (own_put cellsV_len cellsV_one o3 (j + 1) (y, yo, yc) (by omega)).1
            have o5 := (own_put cellsV_len cellsV_one o4 j (b, fo, fc) (by rw [List.length_set]; omega)).1
            have et : lv.take (j + 1) = lv.take j ++ [(y, yo, yc)] := take_snoc' (by omega) HJ.out
            have hjl : (lv.take j).length = j := by rw [List.length_take]; omega
            have e2 : ((lv.take (j + 1) ++ (b, fo, fc) :: lv.drop (j + 1)).set (j + 1) (y, yo, yc)).set j (b, fo, fc) = lv.take j ++ (b, fo, fc) :: lv.drop j := by
              rw [HJ.out, et]
              rw [List.set_append_right _ _ (by simp; omega), List.append_assoc, List.set_append_right _ _ (by omega)]
              simp [hjl]
            rw [List.length_set, List.length_set, e1, e2] at o5
            exact OwnC.below o5 (dr _)
          have HB6 : Aside (Below w2.heap.size w2 ((w3.setCells G ((j + 1) * 11) (cellsV (y, yo, yc))).setCells G (j * 11) (cellsV (b, fo, fc))).drew) := by
            have hG : w2.heap.size ≤ G := by
              have := (HOW.out.lt G rfl).1
              exact this
            exact bvia ((((hB.trans (hb3.mono hB.size)).trans (below_cells hG (cellsV (y, yo, yc)) _ _))).trans (below_cells hG (cellsV (b, fo, fc)) _ _)) (dr _)
          have HA6 : Aside (∀ z ∈ lv.drop j, b.id < z.1.id) := fun z hz => by
            rw [HJ.out] at hz
            rcases List.mem_cons.1 hz with rfl | hz
            · exact hlt
            · exact HAB.out z hz
          obtain ⟨p, hp⟩ : ∃ p, (j + 1) * 11 = p := ⟨_, rfl⟩
          obtain ⟨q, hq⟩ : ∃ q, j * 11 = q := ⟨_, rfl⟩
          rw [hp] at P0 P1 P2 P3 P4 P5 P6 P7 P8 P9 P10 fp0 fp1 fp2 fp3 fp4 fp5 fp6 fp7 fp8 fp9 fp10 HO6 HB6
          rw [hq] at Q0 Q1 Q2 Q3 Q4 Q5 Q6 Q7 Q8 Q9 Q10 fq0 fq1 fq2 fq3 fq4 fq5 fq6 fq7 fq8 fq9 fq10 HO6 HB6
          go_wp2_with fail
          go_region
          with_reducible change Exit.inBlock 1 _ Exit.normal _ (W.put (W.put w3 G p y yo yc) G q b fo fc).drew
          rw [put_eq, put_eq]
          generalize ((w3.setCells G p (cellsV (y, yo, yc))).setCells G q (cellsV (b, fo, fc))).drew = w6 at HO6 HB6 ⊢
          clear hp hq P0 P1 P2 P3 P4 P5 P6 P7 P8 P9 P10 Q0 Q1 Q2 Q3 Q4 Q5 Q6 Q7 Q8 Q9 Q10 fp0 fp1 fp2 fp3 fp4 fp5 fp6 fp7 fp8 fp9 fp10 fq0 fq1 fq2 fq3 fq4 fq5 fq6 fq7 fq8 fq9 fq10
          go_wp2_with fail
          go_roundg j
          case measure => omega
          case rel => exact ⟨j, by omega, rfl, by go_num, HO6.out, HA6, HB6.out⟩
        · have hnl : decide (b.id < y.id) = false := by simpa using hlt
          go_wp2_with fail
          refine wp_region_quiet_below (by kernel_rfl) (by kernel_rfl) (Qt.out ?_)
          repeat (refine Qt.step (fun K hK => ?_); go_simp; first | (refine hK _ ?_; clear hK K) | fail)
          refine Qt.fin ?_
          intro w3 hw3
          obtain ⟨⟨dq3, osq3⟩, hw3⟩ := hw3
          have hb3 := below_regrown wr dq3 osq3
          rw [← hw3] at hb3
          clear hw3 u0 v0 hrow p0 q0 p1 q1 p2 q2 p3 q3 p4 q4 p5 q5 p6 q6 p7 q7 p8 q8 p9 q9 p10 q10
          have HFIN : Aside (OwnB w3 w2.heap.size (.slice (some ⟨G, 0, none⟩) (x.bks.length + 1) cap5) (P.insV (b, fo, fc) lv)) := by
            have h := OwnC.below HOW.out hb3
            have hrise := (bksI_rise (pre_zero (sail_ok HE.out).1).2.1).2
            have hlj := HN.out
            have et : lv.take (j + 1) = lv.take j ++ [(y, yo, yc)] := take_snoc' (by omega) HJ.out
            have hne : y.id ≠ b.id := fun e => by
              have hm : y ∈ x.bks := by rw [← HLV.out]; exact List.mem_map.2 ⟨(y, yo, yc), List.mem_of_mem_drop (by rw [HJ.out]; simp), rfl⟩
              have := List.any_eq_false.1 HID.out y hm
              simp [e] at this
            have hyb : y.id < b.id := by omega
            have e : P.insV (b, fo, fc) (lv.take (j + 1) ++ lv.drop (j + 1)) = lv.take (j + 1) ++ (b, fo, fc) :: lv.drop (j + 1) := insV_of (fun z hz => by
              rw [et] at hz
              rcases List.mem_append.1 hz with hz | hz
              · rw [← HLV.out, ← List.take_append_drop j lv, List.map_append, List.pairwise_append] at hrise
                have := hrise.2.2 z.1 (List.mem_map.2 ⟨z, hz, rfl⟩) y (List.mem_map.2 ⟨(y, yo, yc), by rw [HJ.out]; simp, rfl⟩)
                show z.1.id < b.id
                omega
              · simp at hz
                subst hz
                exact hyb) HAB.out
            rw [List.take_append_drop] at e
            rw [← e] at h
            exact h
          clear HOW HAB HJ hlt hnl
          have hBx : Below w2.heap.size w2 w3 := hB.trans (hb3.mono hB.size)
          have HX3 : Aside (SBox w3 w.heap.size x a) := HX2.out.below hBx
          have f11 : w3.frozen? ⟨w.heap.size, 11, none⟩ = false := by rw [hBx.frozen (p := ⟨w.heap.size, 11, none⟩) HX2.out.lt]; exact HF2.out
          have hw3 : w.heap.size < w2.heap.size := HX2.out.lt
          have HZ4 : Aside (RowIs (w3.setCell ⟨w.heap.size, 11, none⟩ (.slice (some ⟨G, 0, none⟩) (x.bks.length + 1) cap5)) (w.heap.size + 1 + 1) C.zero) :=
            RowIs.gr (RowIs.below (⟨_, HZ2.out⟩ : RowIs w2 (w.heap.size + 1 + 1) C.zero) hBx) (grown_set w3 w.heap.size 11 _) (by simp; omega)
          have HB4 : Aside (Below w.heap.size w (w3.setCell ⟨w.heap.size, 11, none⟩ (.slice (some ⟨G, 0, none⟩) (x.bks.length + 1) cap5))) := (bvia HB2.out hBx).setCell (p := ⟨w.heap.size, 11, none⟩) (Nat.le_refl _) _
          have HO4 : Aside (OwnB (w3.setCell ⟨w.heap.size, 11, none⟩ (.slice (some ⟨G, 0, none⟩) (x.bks.length + 1) cap5)) w2.heap.size (.slice (some ⟨G, 0, none⟩) (x.bks.length + 1) cap5) (P.insV (b, fo, fc) lv)) :=
            OwnC.apart HFIN.out (grown_set w3 w.heap.size 11 _) (fun r e hv => by cases e; have := (HFIN.out.lt _ hv).1; omega)
          have HG2 : Aside (w2.heap.size ≤ G) := (HFIN.out.lt G rfl).1
          have HZL : Aside (w.heap.size + 1 + 1 < w2.heap.size) := RowIs.lt (cs := C.zero) ⟨_, HZ2.out⟩
          have HLN : Aside ((P.insB b x.bks).length = x.bks.length + 1) := by
            obtain ⟨_, _, e, _⟩ := OwnC.at cellsV_len HFIN.out
            simp only [Value.slice.injEq] at e
            show _ = _
            rw [← HLV.out, ← insV_map (b, fo, fc) lv, List.length_map, HLV.out]
            exact e.2.1.symm
          clear HX2 HF2 HZ2 HFIN
          obtain ⟨d0, d1, d2, d3, d4, d5, d6, d7, d8, d9, d10, d11, d12⟩ := HX3.out
          go_wp2_with (refine wpList_stC rfl 32 _ _ (by rfl) (w.heap.size + 1 + 1) C.zero (C.sail (P.withB x b) ⟨a.v, a.lo, a.bo, a.lc, a.bc, some ⟨G, 0, none⟩, cap5⟩) Tryz.sizeSail (by rfl) (by show _ = Value.agg #[_, _, _, _, _, _, _, _, _, _, _, Value.slice _ (P.insB b x.bks).length _, _]; rw [HLN.out]; rfl) HZ4.out rfl (sail_one _ _) ?_; intro w9 hr9 hg9)
          exact bodyPost_ret (res1 rfl hr9 _ rfl Tryz.underlying32 rfl Tryz.sizeSail) rfl (wb_fin HB4.out HO4.out HG2.out HZL.out hg9)

end Go.Proofs.YtpjfpgimpgmhcadGreat.St
