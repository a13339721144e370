/- The reference: CheckAll, SpansOf. -/
import Derived.Test.YtgopdnlmiloipadBkI
namespace Go.Proofs.Ytgopdnlmiloipad.Bk
open Go.RowKit
set_option linter.unusedSimpArgs false
set_option linter.unusedVariables false

theorem allE_ship {s : Vsl} {l : List Bkg} (h : ¬ P.shp s = 0) : P.allE s l = P.shp s := by rw [P.allE, if_neg h]
theorem allE_bks {s : Vsl} {l : List Bkg} (h : P.shp s = 0) : P.allE s l = P.bksE s l := by rw [P.allE, if_pos h]

set_option maxHeartbeats 4000000 in
theorem refAll_any (s : Vsl) (a : VslA) (ao : Option Addr) (cap : Nat) (l : List Bkg) (w : World) (hs : VslAt w s a) (hl : BksAt w ao cap l) :
    Calls Try.prog 8 #[V.vsl s a, .slice ao l.length cap] w fun e w' => e = .returned (.int .i64 (P.allE s l)) ∧ Below w.heap.size w w' := by
  have hle := hl.le
  have hmx := hl.max
  unfold maxLen at hmx
  have hvx := VBox.new w s a
  have hbt : Below w.heap.size w (w.alloc (.cells #[.int .i64 s.legs, .int .i64 s.souls, .slice a.cao s.cs.length a.cc, .slice a.bao s.bs.length a.bc] 25)) := by go_grown
  go_enter Try.func8, Try.ntmps8
  go_wp2_with (go_at_call 7; refine (refShp_any s a _ (hs.below hbt)).mono ?_; rintro e w1 ⟨rfl, hb1⟩)
  go_loopg [5, 6] l.length (fun g e i wr => ∃ (k : Nat) (c : Int), k ≤ l.length ∧ g = l.length - k ∧ i = .int .i64 k ∧ e = .int .i64 c ∧ (c = 0 ∧ P.shp s = 0 ∧ P.bksE s (l.drop k) = P.bksE s l ∨ ¬ c = 0 ∧ c = P.allE s l) ∧ VBox wr w.heap.size s a ∧ w.heap.size < wr.heap.size ∧ Below w.heap.size w wr)
  case atStart =>
    refine ⟨0, P.shp s, Nat.zero_le _, rfl, rfl, rfl, ?_, hvx.below hb1, by have := hb1.size; simp at this; omega, bvia hbt hb1⟩
    by_cases h : P.shp s = 0
    · exact .inl ⟨h, h, rfl⟩
    · exact .inr ⟨h, (allE_ship h).symm⟩
  case round =>
    obtain ⟨k, c, hk, rfl, rfl, rfl, hP, hv, hlw, hB⟩ := hrel
    clear hvx hbt hb1
    rcases hP with ⟨rfl, hz, hP⟩ | ⟨hc, hP⟩
    · have HP : Aside (P.bksE s (l.drop k) = P.bksE s l) := hP
      have HZ : Aside (P.shp s = 0) := hz
      clear hP hz
      by_cases hlt : k < l.length
      · obtain ⟨b, off, x, fo, fc, rfl, hbw, hd, hx, hfx⟩ := BksAt.get hl hB k hlt
        have HD : Aside (l.drop k = x :: l.drop (k + 1)) := hd
        clear hd
        have hbl : b < wr.heap.size := by omega
        have hkl : (k : Int) < l.length := by omega
        obtain ⟨x0, x1, x2, x3, x4, x5, x6, x7, x8, x9, x10⟩ := hx
        have HV : Aside (VBox wr w.heap.size s a) := hv
        obtain ⟨v0, v1, v2, v3⟩ := hv
        have HS : Aside (VslAt wr s a) := hs.below hB
        have HC : Aside (∀ W : World, Below wr.heap.size wr W → Calls Try.prog 9 #[V.vsl s a, V.bk x fo fc] W fun e w' => e = .returned (.int .i64 (P.bkE s x)) ∧ Below W.heap.size W w') := fun W hW => refBk_any s a x fo fc W (HS.out.below hW) (SlAt.below Fo.REnt.mono hfx hW) HZ.out
        have r0 := cell_regrown x0
        have r1 := cell_regrown x1
        have r2 := cell_regrown x2
        have r3 := cell_regrown x3
        have r4 := cell_regrown x4
        have r5 := cell_regrown x5
        have r6 := cell_regrown x6
        have r7 := cell_regrown x7
        have r8 := cell_regrown x8
        have r9 := cell_regrown x9
        have r10 := cell_regrown x10
        have t0 := cell_regrown v0
        have t1 := cell_regrown v1
        have t2 := cell_regrown v2
        have t3 := cell_regrown v3
        clear x0 x1 x2 x3 x4 x5 x6 x7 x8 x9 x10 v0 v1 v2 v3
        go_wp2
        refine wp_region_quiet_below (by kernel_rfl) (by kernel_rfl) (Qt.out ?_)
        repeat (refine Qt.step (fun K hK => ?_); go_simp; first | (refine hK _ ?_; clear hK K) | (apply Exists.intro; refine ⟨fun _ => ?_, hK _ ?_⟩; (go_at_call 9; exact Calls.regrown_of (v := .int .i64 (P.bkE s x)) (HC.out _ (below_regrown _ _ _))); clear hK K))
        refine Qt.fin ?_
        intro w2 hw2
        obtain ⟨⟨dq, osq⟩, hw2⟩ := hw2
        have hb2 := below_regrown wr dq osq
        rw [← hw2] at hb2
        clear hw2 r0 r1 r2 r3 r4 r5 r6 r7 r8 r9 r10 t0 t1 t2 t3
        go_wp2
        go_roundg (l.length - (k + 1))
        case measure => omega
        case rel =>
          refine ⟨k + 1, P.bkE s x, by omega, rfl, by go_num, rfl, ?_, HV.out.below hb2, by have := hb2.size; omega, bvia hB hb2⟩
          cases he : (P.bkE s x != 0)
          · exact .inl ⟨by simpa using he, HZ.out, bks_on HP.out HD.out he⟩
          · exact .inr ⟨by simpa using he, by rw [allE_bks HZ.out, bks_bad HP.out HD.out he]⟩
      · have : k = l.length := by omega
        subst this
        go_wp2
        go_ret
        exact ⟨ret_int (by rw [allE_bks HZ.out, bks_end HP.out]), hB⟩
    · have HP : Aside (c = P.allE s l) := hP
      have hc' : (c == 0) = false := by simpa using hc
      clear hP hc
      by_cases hlt : k < l.length
      all_goals
        go_wp2
        go_ret
        exact ⟨ret_int HP.out, hB⟩

theorem adds_snoc {n : Int} {acc pre : List (Int × Int)} {x : Int × Int} (h : P.addsE n acc pre = 0) : P.addsE n acc (pre ++ [x]) = Sp.P.addE (P.addsL n acc pre) n x.1 x.2 ∧ P.addsL n acc (pre ++ [x]) = Sp.P.addL (P.addsL n acc pre) n x.1 x.2 := by
  induction pre generalizing acc with
  | nil =>
    simp only [List.nil_append, P.addsE, P.addsL]
    split
    · rename_i he; exact ⟨he.symm, rfl⟩
    · rename_i he; exact ⟨rfl, by rw [Sp.P.addL, if_neg he]⟩
  | cons y r ih =>
    rw [P.addsE] at h
    rw [List.cons_append, P.addsE, P.addsL, P.addsL]
    split at h
    · rename_i he
      rw [if_pos he, if_pos he, if_pos he]
      exact ih h
    · contradiction
theorem adds_pre {n : Int} {acc pre t : List (Int × Int)} (h : ¬ P.addsE n acc pre = 0) : P.addsE n acc (pre ++ t) = P.addsE n acc pre := by
  induction pre generalizing acc with
  | nil => exact absurd rfl h
  | cons y r ih =>
    rw [P.addsE] at h ⊢
    rw [List.cons_append, P.addsE]
    split
    · rename_i he
      rw [if_pos he] at h
      exact ih h
    · rfl
theorem mine_take {cabin : Int} {l : List Bkg} {x : Bkg} {k : Nat} (hk : k < l.length) (hd : l.drop k = x :: l.drop (k + 1)) : P.mine cabin (l.take (k + 1)) = P.mine cabin (l.take k) ++ (if P.hasC cabin x = true then [P.spn x] else []) := by
  have e : l.take (k + 1) = l.take k ++ [x] := by
    have h1 := List.drop_eq_getElem_cons hk
    rw [hd] at h1
    simp only [List.cons.injEq] at h1
    rw [h1.1, List.take_succ_eq_append_getElem hk]
  rw [e, P.mine, P.mine, List.filter_append, List.map_append]
  congr 1
  cases h : P.hasC cabin x <;> simp [List.filter_cons, h]
theorem mem_of_drop {α : Type} {l : List α} {x : α} {k : Nat} (hd : l.drop k = x :: l.drop (k + 1)) : x ∈ l := by
  have : x ∈ l.drop k := by rw [hd]; simp
  exact List.mem_of_mem_drop this
/-- Spans of one's own, said of a block further ahead. -/
theorem own_ahead {w : World} {base base' : Nat} {v : Value} {l : List (Int × Int)} (h : Sp.Own w base v l) (hb : base' ≤ base) : Sp.Own w base' v l := by
  refine ⟨h.1, ?_⟩
  rcases h.2 with h2 | ⟨g, cap, cur, hv, hg, r⟩
  · exact Or.inl h2
  · exact Or.inr ⟨g, cap, cur, hv, Nat.le_trans hb hg, r⟩

abbrev P.addsB (n : Int) (r : List (Int × Int)) : Bool := decide (P.addsE n [] r = 0)

set_option maxHeartbeats 4000000 in
theorem spansOf_any (n : Int) (ao : Option Addr) (cap : Nat) (l : List Bkg) (cabin : Int) (w : World) (hl : BksAt w ao cap l) (hn : P.sails n = true) (hck : ∀ b ∈ l, P.chk b.frm b.to n = 0) :
    Calls Try.prog 10 #[.slice ao l.length cap, .int .i64 cabin] w fun e w' => ∃ v', e = .returned (.tuple #[v', .bool (P.addsB n (P.mine cabin l))]) ∧ Sp.Own w' w.heap.size v' (P.addsL n [] (P.mine cabin l)) ∧ Below w.heap.size w w' := by
  have hle := hl.le
  have hmx := hl.max
  unfold maxLen at hmx
  have HCK : Aside (∀ b ∈ l, P.chk b.frm b.to n = 0) := hck
  clear hck
  go_enter Try.func10, Try.ntmps10
  go_wp2
  go_loopg [6, 7] l.length (fun g o i wr => ∃ (k : Nat), k ≤ l.length ∧ g = l.length - k ∧ i = .int .i64 k ∧ Aside (P.addsE n [] (P.mine cabin (l.take k)) = 0) ∧ Sp.Own wr w.heap.size o (P.addsL n [] (P.mine cabin (l.take k))) ∧ Below w.heap.size w wr)
  case atStart => exact ⟨0, Nat.zero_le _, rfl, rfl, rfl, World.ownsRow_nil _ _ _ _, Below.refl _ _⟩
  case round =>
    obtain ⟨k, hk, rfl, rfl, HA, hown, hB⟩ := hrel
    by_cases hlt : k < l.length
    · obtain ⟨b, off, x, fo, fc, rfl, hbw, hd, hx, hfx⟩ := BksAt.get hl hB k hlt
      have HD : Aside (l.drop k = x :: l.drop (k + 1)) := hd
      have HC : Aside (P.chk x.frm x.to n = 0) := HCK.out x (mem_of_drop hd)
      clear hd hfx
      obtain ⟨x0, x1, x2, x3, x4, x5, x6, x7, x8, x9, x10⟩ := hx
      have hbl : b < wr.heap.size := World.block_lt_of_cell? wr _ x0
      have HM : Aside (P.mine cabin (l.take (k + 1)) = P.mine cabin (l.take k) ++ (if P.hasC cabin x = true then [P.spn x] else [])) := mine_take hlt HD.out
      have skip : P.hasC cabin x = false → P.mine cabin (l.take (k + 1)) = P.mine cabin (l.take k) := fun h => by rw [HM.out, h]; simp
      have SK : Aside (P.hasC cabin x = false → P.mine cabin (l.take (k + 1)) = P.mine cabin (l.take k)) := skip
      clear skip
      cases hst : (x.state == 3)
      rotate_left
      · have e := SK.out (by simp at hst; simp [P.hasC, P.live, hst])
        have E : Aside (P.mine cabin (l.take (k + 1)) = P.mine cabin (l.take k)) := e
        clear e
        go_wp2
        go_roundg (l.length - (k + 1))
        case measure => omega
        case rel => exact ⟨k + 1, by omega, rfl, by go_num, by rw [E.out]; exact HA, by rw [E.out]; exact hown, hB⟩
      cases hca : (x.cabin == cabin)
      · have hca' : (x.cabin != cabin) = true := by simpa using hca
        have e := SK.out (by simp at hca; simp [P.hasC, hca])
        have E : Aside (P.mine cabin (l.take (k + 1)) = P.mine cabin (l.take k)) := e
        clear e
        go_wp2
        go_roundg (l.length - (k + 1))
        case measure => omega
        case rel => exact ⟨k + 1, by omega, rfl, by go_num, by rw [E.out]; exact HA, by rw [E.out]; exact hown, hB⟩
      · have hca' : (x.cabin != cabin) = false := by simpa using hca
        have E : Aside (P.mine cabin (l.take (k + 1)) = P.mine cabin (l.take k) ++ [P.spn x]) := by
          show _ = _
          rw [HM.out, if_pos (by simp at hst hca; simp [P.hasC, P.live, hst, hca])]
        have hcal : Sp.P.calendar (P.addsL n [] (P.mine cabin (l.take k))) n = 0 := adds_cal (nil_cal hn) HA
        have hsn := adds_snoc (x := P.spn x) (show P.addsE n [] (P.mine cabin (l.take k)) = 0 from HA)
        rw [← E.out] at hsn
        generalize hacc : P.addsL n [] (P.mine cabin (l.take k)) = acc at hown hcal hsn
        have HS : Aside (P.addsE n [] (P.mine cabin (l.take (k + 1))) = Sp.P.addE acc n x.frm x.to ∧ P.addsL n [] (P.mine cabin (l.take (k + 1))) = Sp.P.addL acc n x.frm x.to) := hsn
        have HR : Aside (Sp.P.refAddE acc x.frm x.to = Sp.P.addE acc n x.frm x.to ∧ Sp.P.refAddL acc x.frm x.to = Sp.P.addL acc n x.frm x.to) := Sp.refAdd (both_of hcal HC.out)
        have HCAL : Aside (Sp.P.calendar acc n = 0) := hcal
        have HOWN : Aside (Sp.Own wr w.heap.size u6 acc) := hown
        obtain ⟨ao2, cap2, hv, hsp⟩ := Sp.Own.at hown
        subst hv
        clear hown hsn hcal HM SK
        go_wp2_with fail
        refine (Sp.addSpan_any ao2 cap2 acc n x.frm x.to _ hsp HCAL.out HC.out).mono ?_
        rintro e w1 ⟨v1, rfl, hown1, hb1⟩
        rw [HR.out.1]
        rw [HR.out.2, ← HS.out.2] at hown1
        cases hz : (Sp.P.addE acc n x.frm x.to != 0)
        · go_wp2
          go_roundg (l.length - (k + 1))
          case measure => omega
          case rel => exact ⟨k + 1, by omega, rfl, by go_num, HS.out.1.trans (by simpa using hz), own_ahead hown1 hB.size, bvia hB hb1⟩
        · have hne : ¬ P.addsE n [] (P.mine cabin (l.take (k + 1))) = 0 := by rw [HS.out.1]; simpa using hz
          have hall : P.addsE n [] (P.mine cabin l) = P.addsE n [] (P.mine cabin (l.take (k + 1))) := by
            have e : P.mine cabin l = P.mine cabin (l.take (k + 1)) ++ P.mine cabin (l.drop (k + 1)) := by
              conv => lhs; rw [← List.take_append_drop (k + 1) l]
              rw [P.mine, List.filter_append, List.map_append]; rfl
            rw [e, adds_pre hne]
          have HN : Aside (¬ P.addsE n [] (P.mine cabin l) = 0) := by rw [hall]; exact hne
          clear hne hall
          go_wp2
          go_ret2
          exact ⟨.slice none 0 0, by simp [P.addsB, HN.out], by rw [addsL_of HN.out]; exact World.ownsRow_nil _ _ _ _, bvia hB hb1⟩
    · obtain rfl : k = l.length := by omega
      rw [List.take_of_length_le (Nat.le_refl _)] at HA hown
      go_wp2
      go_ret2
      exact ⟨_, by simp [P.addsB, HA.out], hown, hB⟩

end Go.Proofs.Ytgopdnlmiloipad.Bk
