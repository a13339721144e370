import Derived.Test.YtlamhfbdeinkkaeGreatMaEt
set_option maxRecDepth 10000
/- Walks of the reference's IsMatching and DoLack, of what is a matching and of what lacks. -/
namespace Go.Proofs.YtlamhfbdeinkkaeGreat.Ma
open Go.RowKit Go.Maps Go.WideMaps
set_option linter.unusedSimpArgs false
set_option linter.unusedVariables false

end Go.Proofs.YtlamhfbdeinkkaeGreat.Ma
/- The walk of the reference's DoLack, of left ones that lack. -/
namespace Go.Proofs.YtlamhfbdeinkkaeGreat.Ma
open Go.RowKit Go.Maps Go.WideMaps
set_option linter.unusedSimpArgs false
set_option linter.unusedVariables false

theorem hasInt_snoc (T : List Int) (y z : Int) : P.hasInt (T ++ [y]) z = (P.hasInt T z || decide (y = z)) := by simp [P.hasInt]

end Go.Proofs.YtlamhfbdeinkkaeGreat.Ma
/- Walks of pairs, matchBegun; of the laws MatchEither and MatchAlone. -/
namespace Go.Proofs.YtlamhfbdeinkkaeGreat.Ma
open Go.RowKit Go.Maps Go.WideMaps
set_option linter.unusedSimpArgs false
set_option linter.unusedVariables false

def P.pairs : List Edge := [(0, 1), (1, 1), (2, 0), (2, 1)]
end Go.Proofs.YtlamhfbdeinkkaeGreat.Ma
/- The walk of the reference's grow: the same search, over lists. -/
namespace Go.Proofs.YtlamhfbdeinkkaeGreat.Ma
open Go.RowKit Go.Maps Go.WideMaps
set_option linter.unusedSimpArgs false
set_option linter.unusedVariables false

/-- A matching in memory, as the reference has it: G who has each right one (C cells, those behind R are h's), M who was met. -/
structure GSt (w : World) (G M C : Nat) (h : Nat → Value) (R : Nat) (s : Nat → Int) (A : List Int) : Prop where
  owner : w.rowIs G 3 C (fun r => if r < R then .int .i64 (s r) else h r)
  met : w.rowIs M 4 R (fun r => .bool (P.hasInt A r))
  gm : G ≠ M
theorem GSt.cellAt {w : World} {G M C : Nat} {h : Nat → Value} {R : Nat} {s : Nat → Int} {A : List Int} (k : GSt w G M C h R s A) (hC : R ≤ C) {r : Nat} (hr : r < R) : w.cell? ⟨G, r, none⟩ = some (.int .i64 (s r)) := by
  rw [k.owner.cell (by omega), if_pos hr]

def GrowPost (G M C : Nat) (h : Nat → Value) (l : List Edge) (R : Nat) (s : Nat → Int) (A : List Int) (x : Int) (w : World) (e : Ending) (w' : World) : Prop :=
  ∃ (b : Bool) (A' : List Int) (s' : Nat → Int), e = .returned (.bool b) ∧ GSt w' G M C h R s' A' ∧ Mut G M w w' ∧ (b = false → s' = s ∧ Dead l R s A A' ∧ ∀ q : Int, (x, q) ∈ l → q ∈ A') ∧ (b = true → ∃ p, s' = P.shift s x p ∧ Path l R s A x p)

def GrowOk (n R G M C : Nat) (h : Nat → Value) (ao : Option Addr) (cap : Nat) (l : List Edge) (s : Nat → Int) (w0 : World) (f : Nat) : Prop :=
  ∀ (A : List Int) (x : Int) (w : World), R - A.length < f → A.Nodup → (∀ a ∈ A, 0 ≤ a ∧ a < (R : Int)) → Below w0.heap.size w0 w → GSt w G M C h R s A →
    Calls Tryz.prog 186 #[.slice ao l.length cap, .slice (some ⟨G, 0, none⟩) R C, .slice (some ⟨M, 0, none⟩) R R, .int .i64 x] w (GrowPost G M C h l R s A x w)

theorem gst_mark {w : World} {G M C : Nat} {h : Nat → Value} {R : Nat} {s : Nat → Int} {A : List Int} {y : Nat} (k : GSt w G M C h R s A) : GSt (w.setCell ⟨M, y, none⟩ (.bool true)) G M C h R s (A ++ [(y : Int)]) := by
  refine ⟨k.owner.setOther (fun e => k.gm e) _, (k.met.set y (.bool true)).congr (fun r hr => ?_), k.gm⟩
  rw [hasInt_snoc]
  by_cases e : r = y
  · rw [if_pos e, e]; simp
  · rw [if_neg e]
    have : decide ((y : Int) = (r : Int)) = false := by simp; omega
    rw [this, Bool.or_false]
theorem gst_give {w : World} {G M C : Nat} {h : Nat → Value} {R : Nat} {s s' : Nat → Int} {A : List Int} {y : Nat} {x : Int} (k : GSt w G M C h R s A) (hy : y < R) (hs : ∀ r, s' r = if r = y then x else s r) : GSt (w.setCell ⟨G, y, none⟩ (.int .i64 x)) G M C h R s' A := by
  refine ⟨(k.owner.set y (.int .i64 x)).congr (fun r hr => ?_), k.met.setOther (fun e => k.gm e.symm) _, k.gm⟩
  by_cases e : r = y
  · rw [if_pos e, if_pos (by omega), hs, if_pos e]
  · rw [if_neg e, hs, if_neg e]
theorem mut_mark {G M y : Nat} {w : World} {v : Value} : Mut G M w (w.setCell ⟨M, y, none⟩ v) := ⟨rfl, rfl, rfl, by simp, fun k _ _ h2 => Go.Deep.blk_setCell_other _ _ _ _ h2⟩

set_option maxHeartbeats 4000000 in
theorem grow_step (n R G M C : Nat) (h : Nat → Value) (ao : Option Addr) (cap : Nat) (l : List Edge) (s : Nat → Int) (w0 : World) (hl : EdgesAt w0 ao cap l) (hr : Right n R l s) (hC : R ≤ C) (hC2 : C ≤ 9223372036854775807) (hG : w0.heap.size ≤ G) (hM : w0.heap.size ≤ M) (f : Nat) (ih : Hid (GrowOk n R G M C h ao cap l s w0 f)) : GrowOk n R G M C h ao cap l s w0 (f + 1) := by
  intro A x w hf hA hAr hB0 hst
  have hle := hl.le
  have hmx := hl.max
  unfold maxLen at hmx
  have hR16 := hr.r16
  have HR : Aside (Right n R l s) := hr
  have HA : Aside (A.Nodup ∧ ∀ a ∈ A, 0 ≤ a ∧ a < (R : Int)) := ⟨hA, hAr⟩
  clear hr hA hAr
  go_enter Tryz.func186, Tryz.ntmps186
  go_wp2
  go_loopg [9] l.length (fun g iv wr => ∃ (i : Nat) (A' : List Int), i ≤ l.length ∧ g = l.length - i ∧ iv = .int .i64 i ∧ GSt wr G M C h R s A' ∧ Mut G M w wr ∧ Dead l R s A A' ∧ (∀ j (hj : j < l.length), j < i → l[j].1 = x → l[j].2 ∈ A'))
  case atStart => exact ⟨0, A, Nat.zero_le _, rfl, rfl, hst, Mut.refl _ _ _, Dead.refl HA.out.1 HA.out.2, fun j _ h => by omega⟩
  case round =>
    obtain ⟨i, A', hi, rfl, rfl, hst', hm, hD, hQ⟩ := hrel
    have HD : Aside (Dead l R s A A' ∧ ∀ j (hj : j < l.length), j < i → l[j].1 = x → l[j].2 ∈ A') := ⟨hD, hQ⟩
    have hAl := sub_len A A' HA.out.1 hD.sub
    clear hD hQ
    have hB : Below w0.heap.size w0 wr := hm.below hB0 hG hM
    by_cases hlt : i < l.length
    · obtain ⟨b, off, a, y, rfl, hbw, hd, hc0, hc1⟩ := hl.get hB i hlt
      have hgi := getE hlt hd
      have hmem : (a, y) ∈ l := by rw [← hgi]; exact List.getElem_mem hlt
      have hrg := HR.out.edge _ hmem
      simp only at hrg
      have HMEM : Aside ((a, y) ∈ l) := hmem
      have HGI : Aside (l[i] = (a, y)) := hgi
      clear hd hgi hmem
      obtain ⟨y, rfl⟩ : ∃ y' : Nat, y = y' := ⟨y.toNat, by omega⟩
      have hyR : y < R := by omega
      have i1 : (y : Int) < (R : Int) := by omega
      have i2 : (0 : Int) ≤ (y : Int) := by omega
      have hmet := hst'.met.cell hyR
      have hmf := hst'.met.frozen y
      have how := hst'.cellAt hC hyR
      have hof := hst'.owner.frozen y
      by_cases e1 : a = x
      · have e1' : (a != x) = false := by simpa using e1
        cases hh : P.hasInt A' y
        · have hny : ¬ (y : Int) ∈ A' := fun h => by rw [(hasInt_iff _ _).2 h] at hh; cases hh
          rw [hh] at hmet
          have hA1 := nodup_snoc HD.out.1.nodup hny
          have hA1r : ∀ z ∈ A' ++ [(y : Int)], 0 ≤ z ∧ z < (R : Int) := by
            intro z hz
            rcases List.mem_append.1 hz with hz | hz
            · exact HD.out.1.rng z hz
            · simp at hz; subst hz; omega
          have hlen := pigeon R _ hA1 hA1r
          simp at hlen
          have HA1 : Aside ((A' ++ [(y : Int)]).Nodup ∧ ∀ z ∈ A' ++ [(y : Int)], 0 ≤ z ∧ z < (R : Int)) := ⟨hA1, hA1r⟩
          have HNY : Aside (¬ (y : Int) ∈ A') := hny
          have hst1 := gst_mark (y := y) hst'
          have hm1 : Mut G M w (wr.setCell ⟨M, y, none⟩ (.bool true)) := hm.trans mut_mark
          have how1 := hst1.cellAt hC hyR
          have hof1 := hst1.owner.frozen y
          have HX : Aside ((x, (y : Int)) ∈ l) := by have := HMEM.out; rw [e1] at this; exact this
          clear hA1 hA1r hny e1
          by_cases hs : s y = -1
          · rw [hs] at how1
            have HS : Aside (s y = -1) := hs
            clear hs how
            go_wp2
            go_ret
            refine ⟨true, A' ++ [(y : Int)], P.shift s x [y], rfl, gst_give hst1 hyR (fun r => rfl), hm1.trans .ofSet, (fun h => by cases h), fun _ => ⟨[y], rfl, ⟨HX.out, .inl ⟨rfl, HS.out⟩⟩, by simp, fun r h => ?_⟩⟩
            simp at h
            subst h
            exact ⟨hyR, fun hc => HNY.out (HD.out.1.sub _ hc)⟩
          · have hso := HR.out.own y hyR
            have hpos : decide (s y < 0) = false := by simp; omega
            have hpos' : ¬ s y < 0 := by omega
            have HS : Aside (s y ≠ -1) := hs
            have hfl : R - (A' ++ [(y : Int)]).length < f := by simp; omega
            have hBm : Below w0.heap.size w0 (wr.setCell ⟨M, y, none⟩ (.bool true)) := mut_mark.below (G := G) hB hG hM
            clear hs hso how
            go_wp2_with fail
            refine (ih.out (A' ++ [(y : Int)]) (s y) _ hfl HA1.out.1 HA1.out.2 hBm hst1).mono ?_
            rintro e w2 ⟨bb, A2, s2, rfl, hst2, hm2, hno, hyes⟩
            have hm02 := hm1.trans hm2
            have how2 := hst2.cellAt hC hyR
            have hof2 := hst2.owner.frozen y
            cases bb with
            | false =>
              obtain ⟨rfl, hD2, hq2⟩ := hno rfl
              have hyn := yield_no HS.out hD2 hq2
              have HN : Aside (Dead l R s2 A A2 ∧ ∀ j (hj : j < l.length), j < i + 1 → l[j].1 = x → l[j].2 ∈ A2) := by
                refine ⟨HD.out.1.trans hyn.1, fun j hj hji hx => ?_⟩
                by_cases e : j < i
                · exact hyn.1.sub _ (HD.out.2 j hj e hx)
                · obtain rfl : j = i := by omega
                  rw [HGI.out]
                  exact hyn.2
              clear hno hyes hD2 hq2 hyn how2 hof2 how1 hof1 hmet hmf hst1 hm1 hBm
              go_wp2
              go_roundg (l.length - (i + 1))
              case measure => omega
              case rel => exact ⟨i + 1, A2, by omega, rfl, by go_num, hst2, hm02, HN.out.1, HN.out.2⟩
            | true =>
              obtain ⟨p, hs2, hp⟩ := hyes rfl
              have hyy := yield_yes HS.out hyR HNY.out HX.out hp
              have HP : Aside (Path l R s A x (y :: p)) := ⟨hyy.1.alt, hyy.1.nodup, fun r hr => ⟨(hyy.1.fresh r hr).1, fun hc => (hyy.1.fresh r hr).2 (HD.out.1.sub _ hc)⟩⟩
              have HS2 : Aside (s2 = P.shift s (s y) p) := hs2
              clear hno hyes hp hyy how1 hof1 hmet hmf hst1 hm1 hBm hs2
              go_wp2
              go_ret
              exact ⟨true, A2, P.shift s x (y :: p), rfl, gst_give hst2 hyR (fun r => by rw [HS2.out]; rfl), hm02.trans .ofSet, (fun h => by cases h), fun _ => ⟨y :: p, rfl, HP.out⟩⟩
        · rw [hh] at hmet
          have hin : (y : Int) ∈ A' := (hasInt_iff _ _).1 hh
          have HN : Aside (∀ j (hj : j < l.length), j < i + 1 → l[j].1 = x → l[j].2 ∈ A') := fun j hj hji hx => by
            by_cases e : j < i
            · exact HD.out.2 j hj e hx
            · obtain rfl : j = i := by omega
              rw [HGI.out]
              exact hin
          clear e1 hin
          go_wp2
          go_roundg (l.length - (i + 1))
          case measure => omega
          case rel => exact ⟨i + 1, A', by omega, rfl, by go_num, hst', hm, HD.out.1, HN.out⟩
      · have e1' : (a != x) = true := by simpa using e1
        have HN : Aside (∀ j (hj : j < l.length), j < i + 1 → l[j].1 = x → l[j].2 ∈ A') := fun j hj hji hx => by
          by_cases e : j < i
          · exact HD.out.2 j hj e hx
          · obtain rfl : j = i := by omega
            rw [HGI.out] at hx
            exact absurd hx e1
        go_wp2
        go_roundg (l.length - (i + 1))
        case measure => omega
        case rel => exact ⟨i + 1, A', by omega, rfl, by go_num, hst', hm, HD.out.1, HN.out⟩
    · obtain rfl : i = l.length := by omega
      go_wp2
      go_ret
      refine ⟨false, A', s, rfl, hst', hm, fun _ => ⟨rfl, HD.out.1, fun q hq => ?_⟩, fun h => by cases h⟩
      obtain ⟨j, hj, e⟩ := List.getElem_of_mem hq
      have := HD.out.2 j hj hj (by rw [e])
      rw [e] at this
      exact this

theorem grow_ok (n R G M C : Nat) (h : Nat → Value) (ao : Option Addr) (cap : Nat) (l : List Edge) (s : Nat → Int) (w0 : World) (hl : EdgesAt w0 ao cap l) (hr : Right n R l s) (hC : R ≤ C) (hC2 : C ≤ 9223372036854775807) (hG : w0.heap.size ≤ G) (hM : w0.heap.size ≤ M) : ∀ f, GrowOk n R G M C h ao cap l s w0 f := by
  intro f
  induction f with
  | zero => intro A x w hf; omega
  | succ f ih => exact grow_step n R G M C h ao cap l s w0 hl hr hC hC2 hG hM f ih

end Go.Proofs.YtlamhfbdeinkkaeGreat.Ma
/- The walk of the reference's Size; of the law MatchTells. -/
namespace Go.Proofs.YtlamhfbdeinkkaeGreat.Ma
open Go.RowKit Go.Maps Go.WideMaps
set_option linter.unusedSimpArgs false
set_option linter.unusedVariables false

theorem own_count {E : List Edge} {R : Nat} {s : Nat → Int} {Y S : List Int} (hM : Mtch E R s Y) (hn : S.Nodup) (hS : ∀ y : Int, y ∈ S ↔ y ≠ -1 ∧ ∃ r, r < R ∧ s r = y) : S.length = (P.owned R s).length := by
  have hnd : ((P.owned R s).map s).Nodup := by
    rw [List.nodup_iff_pairwise_ne, List.pairwise_map]
    refine List.Pairwise.imp_of_mem ?_ (owned_nodup R s)
    intro a b ha hb hne e
    exact hne (hM.inj a b (mem_owned.1 ha).1 (mem_owned.1 hb).1 (mem_owned.1 ha).2 e)
  have h1 := subLen _ S hnd (fun y hy => by
    obtain ⟨r, hr, rfl⟩ := List.mem_map.1 hy
    exact (hS _).2 ⟨(mem_owned.1 hr).2, r, (mem_owned.1 hr).1, rfl⟩)
  have h2 := subLen S ((P.owned R s).map s) hn (fun y hy => by
    obtain ⟨h1, r, h2, h3⟩ := (hS y).1 hy
    exact List.mem_map.2 ⟨r, mem_owned.2 ⟨h2, by rw [h3]; exact h1⟩, h3⟩)
  simp at h1 h2
  omega

/-- The matching behind the left ones from k on; c of them have one. -/
def KnownD (E : List Edge) (N R : Nat) (s : Nat → Int) (k c : Nat) : Prop :=
  ∃ Y D S : List Int, (∀ y : Int, y ∈ Y ↔ (k : Int) ≤ y ∧ y < (N : Int)) ∧ Mtch E R s Y ∧ DeadIn E R s Y D ∧ S.Nodup ∧ (∀ y : Int, y ∈ S ↔ y ≠ -1 ∧ ∃ r, r < R ∧ s r = y) ∧ S.length = c
theorem knownD_none (E : List Edge) (N R : Nat) : KnownD E N R (fun _ => -1) N 0 :=
  ⟨[], [], [], fun y => by simp <;> omega, ⟨fun r _ h => absurd rfl h, fun r r' _ _ h => absurd rfl h⟩, ⟨fun r _ h => by simp at h, fun y h => by simp at h⟩, List.nodup_nil, fun y => ⟨fun h => by simp at h, fun ⟨h1, r, _, h2⟩ => absurd h2.symm h1⟩, rfl⟩
theorem knownD_next {E : List Edge} {N R : Nat} {s s' : Nat → Int} {k c : Nat} {A' : List Int} {b : Bool} (h : KnownD E N R s (k + 1) c) (hk : k < N) (hno : b = false → s' = s ∧ Dead E R s [] A' ∧ ∀ q : Int, ((k : Int), q) ∈ E → q ∈ A') (hyes : b = true → ∃ p, s' = P.shift s k p ∧ Path E R s [] k p) : KnownD E N R s' k (if b = true then c + 1 else c) := by
  obtain ⟨Y, D, S, hY, hM, hD, hS1, hS2, hS3⟩ := h
  have hYn : ∀ y : Int, y ∈ (k : Int) :: Y ↔ (k : Int) ≤ y ∧ y < (N : Int) := by
    intro y
    rw [List.mem_cons, hY]
    omega
  have hkY : ¬ (k : Int) ∈ Y := by rw [hY]; omega
  have hY1 : ∀ y ∈ Y, y ≠ -1 := fun y hy => by have := (hY y).1 hy; omega
  cases b with
  | false =>
    obtain ⟨rfl, h2, h3⟩ := hno rfl
    exact ⟨(k : Int) :: Y, D ++ A', S, hYn, mtch_more hM, dead_more hD h2 h3, hS1, hS2, by simpa using hS3⟩
  | true =>
    obtain ⟨p, rfl, hp⟩ := hyes rfl
    refine ⟨(k : Int) :: Y, D, (k : Int) :: S, hYn, mtch_path hM (by omega) hkY hp, dead_path hD hY1 (by omega) hp, List.nodup_cons.2 ⟨fun hm => ?_, hS1⟩, fun y => ?_, by simp [hS3]⟩
    · obtain ⟨h1, r, h2, h3⟩ := (hS2 _).1 hm
      have := (hM.edge r h2 (by rw [h3]; exact h1)).2
      rw [h3] at this
      exact hkY this
    · rw [List.mem_cons, hS2]
      constructor
      · rintro (rfl | ⟨h1, h2⟩)
        · exact ⟨by omega, (path_owners hp (by omega)).2 (.inl rfl)⟩
        · exact ⟨h1, (path_owners hp h1).2 (.inr h2)⟩
      · rintro ⟨h1, h2⟩
        rcases (path_owners hp h1).1 h2 with h3 | h3
        · exact .inl h3
        · exact .inr ⟨h1, h3⟩
theorem knownD_right {E : List Edge} {n R : Nat} {s : Nat → Int} {k c : Nat} (h : KnownD E n R s k c) (hn : n ≤ 16) (hR : R ≤ 16) (hE : ∀ x ∈ E, 0 ≤ x.1 ∧ x.1 < (n : Int) ∧ 0 ≤ x.2 ∧ x.2 < (R : Int)) : Right n R E s ∧ c ≤ n := by
  obtain ⟨Y, D, S, hY, hM, hD, hS1, hS2, hS3⟩ := h
  refine ⟨⟨hn, hR, hE, fun r hr => ?_⟩, ?_⟩
  · by_cases e : s r = -1
    · exact .inl e
    · have := hE _ (hM.edge r hr e).1
      exact .inr ⟨this.1, this.2.1⟩
  · rw [← hS3]
    refine pigeon n S hS1 (fun y hy => ?_)
    obtain ⟨h1, r, h2, h3⟩ := (hS2 y).1 hy
    have := hE _ (hM.edge r h2 (by rw [h3]; exact h1)).1
    simp only at this
    rw [h3] at this
    exact ⟨this.1, this.2.1⟩
theorem knownD_max {E : List Edge} {n R : Nat} {s : Nat → Int} {c : Nat} (hE : ∀ x ∈ E, 0 ≤ x.1 ∧ x.1 < (n : Int) ∧ 0 ≤ x.2 ∧ x.2 < (R : Int)) (h : KnownD E n R s 0 c) : MaxM E c := by
  obtain ⟨Y, D, S, hY, hM, hD, hS1, hS2, hS3⟩ := h
  have hY' : ∀ y : Int, y ∈ Y ↔ 0 ≤ y ∧ y < (n : Int) := fun y => by rw [hY]; simp
  have h1 := edgesTo_is (n := n) hM
  have h2 := edgesTo_owned hY' hM
  have h3 := own_count hM hS1 hS2
  refine ⟨⟨_, h1, by omega⟩, fun m hm => ?_⟩
  have := dead_max hE (fun y h3 h4 => (hY' y).2 ⟨h3, h4⟩) hD m hm
  omega

theorem Tryz.infoBool : (Tryz.prog.info? 4).map (fun i => (i.zero, i.size, i.bytes)) = some (some (.bool false), 1, 1) := by kernel_rfl

/-- As many numbers -1, in a list of the call's own: its row. -/
theorem own_row {w : World} {base k : Nat} {v : Value} (h : OwnI w base v (List.replicate k (-1))) (hk : 0 < k) : ∃ g C, ∃ h : Nat → Value, v = .slice (some ⟨g, 0, none⟩) k C ∧ base ≤ g ∧ k ≤ C ∧ C ≤ maxLen ∧ w.rowIs g 3 C (fun r => if r < k then .int .i64 (-1) else h r) := by
  rcases h.2 with ⟨_, h0⟩ | ⟨g, C, cur, hv, hb, hg, hn, hm, hs, ht⟩
  · simp at h0
    omega
  · simp only [List.length_replicate] at hv hn ht
    refine ⟨g, C, fun r => cur[r]?.getD undef, hv, hb, hn, hm, cur, hg, by simpa using hs, fun i hi => ?_⟩
    by_cases e : i < k
    · have h2 : (cur.toList.take (k * 1))[i]? = ((List.replicate k (-1 : Int)).map (Value.int .i64))[i]? := by rw [ht]
      rw [List.getElem?_take, if_pos (by omega), Array.getElem?_toList] at h2
      rw [h2]
      simp [e]
    · have hi' : i < cur.size := by simp at hs; omega
      simp [e, hi']

set_option maxHeartbeats 1000000 in
/-- Of a graph without edges nobody is matched. -/
theorem grow_nil (hv mv : Value) (ao : Option Addr) (cap : Nat) (x : Int) (w : World) :
    Calls Tryz.prog 186 #[.slice ao 0 cap, hv, mv, .int .i64 x] w fun e w' => e = .returned (.bool false) ∧ w' = w := by
  go_enter Tryz.func186, Tryz.ntmps186
  go_wp2
  go_loopg [9] 0 (fun g iv wr => iv = .int .i64 0 ∧ wr = w)
  case atStart => exact ⟨rfl, rfl⟩
  case round =>
    obtain ⟨rfl, rfl⟩ := hrel
    go_wp2
    go_ret
    exact ⟨rfl, rfl⟩

set_option maxHeartbeats 4000000 in
theorem size_any (ao : Option Addr) (cap : Nat) (l : List Edge) (n m : Int) (w : World) (hl : EdgesAt w ao cap l) (hz : P.graphE n m l = 0) :
    Calls Tryz.prog 132 #[.int .i64 n, .int .i64 m, .slice ao l.length cap] w fun e w' => ∃ c : Nat, e = .returned (.int .i64 c) ∧ MaxM l c ∧ Below w.heap.size w w' := by
  obtain ⟨n0, n16, m0, m16, hE, _⟩ := graphE_zero hz
  obtain ⟨N, rfl⟩ : ∃ N : Nat, n = N := ⟨n.toNat, by omega⟩
  obtain ⟨R, rfl⟩ : ∃ R : Nat, m = R := ⟨m.toNat, by omega⟩
  have HE : Aside (∀ x ∈ l, 0 ≤ x.1 ∧ x.1 < (N : Int) ∧ 0 ≤ x.2 ∧ x.2 < (R : Int)) := hE
  obtain ⟨j0, hj, hj0, hj1, hj2⟩ := info_parts Tryz.infoBool
  have HJ : Aside (Tryz.prog.info? 4 = some j0 ∧ j0.zero = some (.bool false) ∧ j0.size = 1 ∧ j0.bytes = 1) := ⟨hj, hj0, hj1, hj2⟩
  clear hE hz hj hj0 hj1 hj2
  go_enter Tryz.func132, Tryz.ntmps132
  go_wp2
  go_loopg [7, 8] R (fun g v rv wr => ∃ (k : Nat), k ≤ R ∧ g = R - k ∧ rv = .int .i64 k ∧ OwnI wr w.heap.size v (List.replicate k (-1)) ∧ Below w.heap.size w wr)
  case atStart => exact ⟨0, Nat.zero_le _, rfl, rfl, World.ownsRow_nil _ _ _ _, Below.refl _ _⟩
  case round =>
    obtain ⟨k, hk, rfl, rfl, hown, hB⟩ := hrel
    have hBs := hB.size
    by_cases hlt : k < R
    · have HS : Aside (List.replicate (k + 1) (-1 : Int) = List.replicate k (-1) ++ [-1]) := List.replicate_succ'
      have hln : (List.replicate k (-1 : Int)).length ≤ 16 := by simp; omega
      generalize List.replicate k (-1 : Int) = acc at HS hown hln
      go_wp2_with (at_builtin; refine wpList_append_int rfl (.tmp 16) (.tmp 17) rfl w.heap.size _ acc (-1) rfl hown _ rfl rfl hBs (by omega) ?_; intro v2 w2 hown2 hgr2)
      go_roundg (R - (k + 1))
      case measure => omega
      case rel => exact ⟨k + 1, by omega, rfl, by go_num, by rw [HS.out]; exact hown2, grownI_below hB hown (Nat.le_refl _) hgr2⟩
    · obtain rfl : k = R := by omega
      rcases Nat.eq_zero_or_pos k with hR0 | hR0
      · -- no right ones: no edges
        subst hR0
        have hl0 : l = [] := by
          cases l with
          | nil => rfl
          | cons x l => have := HE.out x (by simp); omega
        subst hl0
        have hm0 : MaxM ([] : List Edge) 0 := ⟨⟨[], ⟨by simp, List.Pairwise.nil⟩, rfl⟩, fun m hm => by
          cases m with
          | nil => simp
          | cons x m => have := hm.1 x (by simp); simp at this⟩
        have HM : Aside (MaxM ([] : List Edge) 0) := hm0
        clear hm0
        go_wp2
        go_loopg [9, 10] N (fun g nv iv wx => ∃ (j : Nat), j ≤ N ∧ g = j ∧ iv = .int .i64 ((j : Int) - 1) ∧ nv = .int .i64 0 ∧ Below w.heap.size w wx)
        case atStart => exact ⟨N, Nat.le_refl _, rfl, rfl, rfl, hB⟩
        case round =>
          clear hown hB hBs
          obtain ⟨j, hj, hgj, rfl, rfl, hB⟩ := hrel
          have hBs := hB.size
          cases j with
          | zero =>
            go_wp2
            go_ret
            exact ⟨0, rfl, HM.out, hB⟩
          | succ j =>
            have hge : decide ((0 : Int) ≤ ((j + 1 : Nat) : Int) - 1) = true := by simp
            have hge' : (0 : Int) ≤ ((j + 1 : Nat) : Int) - 1 := by omega
            subst hgj
            go_wp2_with (first
              | (at_make; refine wpList_make_full _ (by rfl) _ _ 155 (by rfl) w.heap.size 4 j0 _ 1 Tryz.underlying155 HJ.out.1 HJ.out.2.1 HJ.out.2.2.1 _ _ _ _ 0 (by rfl) (by rfl) rfl rfl (by rw [HJ.out.2.2.2]; omega) (by unfold maxLen; omega) hBs ?_; intro w2 hrow2 hgr2; have hB2 := bvia hB (below_grown hgr2); clear hrow2 hgr2)
              | (go_at_call 186; refine (grow_nil _ _ _ _ _ _).mono ?_; rintro e w3 ⟨rfl, rfl⟩))
            go_roundg j
            case measure => omega
            case rel => exact ⟨j, by omega, rfl, by go_num, rfl, hB2⟩
      · obtain ⟨g, C, h, rfl, hgb, hkC, hCm, hrow⟩ := own_row hown hR0
        clear hown
        have hC2 : C ≤ 9223372036854775807 := by unfold maxLen at hCm; omega
        have HK0 : Aside (KnownD l N k (fun _ => -1) N 0) := knownD_none l N k
        have HRW : Aside (wr.rowIs g 3 C (fun r => if r < k then .int .i64 (-1) else h r)) := hrow
        clear hrow
        go_wp2
        go_loopg [9, 10] N (fun gm nv iv wx => ∃ (j c : Nat) (s : Nat → Int), j ≤ N ∧ gm = j ∧ iv = .int .i64 ((j : Int) - 1) ∧ nv = .int .i64 c ∧ KnownD l N k s j c ∧ wx.rowIs g 3 C (fun r => if r < k then .int .i64 (s r) else h r) ∧ Below w.heap.size w wx)
        case atStart => exact ⟨N, 0, _, Nat.le_refl _, rfl, rfl, rfl, HK0.out, HRW.out, hB⟩
        case round =>
          clear hB hBs HK0 HRW
          obtain ⟨j, c, s, hj, hgj, rfl, rfl, hkn, hrow, hB⟩ := hrel
          have HKN : Aside (KnownD l N k s j c) := hkn
          have HRW : Aside (wr.rowIs g 3 C (fun r => if r < k then .int .i64 (s r) else h r)) := hrow
          have hgl := hrow.lt
          have hBs := hB.size
          clear hkn hrow
          cases j with
          | zero =>
            go_wp2
            go_ret
            exact ⟨c, rfl, knownD_max HE.out HKN.out, hB⟩
          | succ j =>
            have hge : decide ((0 : Int) ≤ ((j + 1 : Nat) : Int) - 1) = true := by simp
            have hge' : (0 : Int) ≤ ((j + 1 : Nat) : Int) - 1 := by omega
            obtain ⟨hrt, hcn⟩ := knownD_right HKN.out (by omega) (by omega) HE.out
            have HRT : Aside (Right N k l s) := hrt
            clear hrt
            subst hgj
            go_wp2_with (at_make; refine wpList_make_full _ (by rfl) _ _ 155 (by rfl) w.heap.size 4 j0 _ 1 Tryz.underlying155 HJ.out.1 HJ.out.2.1 HJ.out.2.2.1 _ _ _ _ k (by rfl) (by rfl) rfl rfl (by rw [HJ.out.2.2.2]; omega) (by unfold maxLen; omega) hBs ?_; intro w2 hrow2 hgr2; have hb2 := below_grown hgr2; have HR2 : Aside (w2.rowIs wr.heap.size 4 k (fun _ => .bool false)) := row_of_made hrow2; clear hrow2 hgr2)
            have hB2 := bvia hB hb2
            have hst2 : GSt w2 g wr.heap.size C h k s [] := ⟨HRW.out.of_block (hb2.block g hgl), HR2.out.congr (fun r _ => by simp [P.hasInt]), by omega⟩
            refine (grow_ok N k g wr.heap.size C h ao cap l s w hl HRT.out hkC hC2 hgb hBs (k + 1) [] _ w2 (by simp) (by simp) (by simp) hB2 hst2).mono ?_
            rintro e w3 ⟨b, A', s', rfl, hst3, hm3, hno, hyes⟩
            have HK3 : Aside (KnownD l N k s' j (if b = true then c + 1 else c)) := knownD_next HKN.out (by omega) hno hyes
            have hB3 : Below w.heap.size w w3 := hm3.below hB2 hgb hBs
            have HRW3 : Aside (w3.rowIs g 3 C (fun r => if r < k then .int .i64 (s' r) else h r)) := hst3.owner
            clear hno hyes hst3 hm3 hst2 HKN HRW
            cases b with
            | false =>
              simp only [Bool.false_eq_true, if_false] at HK3
              go_wp2
              go_roundg j
              case measure => omega
              case rel => exact ⟨j, c, s', by omega, rfl, by go_num, rfl, HK3.out, HRW3.out, hB3⟩
            | true =>
              simp only [if_true] at HK3
              go_wp2
              go_roundg j
              case measure => omega
              case rel => exact ⟨j, c + 1, s', by omega, rfl, by go_num, by simp, HK3.out, HRW3.out, hB3⟩

end Go.Proofs.YtlamhfbdeinkkaeGreat.Ma
