/- The walk of the reference's grow: the same search, over lists. -/
import Derived.Test.YtcifdkggigfnlabMatP
namespace Go.Proofs.Ytcifdkggigfnlab
open Go.RowKit Go.Maps Go.WideMaps
set_option linter.unusedSimpArgs false
set_option linter.unusedVariables false

/-- A matching in memory, as the reference has it: G who has each right one (C cells, those behind R are h's), M who was met. -/
structure GSt (w : World) (G M C : Nat) (h : Nat → Value) (R : Nat) (s : Nat → Int) (A : List Int) : Prop where
  owner : w.rowIs G 3 C (fun r => if r < R then .int .i64 (s r) else h r)
  met : w.rowIs M 4 R (fun r => .bool (P.hasInt A r))
  gm : G ≠ M
theorem GSt.cellAt {w : World} {G M C : Nat} {h : Nat → Value} {R : Nat} {s : Nat → Int} {A : List Int} (k : GSt w G M C h R s A) (hC : R ≤ C) {r : Nat} (hr : r < R) : w.cell? ⟨G, r, none⟩ = some (.int .i64 (s r)) := by
  rw [k.owner.cell (by omega), if_pos hr]

def GrowPost (G M C : Nat) (h : Nat → Value) (l : List Edge) (R : Nat) (s : Nat → Int) (A : List Int) (x : Int) (w : World) (e : Ending) (w' : World) : Prop :=
  ∃ (b : Bool) (A' : List Int) (s' : Nat → Int), e = .returned (.bool b) ∧ GSt w' G M C h R s' A' ∧ Mut G M w w' ∧ (b = false → s' = s ∧ Dead l R s A A' ∧ ∀ q : Int, (x, q) ∈ l → q ∈ A') ∧ (b = true → ∃ p, s' = P.shift s x p ∧ Path l R s A x p)

def GrowOk (n R G M C : Nat) (h : Nat → Value) (ao : Option Addr) (cap : Nat) (l : List Edge) (s : Nat → Int) (w0 : World) (f : Nat) : Prop :=
  ∀ (A : List Int) (x : Int) (w : World), R - A.length < f → A.Nodup → (∀ a ∈ A, 0 ≤ a ∧ a < (R : Int)) → Below w0.heap.size w0 w → GSt w G M C h R s A →
    Calls Try.prog 49 #[.slice ao l.length cap, .slice (some ⟨G, 0, none⟩) R C, .slice (some ⟨M, 0, none⟩) R R, .int .i64 x] w (GrowPost G M C h l R s A x w)

theorem gst_mark {w : World} {G M C : Nat} {h : Nat → Value} {R : Nat} {s : Nat → Int} {A : List Int} {y : Nat} (k : GSt w G M C h R s A) : GSt (w.setCell ⟨M, y, none⟩ (.bool true)) G M C h R s (A ++ [(y : Int)]) := by
  refine ⟨k.owner.setOther (fun e => k.gm e) _, (k.met.set y (.bool true)).congr (fun r hr => ?_), k.gm⟩
  rw [hasInt_snoc]
  by_cases e : r = y
  · rw [if_pos e, e]; simp
  · rw [if_neg e]
    have : decide ((y : Int) = (r : Int)) = false := by simp; omega
    rw [this, Bool.or_false]
theorem gst_give {w : World} {G M C : Nat} {h : Nat → Value} {R : Nat} {s s' : Nat → Int} {A : List Int} {y : Nat} {x : Int} (k : GSt w G M C h R s A) (hy : y < R) (hs : ∀ r, s' r = if r = y then x else s r) : GSt (w.setCell ⟨G, y, none⟩ (.int .i64 x)) G M C h R s' A := by
  refine ⟨(k.owner.set y (.int .i64 x)).congr (fun r hr => ?_), k.met.setOther (fun e => k.gm e.symm) _, k.gm⟩
  by_cases e : r = y
  · rw [if_pos e, if_pos (by omega), hs, if_pos e]
  · rw [if_neg e, hs, if_neg e]
theorem mut_mark {G M y : Nat} {w : World} {v : Value} : Mut G M w (w.setCell ⟨M, y, none⟩ v) := ⟨rfl, rfl, rfl, by simp, fun k _ _ h2 => Go.Deep.blk_setCell_other _ _ _ _ h2⟩

set_option maxHeartbeats 4000000 in
theorem grow_step (n R G M C : Nat) (h : Nat → Value) (ao : Option Addr) (cap : Nat) (l : List Edge) (s : Nat → Int) (w0 : World) (hl : EdgesAt w0 ao cap l) (hr : Right n R l s) (hC : R ≤ C) (hC2 : C ≤ 9223372036854775807) (hG : w0.heap.size ≤ G) (hM : w0.heap.size ≤ M) (f : Nat) (ih : Hid (GrowOk n R G M C h ao cap l s w0 f)) : GrowOk n R G M C h ao cap l s w0 (f + 1) := by
  intro A x w hf hA hAr hB0 hst
  have hle := hl.le
  have hmx := hl.max
  unfold maxLen at hmx
  have hR16 := hr.r16
  have HR : Aside (Right n R l s) := hr
  have HA : Aside (A.Nodup ∧ ∀ a ∈ A, 0 ≤ a ∧ a < (R : Int)) := ⟨hA, hAr⟩
  clear hr hA hAr
  go_enter Try.func49, Try.ntmps49
  go_wp2
  go_loopg [9] l.length (fun g iv wr => ∃ (i : Nat) (A' : List Int), i ≤ l.length ∧ g = l.length - i ∧ iv = .int .i64 i ∧ GSt wr G M C h R s A' ∧ Mut G M w wr ∧ Dead l R s A A' ∧ (∀ j (hj : j < l.length), j < i → l[j].1 = x → l[j].2 ∈ A'))
  case atStart => exact ⟨0, A, Nat.zero_le _, rfl, rfl, hst, Mut.refl _ _ _, Dead.refl HA.out.1 HA.out.2, fun j _ h => by omega⟩
  case round =>
    obtain ⟨i, A', hi, rfl, rfl, hst', hm, hD, hQ⟩ := hrel
    have HD : Aside (Dead l R s A A' ∧ ∀ j (hj : j < l.length), j < i → l[j].1 = x → l[j].2 ∈ A') := ⟨hD, hQ⟩
    have hAl := sub_len A A' HA.out.1 hD.sub
    clear hD hQ
    have hB : Below w0.heap.size w0 wr := hm.below hB0 hG hM
    by_cases hlt : i < l.length
    · obtain ⟨b, off, a, y, rfl, hbw, hd, hc0, hc1⟩ := hl.get hB i hlt
      have hgi := getE hlt hd
      have hmem : (a, y) ∈ l := by rw [← hgi]; exact List.getElem_mem hlt
      have hrg := HR.out.edge _ hmem
      simp only at hrg
      have HMEM : Aside ((a, y) ∈ l) := hmem
      have HGI : Aside (l[i] = (a, y)) := hgi
      clear hd hgi hmem
      obtain ⟨y, rfl⟩ : ∃ y' : Nat, y = y' := ⟨y.toNat, by omega⟩
      have hyR : y < R := by omega
      have i1 : (y : Int) < (R : Int) := by omega
      have i2 : (0 : Int) ≤ (y : Int) := by omega
      have hmet := hst'.met.cell hyR
      have hmf := hst'.met.frozen y
      have how := hst'.cellAt hC hyR
      have hof := hst'.owner.frozen y
      by_cases e1 : a = x
      · have e1' : (a != x) = false := by simpa using e1
        cases hh : P.hasInt A' y
        · have hny : ¬ (y : Int) ∈ A' := fun h => by rw [(hasInt_iff _ _).2 h] at hh; cases hh
          rw [hh] at hmet
          have hA1 := nodup_snoc HD.out.1.nodup hny
          have hA1r : ∀ z ∈ A' ++ [(y : Int)], 0 ≤ z ∧ z < (R : Int) := by
            intro z hz
            rcases List.mem_append.1 hz with hz | hz
            · exact HD.out.1.rng z hz
            · simp at hz; subst hz; omega
          have hlen := pigeon R _ hA1 hA1r
          simp at hlen
          have HA1 : Aside ((A' ++ [(y : Int)]).Nodup ∧ ∀ z ∈ A' ++ [(y : Int)], 0 ≤ z ∧ z < (R : Int)) := ⟨hA1, hA1r⟩
          have HNY : Aside (¬ (y : Int) ∈ A') := hny
          have hst1 := gst_mark (y := y) hst'
          have hm1 : Mut G M w (wr.setCell ⟨M, y, none⟩ (.bool true)) := hm.trans mut_mark
          have how1 := hst1.cellAt hC hyR
          have hof1 := hst1.owner.frozen y
          have HX : Aside ((x, (y : Int)) ∈ l) := by have := HMEM.out; rw [e1] at this; exact this
          clear hA1 hA1r hny e1
          by_cases hs : s y = -1
          · rw [hs] at how1
            have HS : Aside (s y = -1) := hs
            clear hs how
            go_wp2
            go_ret
            refine ⟨true, A' ++ [(y : Int)], P.shift s x [y], rfl, gst_give hst1 hyR (fun r => rfl), hm1.trans .ofSet, (fun h => by cases h), fun _ => ⟨[y], rfl, ⟨HX.out, .inl ⟨rfl, HS.out⟩⟩, by simp, fun r h => ?_⟩⟩
            simp at h
            subst h
            exact ⟨hyR, fun hc => HNY.out (HD.out.1.sub _ hc)⟩
          · have hso := HR.out.own y hyR
            have hpos : decide (s y < 0) = false := by simp; omega
            have hpos' : ¬ s y < 0 := by omega
            have HS : Aside (s y ≠ -1) := hs
            have hfl : R - (A' ++ [(y : Int)]).length < f := by simp; omega
            have hBm : Below w0.heap.size w0 (wr.setCell ⟨M, y, none⟩ (.bool true)) := mut_mark.below (G := G) hB hG hM
            clear hs hso how
            go_wp2_with fail
            refine (ih.out (A' ++ [(y : Int)]) (s y) _ hfl HA1.out.1 HA1.out.2 hBm hst1).mono ?_
            rintro e w2 ⟨bb, A2, s2, rfl, hst2, hm2, hno, hyes⟩
            have hm02 := hm1.trans hm2
            have how2 := hst2.cellAt hC hyR
            have hof2 := hst2.owner.frozen y
            cases bb with
            | false =>
              obtain ⟨rfl, hD2, hq2⟩ := hno rfl
              have hyn := yield_no HS.out hD2 hq2
              have HN : Aside (Dead l R s2 A A2 ∧ ∀ j (hj : j < l.length), j < i + 1 → l[j].1 = x → l[j].2 ∈ A2) := by
                refine ⟨HD.out.1.trans hyn.1, fun j hj hji hx => ?_⟩
                by_cases e : j < i
                · exact hyn.1.sub _ (HD.out.2 j hj e hx)
                · obtain rfl : j = i := by omega
                  rw [HGI.out]
                  exact hyn.2
              clear hno hyes hD2 hq2 hyn how2 hof2 how1 hof1 hmet hmf hst1 hm1 hBm
              go_wp2
              go_roundg (l.length - (i + 1))
              case measure => omega
              case rel => exact ⟨i + 1, A2, by omega, rfl, by go_num, hst2, hm02, HN.out.1, HN.out.2⟩
            | true =>
              obtain ⟨p, hs2, hp⟩ := hyes rfl
              have hyy := yield_yes HS.out hyR HNY.out HX.out hp
              have HP : Aside (Path l R s A x (y :: p)) := ⟨hyy.1.alt, hyy.1.nodup, fun r hr => ⟨(hyy.1.fresh r hr).1, fun hc => (hyy.1.fresh r hr).2 (HD.out.1.sub _ hc)⟩⟩
              have HS2 : Aside (s2 = P.shift s (s y) p) := hs2
              clear hno hyes hp hyy how1 hof1 hmet hmf hst1 hm1 hBm hs2
              go_wp2
              go_ret
              exact ⟨true, A2, P.shift s x (y :: p), rfl, gst_give hst2 hyR (fun r => by rw [HS2.out]; rfl), hm02.trans .ofSet, (fun h => by cases h), fun _ => ⟨y :: p, rfl, HP.out⟩⟩
        · rw [hh] at hmet
          have hin : (y : Int) ∈ A' := (hasInt_iff _ _).1 hh
          have HN : Aside (∀ j (hj : j < l.length), j < i + 1 → l[j].1 = x → l[j].2 ∈ A') := fun j hj hji hx => by
            by_cases e : j < i
            · exact HD.out.2 j hj e hx
            · obtain rfl : j = i := by omega
              rw [HGI.out]
              exact hin
          clear e1 hin
          go_wp2
          go_roundg (l.length - (i + 1))
          case measure => omega
          case rel => exact ⟨i + 1, A', by omega, rfl, by go_num, hst', hm, HD.out.1, HN.out⟩
      · have e1' : (a != x) = true := by simpa using e1
        have HN : Aside (∀ j (hj : j < l.length), j < i + 1 → l[j].1 = x → l[j].2 ∈ A') := fun j hj hji hx => by
          by_cases e : j < i
          · exact HD.out.2 j hj e hx
          · obtain rfl : j = i := by omega
            rw [HGI.out] at hx
            exact absurd hx e1
        go_wp2
        go_roundg (l.length - (i + 1))
        case measure => omega
        case rel => exact ⟨i + 1, A', by omega, rfl, by go_num, hst', hm, HD.out.1, HN.out⟩
    · obtain rfl : i = l.length := by omega
      go_wp2
      go_ret
      refine ⟨false, A', s, rfl, hst', hm, fun _ => ⟨rfl, HD.out.1, fun q hq => ?_⟩, fun h => by cases h⟩
      obtain ⟨j, hj, e⟩ := List.getElem_of_mem hq
      have := HD.out.2 j hj hj (by rw [e])
      rw [e] at this
      exact this

theorem grow_ok (n R G M C : Nat) (h : Nat → Value) (ao : Option Addr) (cap : Nat) (l : List Edge) (s : Nat → Int) (w0 : World) (hl : EdgesAt w0 ao cap l) (hr : Right n R l s) (hC : R ≤ C) (hC2 : C ≤ 9223372036854775807) (hG : w0.heap.size ≤ G) (hM : w0.heap.size ≤ M) : ∀ f, GrowOk n R G M C h ao cap l s w0 f := by
  intro f
  induction f with
  | zero => intro A x w hf; omega
  | succ f ih => exact grow_step n R G M C h ao cap l s w0 hl hr hC hC2 hG hM f ih

end Go.Proofs.Ytcifdkggigfnlab
