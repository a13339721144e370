/- The walk of the reference's Size; of the law MatchTells. -/
import Derived.Test.YtcifdkggigfnlabMatQ
namespace Go.Proofs.Ytcifdkggigfnlab
open Go.RowKit Go.Maps Go.WideMaps
set_option linter.unusedSimpArgs false
set_option linter.unusedVariables false

theorem own_count {E : List Edge} {R : Nat} {s : Nat → Int} {Y S : List Int} (hM : Mtch E R s Y) (hn : S.Nodup) (hS : ∀ y : Int, y ∈ S ↔ y ≠ -1 ∧ ∃ r, r < R ∧ s r = y) : S.length = (P.owned R s).length := by
  have hnd : ((P.owned R s).map s).Nodup := by
    rw [List.nodup_iff_pairwise_ne, List.pairwise_map]
    refine List.Pairwise.imp_of_mem ?_ (owned_nodup R s)
    intro a b ha hb hne e
    exact hne (hM.inj a b (mem_owned.1 ha).1 (mem_owned.1 hb).1 (mem_owned.1 ha).2 e)
  have h1 := subLen _ S hnd (fun y hy => by
    obtain ⟨r, hr, rfl⟩ := List.mem_map.1 hy
    exact (hS _).2 ⟨(mem_owned.1 hr).2, r, (mem_owned.1 hr).1, rfl⟩)
  have h2 := subLen S ((P.owned R s).map s) hn (fun y hy => by
    obtain ⟨h1, r, h2, h3⟩ := (hS y).1 hy
    exact List.mem_map.2 ⟨r, mem_owned.2 ⟨h2, by rw [h3]; exact h1⟩, h3⟩)
  simp at h1 h2
  omega

/-- The matching behind the left ones from k on; c of them have one. -/
def KnownD (E : List Edge) (N R : Nat) (s : Nat → Int) (k c : Nat) : Prop :=
  ∃ Y D S : List Int, (∀ y : Int, y ∈ Y ↔ (k : Int) ≤ y ∧ y < (N : Int)) ∧ Mtch E R s Y ∧ DeadIn E R s Y D ∧ S.Nodup ∧ (∀ y : Int, y ∈ S ↔ y ≠ -1 ∧ ∃ r, r < R ∧ s r = y) ∧ S.length = c
theorem knownD_none (E : List Edge) (N R : Nat) : KnownD E N R (fun _ => -1) N 0 :=
  ⟨[], [], [], fun y => by simp <;> omega, ⟨fun r _ h => absurd rfl h, fun r r' _ _ h => absurd rfl h⟩, ⟨fun r _ h => by simp at h, fun y h => by simp at h⟩, List.nodup_nil, fun y => ⟨fun h => by simp at h, fun ⟨h1, r, _, h2⟩ => absurd h2.symm h1⟩, rfl⟩
theorem knownD_next {E : List Edge} {N R : Nat} {s s' : Nat → Int} {k c : Nat} {A' : List Int} {b : Bool} (h : KnownD E N R s (k + 1) c) (hk : k < N) (hno : b = false → s' = s ∧ Dead E R s [] A' ∧ ∀ q : Int, ((k : Int), q) ∈ E → q ∈ A') (hyes : b = true → ∃ p, s' = P.shift s k p ∧ Path E R s [] k p) : KnownD E N R s' k (if b = true then c + 1 else c) := by
  obtain ⟨Y, D, S, hY, hM, hD, hS1, hS2, hS3⟩ := h
  have hYn : ∀ y : Int, y ∈ (k : Int) :: Y ↔ (k : Int) ≤ y ∧ y < (N : Int) := by
    intro y
    rw [List.mem_cons, hY]
    omega
  have hkY : ¬ (k : Int) ∈ Y := by rw [hY]; omega
  have hY1 : ∀ y ∈ Y, y ≠ -1 := fun y hy => by have := (hY y).1 hy; omega
  cases b with
  | false =>
    obtain ⟨rfl, h2, h3⟩ := hno rfl
    exact ⟨(k : Int) :: Y, D ++ A', S, hYn, mtch_more hM, dead_more hD h2 h3, hS1, hS2, by simpa using hS3⟩
  | true =>
    obtain ⟨p, rfl, hp⟩ := hyes rfl
    refine ⟨(k : Int) :: Y, D, (k : Int) :: S, hYn, mtch_path hM (by omega) hkY hp, dead_path hD hY1 (by omega) hp, List.nodup_cons.2 ⟨fun hm => ?_, hS1⟩, fun y => ?_, by simp [hS3]⟩
    · obtain ⟨h1, r, h2, h3⟩ := (hS2 _).1 hm
      have := (hM.edge r h2 (by rw [h3]; exact h1)).2
      rw [h3] at this
      exact hkY this
    · rw [List.mem_cons, hS2]
      constructor
      · rintro (rfl | ⟨h1, h2⟩)
        · exact ⟨by omega, (path_owners hp (by omega)).2 (.inl rfl)⟩
        · exact ⟨h1, (path_owners hp h1).2 (.inr h2)⟩
      · rintro ⟨h1, h2⟩
        rcases (path_owners hp h1).1 h2 with h3 | h3
        · exact .inl h3
        · exact .inr ⟨h1, h3⟩
theorem knownD_right {E : List Edge} {n R : Nat} {s : Nat → Int} {k c : Nat} (h : KnownD E n R s k c) (hn : n ≤ 16) (hR : R ≤ 16) (hE : ∀ x ∈ E, 0 ≤ x.1 ∧ x.1 < (n : Int) ∧ 0 ≤ x.2 ∧ x.2 < (R : Int)) : Right n R E s ∧ c ≤ n := by
  obtain ⟨Y, D, S, hY, hM, hD, hS1, hS2, hS3⟩ := h
  refine ⟨⟨hn, hR, hE, fun r hr => ?_⟩, ?_⟩
  · by_cases e : s r = -1
    · exact .inl e
    · have := hE _ (hM.edge r hr e).1
      exact .inr ⟨this.1, this.2.1⟩
  · rw [← hS3]
    refine pigeon n S hS1 (fun y hy => ?_)
    obtain ⟨h1, r, h2, h3⟩ := (hS2 y).1 hy
    have := hE _ (hM.edge r h2 (by rw [h3]; exact h1)).1
    simp only at this
    rw [h3] at this
    exact ⟨this.1, this.2.1⟩
theorem knownD_max {E : List Edge} {n R : Nat} {s : Nat → Int} {c : Nat} (hE : ∀ x ∈ E, 0 ≤ x.1 ∧ x.1 < (n : Int) ∧ 0 ≤ x.2 ∧ x.2 < (R : Int)) (h : KnownD E n R s 0 c) : MaxM E c := by
  obtain ⟨Y, D, S, hY, hM, hD, hS1, hS2, hS3⟩ := h
  have hY' : ∀ y : Int, y ∈ Y ↔ 0 ≤ y ∧ y < (n : Int) := fun y => by rw [hY]; simp
  have h1 := edgesTo_is (n := n) hM
  have h2 := edgesTo_owned hY' hM
  have h3 := own_count hM hS1 hS2
  refine ⟨⟨_, h1, by omega⟩, fun m hm => ?_⟩
  have := dead_max hE (fun y h3 h4 => (hY' y).2 ⟨h3, h4⟩) hD m hm
  omega

theorem Try.infoBool : (Try.prog.info? 4).map (fun i => (i.zero, i.size, i.bytes)) = some (some (.bool false), 1, 1) := by kernel_rfl

/-- As many numbers -1, in a list of the call's own: its row. -/
theorem own_row {w : World} {base k : Nat} {v : Value} (h : OwnI w base v (List.replicate k (-1))) (hk : 0 < k) : ∃ g C, ∃ h : Nat → Value, v = .slice (some ⟨g, 0, none⟩) k C ∧ base ≤ g ∧ k ≤ C ∧ C ≤ maxLen ∧ w.rowIs g 3 C (fun r => if r < k then .int .i64 (-1) else h r) := by
  rcases h.2 with ⟨_, h0⟩ | ⟨g, C, cur, hv, hb, hg, hn, hm, hs, ht⟩
  · simp at h0
    omega
  · simp only [List.length_replicate] at hv hn ht
    refine ⟨g, C, fun r => cur[r]?.getD undef, hv, hb, hn, hm, cur, hg, by simpa using hs, fun i hi => ?_⟩
    by_cases e : i < k
    · have h2 : (cur.toList.take (k * 1))[i]? = ((List.replicate k (-1 : Int)).map (Value.int .i64))[i]? := by rw [ht]
      rw [List.getElem?_take, if_pos (by omega), Array.getElem?_toList] at h2
      rw [h2]
      simp [e]
    · have hi' : i < cur.size := by simp at hs; omega
      simp [e, hi']

set_option maxHeartbeats 1000000 in
/-- Of a graph without edges nobody is matched. -/
theorem grow_nil (hv mv : Value) (ao : Option Addr) (cap : Nat) (x : Int) (w : World) :
    Calls Try.prog 49 #[.slice ao 0 cap, hv, mv, .int .i64 x] w fun e w' => e = .returned (.bool false) ∧ w' = w := by
  go_enter Try.func49, Try.ntmps49
  go_wp2
  go_loopg [9] 0 (fun g iv wr => iv = .int .i64 0 ∧ wr = w)
  case atStart => exact ⟨rfl, rfl⟩
  case round =>
    obtain ⟨rfl, rfl⟩ := hrel
    go_wp2
    go_ret
    exact ⟨rfl, rfl⟩

set_option maxHeartbeats 4000000 in
theorem size_any (ao : Option Addr) (cap : Nat) (l : List Edge) (n m : Int) (w : World) (hl : EdgesAt w ao cap l) (hz : P.graphE n m l = 0) :
    Calls Try.prog 27 #[.int .i64 n, .int .i64 m, .slice ao l.length cap] w fun e w' => ∃ c : Nat, e = .returned (.int .i64 c) ∧ MaxM l c ∧ Below w.heap.size w w' := by
  obtain ⟨n0, n16, m0, m16, hE, _⟩ := graphE_zero hz
  obtain ⟨N, rfl⟩ : ∃ N : Nat, n = N := ⟨n.toNat, by omega⟩
  obtain ⟨R, rfl⟩ : ∃ R : Nat, m = R := ⟨m.toNat, by omega⟩
  have HE : Aside (∀ x ∈ l, 0 ≤ x.1 ∧ x.1 < (N : Int) ∧ 0 ≤ x.2 ∧ x.2 < (R : Int)) := hE
  obtain ⟨j0, hj, hj0, hj1, hj2⟩ := info_parts Try.infoBool
  have HJ : Aside (Try.prog.info? 4 = some j0 ∧ j0.zero = some (.bool false) ∧ j0.size = 1 ∧ j0.bytes = 1) := ⟨hj, hj0, hj1, hj2⟩
  clear hE hz hj hj0 hj1 hj2
  go_enter Try.func27, Try.ntmps27
  go_wp2
  go_loopg [7, 8] R (fun g v rv wr => ∃ (k : Nat), k ≤ R ∧ g = R - k ∧ rv = .int .i64 k ∧ OwnI wr w.heap.size v (List.replicate k (-1)) ∧ Below w.heap.size w wr)
  case atStart => exact ⟨0, Nat.zero_le _, rfl, rfl, World.ownsRow_nil _ _ _ _, Below.refl _ _⟩
  case round =>
    obtain ⟨k, hk, rfl, rfl, hown, hB⟩ := hrel
    have hBs := hB.size
    by_cases hlt : k < R
    · have HS : Aside (List.replicate (k + 1) (-1 : Int) = List.replicate k (-1) ++ [-1]) := List.replicate_succ'
      have hln : (List.replicate k (-1 : Int)).length ≤ 16 := by simp; omega
      generalize List.replicate k (-1 : Int) = acc at HS hown hln
      go_wp2_with (at_builtin; refine wpList_append_int rfl (.tmp 16) (.tmp 17) rfl w.heap.size _ acc (-1) rfl hown _ rfl rfl hBs (by omega) ?_; intro v2 w2 hown2 hgr2)
      go_roundg (R - (k + 1))
      case measure => omega
      case rel => exact ⟨k + 1, by omega, rfl, by go_num, by rw [HS.out]; exact hown2, grownI_below hB hown (Nat.le_refl _) hgr2⟩
    · obtain rfl : k = R := by omega
      rcases Nat.eq_zero_or_pos k with hR0 | hR0
      · -- no right ones: no edges
        subst hR0
        have hl0 : l = [] := by
          cases l with
          | nil => rfl
          | cons x l => have := HE.out x (by simp); omega
        subst hl0
        have hm0 : MaxM ([] : List Edge) 0 := ⟨⟨[], ⟨by simp, List.Pairwise.nil⟩, rfl⟩, fun m hm => by
          cases m with
          | nil => simp
          | cons x m => have := hm.1 x (by simp); simp at this⟩
        have HM : Aside (MaxM ([] : List Edge) 0) := hm0
        clear hm0
        go_wp2
        go_loopg [9, 10] N (fun g nv iv wx => ∃ (j : Nat), j ≤ N ∧ g = j ∧ iv = .int .i64 ((j : Int) - 1) ∧ nv = .int .i64 0 ∧ Below w.heap.size w wx)
        case atStart => exact ⟨N, Nat.le_refl _, rfl, rfl, rfl, hB⟩
        case round =>
          clear hown hB hBs
          obtain ⟨j, hj, hgj, rfl, rfl, hB⟩ := hrel
          have hBs := hB.size
          cases j with
          | zero =>
            go_wp2
            go_ret
            exact ⟨0, rfl, HM.out, hB⟩
          | succ j =>
            have hge : decide ((0 : Int) ≤ ((j + 1 : Nat) : Int) - 1) = true := by simp
            have hge' : (0 : Int) ≤ ((j + 1 : Nat) : Int) - 1 := by omega
            subst hgj
            go_wp2_with (first
              | (at_make; refine wpList_make_full _ (by rfl) _ _ 78 (by rfl) w.heap.size 4 j0 _ 1 Try.underlying78 HJ.out.1 HJ.out.2.1 HJ.out.2.2.1 _ _ _ _ 0 (by rfl) (by rfl) rfl rfl (by rw [HJ.out.2.2.2]; omega) (by unfold maxLen; omega) hBs ?_; intro w2 hrow2 hgr2; have hB2 := bvia hB (below_grown hgr2); clear hrow2 hgr2)
              | (go_at_call 49; refine (grow_nil _ _ _ _ _ _).mono ?_; rintro e w3 ⟨rfl, rfl⟩))
            go_roundg j
            case measure => omega
            case rel => exact ⟨j, by omega, rfl, by go_num, rfl, hB2⟩
      · obtain ⟨g, C, h, rfl, hgb, hkC, hCm, hrow⟩ := own_row hown hR0
        clear hown
        have hC2 : C ≤ 9223372036854775807 := by unfold maxLen at hCm; omega
        have HK0 : Aside (KnownD l N k (fun _ => -1) N 0) := knownD_none l N k
        have HRW : Aside (wr.rowIs g 3 C (fun r => if r < k then .int .i64 (-1) else h r)) := hrow
        clear hrow
        go_wp2
        go_loopg [9, 10] N (fun gm nv iv wx => ∃ (j c : Nat) (s : Nat → Int), j ≤ N ∧ gm = j ∧ iv = .int .i64 ((j : Int) - 1) ∧ nv = .int .i64 c ∧ KnownD l N k s j c ∧ wx.rowIs g 3 C (fun r => if r < k then .int .i64 (s r) else h r) ∧ Below w.heap.size w wx)
        case atStart => exact ⟨N, 0, _, Nat.le_refl _, rfl, rfl, rfl, HK0.out, HRW.out, hB⟩
        case round =>
          clear hB hBs HK0 HRW
          obtain ⟨j, c, s, hj, hgj, rfl, rfl, hkn, hrow, hB⟩ := hrel
          have HKN : Aside (KnownD l N k s j c) := hkn
          have HRW : Aside (wr.rowIs g 3 C (fun r => if r < k then .int .i64 (s r) else h r)) := hrow
          have hgl := hrow.lt
          have hBs := hB.size
          clear hkn hrow
          cases j with
          | zero =>
            go_wp2
            go_ret
            exact ⟨c, rfl, knownD_max HE.out HKN.out, hB⟩
          | succ j =>
            have hge : decide ((0 : Int) ≤ ((j + 1 : Nat) : Int) - 1) = true := by simp
            have hge' : (0 : Int) ≤ ((j + 1 : Nat) : Int) - 1 := by omega
            obtain ⟨hrt, hcn⟩ := knownD_right HKN.out (by omega) (by omega) HE.out
            have HRT : Aside (Right N k l s) := hrt
            clear hrt
            subst hgj
            go_wp2_with (at_make; refine wpList_make_full _ (by rfl) _ _ 78 (by rfl) w.heap.size 4 j0 _ 1 Try.underlying78 HJ.out.1 HJ.out.2.1 HJ.out.2.2.1 _ _ _ _ k (by rfl) (by rfl) rfl rfl (by rw [HJ.out.2.2.2]; omega) (by unfold maxLen; omega) hBs ?_; intro w2 hrow2 hgr2; have hb2 := below_grown hgr2; have HR2 : Aside (w2.rowIs wr.heap.size 4 k (fun _ => .bool false)) := row_of_made hrow2; clear hrow2 hgr2)
            have hB2 := bvia hB hb2
            have hst2 : GSt w2 g wr.heap.size C h k s [] := ⟨HRW.out.of_block (hb2.block g hgl), HR2.out.congr (fun r _ => by simp [P.hasInt]), by omega⟩
            refine (grow_ok N k g wr.heap.size C h ao cap l s w hl HRT.out hkC hC2 hgb hBs (k + 1) [] _ w2 (by simp) (by simp) (by simp) hB2 hst2).mono ?_
            rintro e w3 ⟨b, A', s', rfl, hst3, hm3, hno, hyes⟩
            have HK3 : Aside (KnownD l N k s' j (if b = true then c + 1 else c)) := knownD_next HKN.out (by omega) hno hyes
            have hB3 : Below w.heap.size w w3 := hm3.below hB2 hgb hBs
            have HRW3 : Aside (w3.rowIs g 3 C (fun r => if r < k then .int .i64 (s' r) else h r)) := hst3.owner
            clear hno hyes hst3 hm3 hst2 HKN HRW
            cases b with
            | false =>
              simp only [Bool.false_eq_true, if_false] at HK3
              go_wp2
              go_roundg j
              case measure => omega
              case rel => exact ⟨j, c, s', by omega, rfl, by go_num, rfl, HK3.out, HRW3.out, hB3⟩
            | true =>
              simp only [if_true] at HK3
              go_wp2
              go_roundg j
              case measure => omega
              case rel => exact ⟨j, c + 1, s', by omega, rfl, by go_num, by simp, HK3.out, HRW3.out, hB3⟩

set_option maxHeartbeats 4000000 in
theorem matchTells_walk (n m : Int) (ao : Option Addr) (cap : Nat) (l : List Edge) (W : World) (hl : EdgesAt W ao cap l) :
    Calls Try.prog 6 #[.int .i64 n, .int .i64 m, .slice ao l.length cap] W fun e w' => e = .returned (.bool true) ∧ Below W.heap.size W w' := by
  go_enter Try.func6, Try.ntmps6
  go_wp2_with fail
  refine (most_any ao cap l n m _ hl).mono ?_
  rintro e w1 ⟨v1, k1, rfl, own1, hb1, hbad1, hok1⟩
  obtain ⟨ao1, cap1, rfl, a1⟩ := OwnE.at own1
  go_wp2_with fail
  refine (lack_any ao cap l n m _ (SlAt.below REdge.mono hl hb1)).mono ?_
  rintro e w2 ⟨v2, k2, rfl, own2, hb2, hbad2, hok2⟩
  obtain ⟨ao2, cap2, rfl, a2⟩ := OwnI.at own2
  have hB2 := bvia hb1 hb2
  clear own1 own2
  have HO : Aside ((P.graphE n m l = 0 → IsM l k1 ∧ k1.Pairwise (fun a b => a.1 < b.1) ∧ MaxM l k1.length) ∧ (P.graphE n m l = 0 → (k2 = [] ∧ MaxM l n.toNat) ∨ Lacks l n.toNat k2)) := ⟨hok1, hok2⟩
  have HB : Aside (P.graphE n m l ≠ 0 → k1 = [] ∧ k2 = []) := fun h => ⟨hbad1 h, hbad2 h⟩
  clear hbad1 hbad2 hok1 hok2
  go_wp2_with fail
  refine (refGraph_any ao cap l n m _ (SlAt.below REdge.mono hl hB2)).mono ?_
  rintro e w3 ⟨rfl, hb3⟩
  have hB3 := bvia hB2 hb3
  have hc13 := bvia hb2 hb3
  go_wp2_with fail
  refine (matchBegun_any _).mono ?_
  rintro e w4 ⟨rfl, hb4⟩
  have hB4 := bvia hB3 hb4
  go_wp2_with fail
  refine (mCheck_any ao cap l n m _ (SlAt.below REdge.mono hl hB4)).mono ?_
  rintro e w5 ⟨rfl, hb5⟩
  have hB5 := bvia hB4 hb5
  have hc15 := bvia (bvia hc13 hb4) hb5
  have hc25 := bvia (bvia hb3 hb4) hb5
  clear hb1 hb2 hb3 hb4 hb5 hB2 hB3 hB4 hc13
  cases hz : (P.graphE n m l != 0)
  · have hz0 : P.graphE n m l = 0 := by simpa using hz
    obtain ⟨n0, n16, m0, m16, hE, _⟩ := graphE_zero hz0
    obtain ⟨hM, hrise, hmax⟩ := HO.out.1 hz0
    have hk := HO.out.2 hz0
    have HP : Aside (k1.Pairwise (fun a b => a.1 < b.1 ∧ a.2 ≠ b.2)) := both_pair hM.2 hrise
    have HS : Aside (∀ x ∈ k1, x ∈ l) := hM.1
    have HE : Aside (∀ x ∈ l, 0 ≤ x.2 ∧ x.2 < 16) := fun x hx => by have := hE x hx; omega
    obtain ⟨N, rfl⟩ : ∃ N : Nat, n = N := ⟨n.toNat, by omega⟩
    simp only [Int.toNat_natCast] at hk
    have HQ : Aside (MaxM l k1.length ∧ ((k2 = [] ∧ MaxM l N) ∨ Lacks l N k2) ∧ (∀ x ∈ l, 0 ≤ x.1 ∧ x.1 < (N : Int)) ∧ IsM l k1) := ⟨hmax, hk, fun x hx => ⟨(hE x hx).1, (hE x hx).2.1⟩, hM⟩
    have HZ : Aside (P.graphE N m l = 0) := hz0
    clear hz0 HO HB hM hrise hmax hk hE
    go_wp2_with fail
    refine (size_any ao cap l N m _ (SlAt.below REdge.mono hl hB5) HZ.out).mono ?_
    rintro e w6 ⟨c, rfl, hcm, hb6⟩
    obtain rfl := hcm.one HQ.out.1
    have hB6 := bvia hB5 hb6
    have hc16 := bvia hc15 hb6
    have hc26 := bvia hc25 hb6
    clear hcm hb6
    go_wp2_with fail
    refine (isMatching_any _ _ _ _ l k1 _ (SlAt.below REdge.mono hl hB6) (SlAt.below REdge.mono a1 hc16) HS.out HP.out).mono ?_
    rintro e w7 ⟨rfl, hb7⟩
    have hB7 := bvia hB6 hb7
    have hc27 := bvia hc26 hb7
    by_cases hln : k1.length = N
    · have hk2 : k2 = [] := by
        rcases HQ.out.2.1 with ⟨h, _⟩ | h
        · exact h
        · have := lacks_max HQ.out.2.2.1 h HQ.out.2.2.2
          omega
      subst hk2
      have hln' : ((k1.length : Int) == (N : Int)) = true := by rw [hln]; simp
      clear hln HQ
      go_wp2
      go_ret
      exact ⟨rfl, hB7⟩
    · have hln' : ((k1.length : Int) == (N : Int)) = false := by rw [beq_eq_false_iff_ne]; omega
      have hL : Lacks l N k2 := by
        rcases HQ.out.2.1 with ⟨_, h⟩ | h
        · exact absurd (HQ.out.1.one h) hln
        · exact h
      have HL : Aside (Lacks l N k2) := hL
      clear HQ hL
      go_wp2_with fail
      refine (doLack_any _ _ _ _ l k2 N _ (by omega) (SlAt.below REdge.mono hl hB7) (SlAt.below RInt.mono a2 hc27) HE.out HL.out).mono ?_
      rintro e w8 ⟨rfl, hb8⟩
      go_wp2
      go_ret
      exact ⟨rfl, bvia hB7 hb8⟩
  · obtain ⟨rfl, rfl⟩ := HB.out (by simpa using hz)
    clear HB HO
    go_wp2
    go_ret
    exact ⟨rfl, hB5⟩

end Go.Proofs.Ytcifdkggigfnlab
