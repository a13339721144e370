/- Edges in memory; walks of read, match.Check, CheckGraph. -/
import Derived.Test.YtcifdkggigfnlabMatA
namespace Go.Proofs.Ytcifdkggigfnlab
open Go.RowKit Go.Maps Go.WideMaps
set_option linter.unusedSimpArgs false
set_option linter.unusedVariables false

theorem EdgesAt.get {w w' : World} {ao : Option Addr} {cap : Nat} {l : List Edge} (h : EdgesAt w ao cap l) (hb : Below w.heap.size w w') (k : Nat) (hk : k < l.length) :
    ∃ b off x y, ao = some ⟨b, off, none⟩ ∧ b < w.heap.size ∧ l.drop k = (x, y) :: l.drop (k + 1) ∧ w'.cell? ⟨b, off + k * 2, none⟩ = some (.int .i64 x) ∧ w'.cell? ⟨b, off + k * 2 + 1, none⟩ = some (.int .i64 y) := by
  obtain ⟨b, off, x, cs, h1, h2, h3, h4, h5, h6⟩ := SlAt.get REdge.mono h hb k hk
  subst h4
  exact ⟨b, off, x.1, x.2, h1, h2, h3, by simpa using h6 0 _ rfl, by simpa using h6 1 _ rfl⟩
theorem getE {l : List Edge} {k : Nat} {x y : Int} (hk : k < l.length) (hD : l.drop k = (x, y) :: l.drop (k + 1)) : l[k] = (x, y) := by
  have := List.drop_eq_getElem_cons hk
  rw [hD] at this
  simp only [List.cons.injEq] at this
  exact this.1.symm

def P.inE (n m : Int) (x : Edge) : Bool := P.btw x.1 0 (n - 1) && P.btw x.2 0 (m - 1)
def P.gr (n m : Int) : List Edge → List Edge → Int
  | _, [] => 0
  | seen, x :: l => if P.inE n m x = true then (if P.hasEdge seen x = true then 6 else P.gr n m (seen ++ [x]) l) else 3
def P.graphE (n m : Int) (l : List Edge) : Int := if (P.btw n 0 16 && P.btw m 0 16) = true then P.gr n m [] l else 3

theorem gr_zero {n m : Int} {l seen : List Edge} (h : P.gr n m seen l = 0) : (∀ x ∈ l, P.inE n m x = true) ∧ l.Nodup ∧ ∀ x ∈ l, ¬ x ∈ seen := by
  induction l generalizing seen with
  | nil => simp
  | cons y l ih =>
    rw [P.gr] at h
    split at h
    · rename_i h1
      split at h
      · omega
      · rename_i h2
        obtain ⟨i1, i2, i3⟩ := ih h
        have hy : ¬ y ∈ seen := fun hm => h2 ((hasEdge_iff _ _).2 hm)
        refine ⟨fun x hx => ?_, List.nodup_cons.2 ⟨fun hm => i3 y hm (by simp), i2⟩, fun x hx => ?_⟩
        · rcases List.mem_cons.1 hx with rfl | hx
          · exact h1
          · exact i1 x hx
        · rcases List.mem_cons.1 hx with rfl | hx
          · exact hy
          · exact fun hm => i3 x hx (by simp [hm])
    · omega
theorem inE_iff {n m : Int} {x : Edge} : P.inE n m x = true ↔ 0 ≤ x.1 ∧ x.1 < n ∧ 0 ≤ x.2 ∧ x.2 < m := by
  simp [P.inE, P.btw]
  omega
theorem graphE_zero {n m : Int} {l : List Edge} (h : P.graphE n m l = 0) : 0 ≤ n ∧ n ≤ 16 ∧ 0 ≤ m ∧ m ≤ 16 ∧ (∀ x ∈ l, 0 ≤ x.1 ∧ x.1 < n ∧ 0 ≤ x.2 ∧ x.2 < m) ∧ l.Nodup := by
  unfold P.graphE at h
  split at h
  · rename_i h1
    simp [P.btw] at h1
    obtain ⟨i1, i2, _⟩ := gr_zero h
    exact ⟨by omega, by omega, by omega, by omega, fun x hx => inE_iff.1 (i1 x hx), i2⟩
  · omega

/-- What 'read' has laid, S the first block that is its own: what it will answer, the set, the graph. -/
structure RdAt (w : World) (S : Nat) (n m : Int) (seen : List Edge) : Prop where
  set : ESet w (S + 1) seen
  g0 : w.cell? ⟨S + 1 + 1, 0, none⟩ = some (.int .i64 n)
  g1 : w.cell? ⟨S + 1 + 1, 1, none⟩ = some (.int .i64 m)
  g2 : w.cell? ⟨S + 1 + 1, 2, none⟩ = some (.map (some (S + 1)))
  r0 : w.cell? ⟨S, 0, none⟩ = some (.int .i64 0)
  r1 : w.cell? ⟨S, 1, none⟩ = some (.int .i64 0)
  r2 : w.cell? ⟨S, 2, none⟩ = some (.map none)
  f0 : ∀ j, w.frozen? ⟨S, j, none⟩ = false
theorem RdAt.lt {w : World} {S : Nat} {n m : Int} {seen : List Edge} (h : RdAt w S n m seen) : S < w.heap.size := World.block_lt_of_cell? w _ h.r0
theorem RdAt.below {w w' : World} {S : Nat} {n m : Int} {seen : List Edge} (h : RdAt w S n m seen) (hb : Below w.heap.size w w') : RdAt w' S n m seen :=
  ⟨set_below h.set hb, cellIn hb h.g0, cellIn hb h.g1, cellIn hb h.g2, cellIn hb h.r0, cellIn hb h.r1, cellIn hb h.r2, fun j => (hb.frozen (p := ⟨S, j, none⟩) h.lt).trans (h.f0 j)⟩
theorem frozen_grown {w w' : World} {row : Option Nat} (h : w.grownBy w' row) {b o : Nat} (hb : b < w.heap.size) (hr : some b ≠ row) : w'.frozen? ⟨b, o, none⟩ = w.frozen? ⟨b, o, none⟩ := by
  have := h.block b hb hr
  simp only [World.frozen?, this]
theorem RdAt.put {w w' : World} {S : Nat} {n m : Int} {seen seen' : List Edge} (h : RdAt w S n m seen) (hg : w.grownBy w' (some (S + 1))) (hs : ESet w' (S + 1) seen') : RdAt w' S n m seen' :=
  ⟨hs, hg.cell h.g0 (by simp), hg.cell h.g1 (by simp), hg.cell h.g2 (by simp), hg.cell h.r0 (by simp), hg.cell h.r1 (by simp), hg.cell h.r2 (by simp), fun j => (frozen_grown hg h.lt (by simp)).trans (h.f0 j)⟩

theorem rd_new (w : World) (n m : Int) : RdAt (((w.alloc (.cells #[.int .i64 0, .int .i64 0, .map none] 66)).alloc (.map #[] 0)).alloc (.cells #[.int .i64 n, .int .i64 m, .map (some (w.heap.size + 1))] 66)) w.heap.size n m [] := by
  have hs : ESet ((w.alloc (.cells #[.int .i64 0, .int .i64 0, .map none] 66)).alloc (.map #[] 0)) (w.heap.size + 1) [] := by
    have := ESet.made (w.alloc (.cells #[.int .i64 0, .int .i64 0, .map none] 66))
    simpa using this
  refine ⟨set_below hs (by go_grown), by go_simp, by go_simp, by go_simp, by go_simp, by go_simp, by go_simp, fun j => ?_⟩
  go_simp

theorem set3 {v : World} {S : Nat} {x y z : Value} (a b c : Value) (h0 : v.cell? ⟨S, 0, none⟩ = some x) (h1 : v.cell? ⟨S, 1, none⟩ = some y) (h2 : v.cell? ⟨S, 2, none⟩ = some z) :
    (((v.setCell ⟨S, 0, none⟩ a).setCell ⟨S, 1, none⟩ b).setCell ⟨S, 2, none⟩ c).cell? ⟨S, 0, none⟩ = some a ∧ (((v.setCell ⟨S, 0, none⟩ a).setCell ⟨S, 1, none⟩ b).setCell ⟨S, 2, none⟩ c).cell? ⟨S, 1, none⟩ = some b ∧ (((v.setCell ⟨S, 0, none⟩ a).setCell ⟨S, 1, none⟩ b).setCell ⟨S, 2, none⟩ c).cell? ⟨S, 2, none⟩ = some c := by
  refine ⟨?_, ?_, ?_⟩
  · rw [World.cell?_setCell_other (h := by simp), World.cell?_setCell_other (h := by simp), World.cell?_setCell_same (h := h0)]
  · rw [World.cell?_setCell_other (h := by simp), World.cell?_setCell_same (u := y) (h := by rw [World.cell?_setCell_other (h := by simp)]; exact h1)]
  · rw [World.cell?_setCell_same (u := z) (h := by rw [World.cell?_setCell_other (h := by simp), World.cell?_setCell_other (h := by simp)]; exact h2)]
/-- The same, with blocks laid behind it. -/
theorem set3A {v : World} {S : Nat} {x y z : Value} (a b c : Value) (o : Obj) (h0 : v.cell? ⟨S, 0, none⟩ = some x) (h1 : v.cell? ⟨S, 1, none⟩ = some y) (h2 : v.cell? ⟨S, 2, none⟩ = some z) :
    ((((v.setCell ⟨S, 0, none⟩ a).setCell ⟨S, 1, none⟩ b).setCell ⟨S, 2, none⟩ c).alloc o).cell? ⟨S, 0, none⟩ = some a ∧ ((((v.setCell ⟨S, 0, none⟩ a).setCell ⟨S, 1, none⟩ b).setCell ⟨S, 2, none⟩ c).alloc o).cell? ⟨S, 1, none⟩ = some b ∧ ((((v.setCell ⟨S, 0, none⟩ a).setCell ⟨S, 1, none⟩ b).setCell ⟨S, 2, none⟩ c).alloc o).cell? ⟨S, 2, none⟩ = some c := by
  obtain ⟨k0, k1, k2⟩ := set3 a b c h0 h1 h2
  exact ⟨cellIn (by go_grown) k0, cellIn (by go_grown) k1, cellIn (by go_grown) k2⟩
theorem below_set3 {w v : World} {S : Nat} (a b c : Value) (h : Below w.heap.size w v) (hS : w.heap.size ≤ S) : Below w.heap.size w (((v.setCell ⟨S, 0, none⟩ a).setCell ⟨S, 1, none⟩ b).setCell ⟨S, 2, none⟩ c) :=
  ((h.setCell (p := ⟨S, 0, none⟩) hS a).setCell (p := ⟨S, 1, none⟩) hS b).setCell (p := ⟨S, 2, none⟩) hS c

theorem grown_below_map {w0 w w' : World} {B : Nat} (hB : Below w0.heap.size w0 w) (hb : w0.heap.size ≤ B) (hg : w.grownBy w' (some B)) : Below w0.heap.size w0 w' :=
  hB.grown hg hB.size (fun j hj => by cases hj; exact hb)

set_option maxHeartbeats 2000000 in
theorem read_any (ao : Option Addr) (cap : Nat) (l : List Edge) (n m : Int) (w : World) (hl : EdgesAt w ao cap l) :
    Calls Try.prog 44 #[.int .i64 n, .int .i64 m, .slice ao l.length cap] w fun e w' => ∃ v, e = .returned (.tuple #[v, .int .i64 (P.graphE n m l)]) ∧ Below w.heap.size w w' ∧
      (P.graphE n m l ≠ 0 → v = .agg #[.int .i64 0, .int .i64 0, .map none]) ∧ (P.graphE n m l = 0 → v = .agg #[.int .i64 n, .int .i64 m, .map (some (w.heap.size + 1))] ∧ ESet w' (w.heap.size + 1) l) := by
  have hle := hl.le
  have hmx := hl.max
  have hmm := @run_makeMap Try.prog
  unfold maxLen at hmx
  have bad : ∀ {x : Int} {w' : World}, P.graphE n m l = x → x ≠ 0 → Below w.heap.size w w' → ∃ v, Ending.returned (.tuple #[.agg #[.int .i64 0, .int .i64 0, .map none], .int .i64 x]) = .returned (.tuple #[v, .int .i64 (P.graphE n m l)]) ∧ Below w.heap.size w w' ∧
      (P.graphE n m l ≠ 0 → v = .agg #[.int .i64 0, .int .i64 0, .map none]) ∧ (P.graphE n m l = 0 → v = .agg #[.int .i64 n, .int .i64 m, .map (some (w.heap.size + 1))] ∧ ESet w' (w.heap.size + 1) l) := by
    intro x w' hx h0 hb
    exact ⟨_, by rw [hx], hb, fun _ => rfl, fun h => absurd (hx.symm.trans h) h0⟩
  have BAD : Hid _ := @bad
  clear bad
  cases h1 : P.btw n 0 16
  · have HE : Aside (P.graphE n m l = 3) := by show _ = _; rw [P.graphE, h1]; rfl
    go_enter Try.func44, Try.ntmps44
    go_wp2_with (go_at_call 52; refine (within_any _ _ _ _).mono ?_; rintro e w' ⟨rfl, rfl⟩; rw [h1])
    refine bodyPost_ret (v := .tuple #[.agg #[.int .i64 0, .int .i64 0, .map none], .int .i64 3]) (by simp [results, Try.results44, go_sem]) rfl (BAD.out HE.out (by decide) (by go_grown))
  · cases h2 : P.btw m 0 16
    · have HE : Aside (P.graphE n m l = 3) := by show _ = _; rw [P.graphE, h1, h2]; rfl
      go_enter Try.func44, Try.ntmps44
      go_wp2_with (go_at_call 52; refine (within_any _ _ _ _).mono ?_; rintro e w' ⟨rfl, rfl⟩; first | rw [h1] | rw [h2])
      refine bodyPost_ret (v := .tuple #[.agg #[.int .i64 0, .int .i64 0, .map none], .int .i64 3]) (by simp [results, Try.results44, go_sem]) rfl (BAD.out HE.out (by decide) (by go_grown))
    · have HE : Aside (P.graphE n m l = P.gr n m [] l) := by show _ = _; rw [P.graphE, h1, h2]; rfl
      have hn : 0 ≤ n ∧ n ≤ 16 := by simp [P.btw] at h1; omega
      have hm : 0 ≤ m ∧ m ≤ 16 := by simp [P.btw] at h2; omega
      go_enter Try.func44, Try.ntmps44
      go_wp2_with (go_at_call 52; refine (within_any _ _ _ _).mono ?_; rintro e w' ⟨rfl, rfl⟩; first | rw [h1] | rw [h2])
      go_loopg [26] l.length (fun g i wr => ∃ (k : Nat) (seen : List Edge), k ≤ l.length ∧ g = l.length - k ∧ i = .int .i64 k ∧ seen = l.take k ∧ (∀ x ∈ seen, P.inE n m x = true) ∧ RdAt wr w.heap.size n m seen ∧ P.gr n m seen (l.drop k) = P.gr n m [] l ∧ Below w.heap.size w wr)
      case atStart => exact ⟨0, [], Nat.zero_le _, rfl, rfl, rfl, (by simp), rd_new w n m, rfl, by go_grown⟩
      case round =>
        obtain ⟨k, seen, hk, rfl, rfl, hse, hin, hrd, hP, hB⟩ := hrel
        have hBs := hB.size
        have hSl := hrd.lt
        have hset := hrd.set
        have g0 := hrd.g0
        have g1 := hrd.g1
        have g2 := hrd.g2
        have hS2 : w.heap.size + 1 + 1 < wr.heap.size := World.block_lt_of_cell? wr _ g0
        have r0 := hrd.r0
        have r1 := hrd.r1
        have r2 := hrd.r2
        have f0 := hrd.f0 0
        have f1 := hrd.f0 1
        have f2 := hrd.f0 2
        have hsl : seen.length ≤ k := by rw [hse]; simp; omega
        have HI : Aside (∀ x ∈ seen, P.inE n m x = true) := hin
        have HS : Aside (seen = l.take k) := hse
        have HP : Aside (P.gr n m seen (l.drop k) = P.gr n m [] l) := hP
        clear hP hin hse
        by_cases hlt : k < l.length
        · obtain ⟨b, off, x, y, rfl, hbw, hd, hc0, hc1⟩ := hl.get hB k hlt
          rw [hd, P.gr] at HP
          have HG : Aside (l[k] = (x, y)) := getE hlt hd
          clear hd
          cases ha : P.btw x 0 (n - 1)
          · have HX : Aside (P.graphE n m l = 3) := by have := HP.out; rw [P.inE, ha] at this; show _ = _; rw [HE.out, ← this]; rfl
            clear HP
            obtain ⟨k0, k1, k2⟩ := set3A (.int .i64 0) (.int .i64 0) (.map none) (.cells #[.int .i64 x, .int .i64 y] 52) r0 r1 r2
            go_wp2_with (go_at_call 52; refine (within_any _ _ _ _).mono ?_; rintro e w' ⟨rfl, rfl⟩; rw [ha])
            refine bodyPost_ret (v := .tuple #[.agg #[.int .i64 0, .int .i64 0, .map none], .int .i64 3]) (by simp [results, Try.results44, go_sem, k0, k1, k2]) rfl (BAD.out HX.out (by decide) (bvia (below_set3 _ _ _ hB (Nat.le_refl _)) (by go_grown)))
          · cases hb : P.btw y 0 (m - 1)
            · have HX : Aside (P.graphE n m l = 3) := by have := HP.out; rw [P.inE, ha, hb] at this; show _ = _; rw [HE.out, ← this]; rfl
              clear HP
              obtain ⟨k0, k1, k2⟩ := set3A (.int .i64 0) (.int .i64 0) (.map none) (.cells #[.int .i64 x, .int .i64 y] 52) r0 r1 r2
              go_wp2_with (go_at_call 52; refine (within_any _ _ _ _).mono ?_; rintro e w' ⟨rfl, rfl⟩; first | rw [ha] | rw [hb])
              refine bodyPost_ret (v := .tuple #[.agg #[.int .i64 0, .int .i64 0, .map none], .int .i64 3]) (by simp [results, Try.results44, go_sem, k0, k1, k2]) rfl (BAD.out HX.out (by decide) (bvia (below_set3 _ _ _ hB (Nat.le_refl _)) (by go_grown)))
            · have hxy : 0 ≤ x ∧ x < n ∧ 0 ≤ y ∧ y < m := inE_iff.1 (show P.inE n m (x, y) = true by rw [P.inE, ha, hb]; rfl)
              have hwfs : ∀ z ∈ seen, EdgeWf z := fun z hz => by have := inE_iff.1 (HI.out z hz); exact ⟨wf_small (by omega), wf_small (by omega)⟩
              have hkey : EdgeWf (x, y) := ⟨wf_small (by omega), wf_small (by omega)⟩
              have hone : P.inE n m (x, y) = true := by rw [P.inE, ha, hb]; rfl
              rw [if_pos hone] at HP
              go_wp2_with (go_at_call 52; refine (within_any _ _ _ _).mono ?_; rintro e w' ⟨rfl, rfl⟩; first | rw [ha] | rw [hb])
              refine (graphHas_any (w.heap.size + 1) seen n m x y _ (set_below hset (by go_grown)) hwfs (by omega) (by omega)).mono ?_
              rintro e w1 ⟨rfl, hb1⟩
              have hB1 : Below w.heap.size w w1 := bvia (bvia hB (by go_grown)) hb1
              have hrd1 : RdAt w1 w.heap.size n m seen := (hrd.below (by go_grown)).below hb1
              have x0 : w1.cell? ⟨wr.heap.size, 0, none⟩ = some (.int .i64 x) := cellIn hb1 (by simp)
              have x1 : w1.cell? ⟨wr.heap.size, 1, none⟩ = some (.int .i64 y) := cellIn hb1 (by simp)
              clear g0 g1 g2 r0 r1 r2 f0 f1 f2 hS2 hset hrd hSl
              have hset := hrd1.set
              have g0 := hrd1.g0
              have g1 := hrd1.g1
              have g2 := hrd1.g2
              have hS2 : w.heap.size + 1 + 1 < w1.heap.size := World.block_lt_of_cell? w1 _ g0
              have r0 := hrd1.r0
              have r1 := hrd1.r1
              have r2 := hrd1.r2
              have f0 := hrd1.f0 0
              have f1 := hrd1.f0 1
              have f2 := hrd1.f0 2
              have hSl := hrd1.lt
              cases hh : P.hasEdge seen (x, y)
              · have HX : Aside (P.gr n m (seen ++ [(x, y)]) (l.drop (k + 1)) = P.gr n m [] l) := by have := HP.out; rw [if_neg (by rw [hh]; simp)] at this; exact this
                clear HP
                go_wp2_with (at_mapUpdate; refine wpList_mapUpdate_own _ rfl _ _ _ 64 rfl 52 81 Try.lawE Try.underlying64 _ (w.heap.size + 1) seen.length _ rfl hset (by simp only [maxLen]; omega) _ _ (P.litE (x, y)) rfl rfl (keyOf_edge hkey) _ [] unitElem_mk ?_; intro w2 hown2 hgrow2)
                go_roundg (l.length - (k + 1))
                case measure => omega
                case rel =>
                  have hs2 : ESet w2 (w.heap.size + 1) (seen ++ [(x, y)]) := by
                    show World.ownsMap _ _ _ _ _ _ _
                    rw [List.map_append, List.map_cons, List.map_nil, setOf_snoc, List.length_append]
                    exact hown2
                  refine ⟨k + 1, seen ++ [(x, y)], by omega, rfl, by go_num, ?_, ?_, hrd1.put hgrow2 hs2, HX.out, grown_below_map hB1 (by omega) hgrow2⟩
                  · rw [List.take_succ_eq_append_getElem hlt, HS.out, HG.out]
                  · intro z hz
                    rcases List.mem_append.1 hz with hz | hz
                    · exact HI.out z hz
                    · simp at hz; subst hz; exact hone
              · have HX : Aside (P.graphE n m l = 6) := by have := HP.out; rw [if_pos hh] at this; show _ = _; rw [HE.out, ← this]
                clear HP
                obtain ⟨k0, k1, k2⟩ := set3 (.int .i64 0) (.int .i64 0) (.map none) r0 r1 r2
                go_wp2
                refine bodyPost_ret (v := .tuple #[.agg #[.int .i64 0, .int .i64 0, .map none], .int .i64 6]) (by simp [results, Try.results44, go_sem, k0, k1, k2]) rfl (BAD.out HX.out (by decide) (below_set3 _ _ _ hB1 (Nat.le_refl _)))
        · obtain rfl : k = l.length := by omega
          have HX : Aside (P.graphE n m l = 0) := by
            have := HP.out
            rw [List.drop_of_length_le (Nat.le_refl _), P.gr] at this
            show _ = _
            rw [HE.out, ← this]
          clear HP
          obtain ⟨k0, k1, k2⟩ := set3 (.int .i64 n) (.int .i64 m) (.map (some (w.heap.size + 1))) r0 r1 r2
          have hs3 : seen = l := by rw [HS.out]; exact List.take_of_length_le (Nat.le_refl _)
          subst hs3
          go_wp2
          refine bodyPost_ret (v := .tuple #[.agg #[.int .i64 n, .int .i64 m, .map (some (w.heap.size + 1))], .int .i64 0]) (by simp [results, Try.results44, go_sem, k0, k1, k2]) rfl ⟨_, by rw [HX.out], below_set3 _ _ _ hB (Nat.le_refl _), fun h => absurd HX.out h, fun _ => ⟨rfl, ?_⟩⟩
          exact hset.kept (row := some w.heap.size) ⟨rfl, rfl, rfl, by simp, fun j hj hne => by
            have hj' : j ≠ w.heap.size := fun e => hne (by rw [e])
            rw [Go.Deep.blk_setCell_other _ _ _ _ hj', Go.Deep.blk_setCell_other _ _ _ _ hj', Go.Deep.blk_setCell_other _ _ _ _ hj']⟩ (by simp)

set_option maxHeartbeats 1000000 in
theorem mCheck_any (ao : Option Addr) (cap : Nat) (l : List Edge) (n m : Int) (w : World) (hl : EdgesAt w ao cap l) :
    Calls Try.prog 26 #[.int .i64 n, .int .i64 m, .slice ao l.length cap] w fun e w' => e = .returned (.int .i64 (P.graphE n m l)) ∧ Below w.heap.size w w' := by
  go_enter Try.func26, Try.ntmps26
  go_wp2_with fail
  refine (read_any ao cap l n m w hl).mono ?_
  rintro e w1 ⟨v, rfl, hb1, hbad, hok⟩
  have hv : ∃ a b c, v = .agg #[.int .i64 a, .int .i64 b, .map c] := by
    by_cases h : P.graphE n m l = 0
    · exact ⟨_, _, _, (hok h).1⟩
    · exact ⟨_, _, _, hbad h⟩
  obtain ⟨a, b, c, rfl⟩ := hv
  clear hbad hok
  go_wp2
  go_ret
  exact ⟨rfl, bvia hb1 (by go_grown)⟩

end Go.Proofs.Ytcifdkggigfnlab
