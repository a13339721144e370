/- SameEdges; cruise. -/
import Derived.Test.YtlamhfbdeinkkaeGreatStNt
namespace Go.Proofs.YtlamhfbdeinkkaeGreat.St
open Go.RowKit Bk
set_option linter.unusedSimpArgs false
set_option linter.unusedVariables false
set_option maxRecDepth 10000

set_option maxHeartbeats 1000000 in
theorem sameEdges_any (ao bo : Option Addr) (ca cb : Nat) (a b : List (Int × Int)) (w : World) (ha : Ma.EdgesAt w ao ca a) (hb : Ma.EdgesAt w bo cb b) :
    Calls Tryz.prog 40 #[.slice ao a.length ca, .slice bo b.length cb] w fun e w' => e = .returned (.bool (decide (a = b))) ∧ Below w.heap.size w w' := by
  have hle := ha.le
  have hmx := ha.max
  have hle' := hb.le
  have hmx' := hb.max
  unfold maxLen at hmx hmx'
  by_cases hlen : a.length = b.length
  · have HL : Aside (a.length = b.length) := hlen
    have hne : ((a.length : Int) != (b.length : Int)) = false := by simp [hlen]
    go_enter Tryz.func40, Tryz.ntmps40
    clear hlen
    go_wp2
    go_loopg [5] a.length (fun g i wr => ∃ (k : Nat), k ≤ a.length ∧ g = a.length - k ∧ i = .int .i64 k ∧ (a.drop k = b.drop k ↔ a = b) ∧ Below w.heap.size w wr)
    case atStart => exact ⟨0, Nat.zero_le _, rfl, rfl, Iff.rfl, Below.refl _ _⟩
    case round =>
      obtain ⟨k, hk, rfl, rfl, hP, hB⟩ := hrel
      have hBs := hB.size
      have HP : Aside (a.drop k = b.drop k ↔ a = b) := hP
      clear hP
      by_cases hlt : k < a.length
      · have hlt' : k < b.length := by have := HL.out; omega
        obtain ⟨b1, o1, f, t, rfl, hbw, hd, hc0, hc1⟩ := Ma.EdgesAt.get ha hB k hlt
        obtain ⟨b2, o2, f', t', rfl, hbw', hd', hc0', hc1'⟩ := Ma.EdgesAt.get hb hB k hlt'
        have HD := (Sp.drop_eq hd hd')
        have HE : Aside (a.drop k = b.drop k ↔ (f, t) = (f', t') ∧ a.drop (k + 1) = b.drop (k + 1)) := HD
        clear hd hd' HD
        have hi1 : (k : Int) < (a.length : Int) := by omega
        have hi2 : (k : Int) < (b.length : Int) := by omega
        have hi3 : (0 : Int) ≤ (k : Int) := by omega
        by_cases e1 : f = f'
        · subst e1
          by_cases e2 : t = t'
          · subst e2
            have HQ : Aside (a.drop (k + 1) = b.drop (k + 1) ↔ a = b) := by show _ ↔ _; rw [← HP.out, HE.out]; simp
            clear HE HP
            go_wp2
            go_quiet (fail)
            go_wp2
            go_roundg (a.length - (k + 1))
            case measure => omega
            case rel => exact ⟨k + 1, by omega, rfl, by go_num, HQ.out, below_drewN hB _⟩
          · have e2' : (t == t') = false := by simpa using e2
            have HN : Aside (decide (a = b) = false) := by
              rw [decide_eq_false_iff_not]; intro h; have := (HE.out.1 (HP.out.2 h)).1; simp at this; exact e2 this
            clear HE HP
            go_wp2
            go_quiet (fail)
            go_wp2
            go_ret
            exact ⟨ret_bool HN.out.symm, below_drewN hB _⟩
        · have e1' : (f == f') = false := by simpa using e1
          have HN : Aside (decide (a = b) = false) := by
            rw [decide_eq_false_iff_not]; intro h; have := (HE.out.1 (HP.out.2 h)).1; simp at this; exact e1 this.1
          clear HE HP
          go_wp2
          go_quiet (fail)
          go_wp2
          go_ret
          exact ⟨ret_bool HN.out.symm, below_drewN hB _⟩
      · have : k = a.length := by omega
        subst this
        go_wp2
        go_ret
        have hP := HP.out
        refine ⟨ret_bool ?_, hB⟩
        rw [List.drop_of_length_le (Nat.le_refl _), List.drop_of_length_le (by rw [HL.out]; exact Nat.le_refl _)] at hP
        simp [hP.1 rfl]
  · have hne : ((a.length : Int) != (b.length : Int)) = true := by rw [bne_iff_ne]; omega
    have HN : Aside (decide (a = b) = false) := by rw [decide_eq_false_iff_not]; intro h; exact hlen (by rw [h])
    clear hlen
    go_enter Tryz.func40, Tryz.ntmps40
    go_wp2
    go_ret
    exact ⟨ret_bool HN.out.symm, Below.refl _ _⟩

def T.N1 : Bkg := ⟨7, 1, 2, 3, false, 1, 0, 1, 3, 0, [(1, 1, 1200)]⟩
def T.Q1 : Bkg := ⟨9, 2, 1, 2, false, -1, 0, 0, 3, 4, [(1, 1, 1202)]⟩
def T.C : Sail := ⟨T.V, Fo.T.L, 50, 33, Fo.T.B, 20, 2, 40, [T.N1, T.Q1], false⟩
/-- The world of 'cruise' ahead of its last statement. -/
abbrev W.cru (w : World) : World :=
  (((w.alloc (.cells #[.int .i64 7, .int .i64 1, .int .i64 2, .int .i64 3, .bool false, .int .i64 1, .int .i64 0, .int .i64 1, .int .i64 3, .int .i64 0, .slice (some ⟨w.heap.size + 1 + 1, 0, none⟩) 1 1] 37)).alloc
    (.cells #[.int .i64 9, .int .i64 2, .int .i64 1, .int .i64 2, .bool false, .int .i64 (-1), .int .i64 0, .int .i64 0, .int .i64 3, .int .i64 4, .slice (some ⟨w.heap.size + 1 + 1 + 1, 0, none⟩) 1 1] 37)).alloc
    (.cells #[.int .i64 1, .int .i64 1, .int .i64 1200] 59)).alloc (.cells #[.int .i64 1, .int .i64 1, .int .i64 1202] 59)

theorem al (w : World) (o : Obj) : Below w.heap.size w (w.alloc o) := by go_grown
theorem dr (w : World) : Below w.heap.size w w.drew := by go_grown
theorem new_dr (w : World) (o : Obj) : (w.alloc o).drew.heap[w.heap.size]? = some o := heap_alloc_new w o
theorem dr_size (w : World) : w.drew.heap.size = w.heap.size := rfl
theorem ad_size (w : World) (o : Obj) : (w.alloc o).drew.heap.size = w.heap.size + 1 := by simp
/-- Blocks in a row. -/
def Objs (w : World) (n : Nat) (os : List Obj) : Prop := ∀ i o, os[i]? = some o → w.heap[n + i]? = some o
theorem Objs.fold (w : World) (os : List Obj) : Objs (os.foldl World.alloc w) w.heap.size os := fun i o h => (heap_fold os w i).trans h
theorem Objs.below {w w' : World} {n : Nat} {os : List Obj} (h : Objs w n os) (hb : Below w.heap.size w w') : Objs w' n os := fun i o hi => by
  have h1 := h i o hi
  rw [hb.block _ (Array.getElem?_eq_some_iff.1 h1).1]
  exact h1
theorem Objs.cells {w : World} {n g : Nat} {os : List Obj} (h : Objs w n os) (hg : g < n) (cs : List Value) : Objs (w.setCells g 0 cs) n os := fun i o hi => by
  have h1 := h i o hi
  rw [World.heap_setCells_other w g 0 cs (Array.getElem?_eq_some_iff.1 h1).1 (by omega)]
  exact h1
abbrev A.vsl (n : Nat) : VslA := ⟨some ⟨n + 1 + 1 + 1, 0, none⟩, some ⟨n + 1 + 1 + 1 + 1, 0, none⟩, 3, 3⟩
theorem vessel_at {W : World} {n : Nat} (hf : Objs W n (Sh.vesselObjs n)) : VslAt W T.V (A.vsl n) := by
  refine ⟨?_, ?_⟩
  · exact SlAt.ofBlock [[.string ⟨#[73, 78]⟩, .slice (some ⟨n + 1, 0, none⟩) 1 1], [.string ⟨#[79, 85, 84]⟩, .slice (some ⟨n + 1 + 1, 0, none⟩) 1 1], [.string ⟨#[83, 85, 73, 84, 69]⟩, .slice none 0 0]]
      (l := Sh.vcats) (hf 3 _ rfl) rfl rfl (fun i hi => by
        have hi : i < 3 := hi
        match i, hi with
        | 0, _ => exact ⟨_, rfl, _, _, rfl, SlAt.ofBlock [[.int .i64 1]] (l := [1]) (hf 1 _ rfl) rfl rfl (fun i hi => by have hi : i < 1 := hi; match i, hi with | 0, _ => exact ⟨_, rfl, rfl⟩) (by simp) (by decide), (by decide : (⟨#[73, 78]⟩ : ByteArray).size ≤ maxLen)⟩
        | 1, _ => exact ⟨_, rfl, _, _, rfl, SlAt.ofBlock [[.int .i64 2]] (l := [2]) (hf 2 _ rfl) rfl rfl (fun i hi => by have hi : i < 1 := hi; match i, hi with | 0, _ => exact ⟨_, rfl, rfl⟩) (by simp) (by decide), (by decide : (⟨#[79, 85, 84]⟩ : ByteArray).size ≤ maxLen)⟩
        | 2, _ => exact ⟨_, rfl, none, 0, rfl, SlAt.nilOf _, (by decide : (⟨#[83, 85, 73, 84, 69]⟩ : ByteArray).size ≤ maxLen)⟩) (by simp) (by decide)
  · exact SlAt.ofBlock [[.string ⟨#[65, 49]⟩, .int .i64 0, .int .i64 2, .bool false], [.string ⟨#[66, 49]⟩, .int .i64 1, .int .i64 4, .bool true], [.string ⟨#[67, 49]⟩, .int .i64 2, .int .i64 2, .bool false]]
      (l := Sh.vcabs) (hf 4 _ rfl) rfl rfl (fun i hi => by
        have hi : i < 3 := hi
        match i, hi with
        | 0, _ => exact ⟨_, rfl, rfl, (by decide : (⟨#[65, 49]⟩ : ByteArray).size ≤ maxLen)⟩
        | 1, _ => exact ⟨_, rfl, rfl, (by decide : (⟨#[66, 49]⟩ : ByteArray).size ≤ maxLen)⟩
        | 2, _ => exact ⟨_, rfl, rfl, (by decide : (⟨#[67, 49]⟩ : ByteArray).size ≤ maxLen)⟩) (by simp) (by decide)
theorem table_at {W : World} {n : Nat} (hf : Objs W n (Fo.tableObjs n)) : Fo.FareAt W (some ⟨n + 1 + 1 + 1 + 1, 0, none⟩) (some ⟨n + 1 + 1 + 1 + 1 + 1, 0, none⟩) 3 2 Fo.T.L Fo.T.B := by
  refine ⟨?_, ?_⟩
  · exact SlAt.ofBlock [[.slice (some ⟨n + 1, 0, none⟩) 3 3], [.slice (some ⟨n + 1 + 1, 0, none⟩) 3 3], [.slice (some ⟨n + 1 + 1 + 1, 0, none⟩) 3 3]]
      (l := Fo.T.L) (hf 4 _ rfl) rfl rfl (fun i hi => by
        have hi : i < 3 := hi
        match i, hi with
        | 0, _ => exact ⟨_, rfl, _, _, rfl, Fo.ints3 (hf 1 _ rfl)⟩
        | 1, _ => exact ⟨_, rfl, _, _, rfl, Fo.ints3 (hf 2 _ rfl)⟩
        | 2, _ => exact ⟨_, rfl, _, _, rfl, Fo.ints3 (hf 3 _ rfl)⟩) (by simp) (by decide)
  · exact SlAt.ofBlock [[.int .i64 7, .int .i64 100], [.int .i64 30, .int .i64 50]]
      (l := Fo.T.B) (hf 5 _ rfl) rfl rfl (fun i hi => by
        have hi : i < 2 := hi
        match i, hi with
        | 0, _ => exact ⟨_, rfl, rfl⟩
        | 1, _ => exact ⟨_, rfl, rfl⟩) (by simp) (by decide)
abbrev V.ves (n : Nat) : Value := .agg #[.int .i64 3, .int .i64 6, .slice (some ⟨n + 1 + 1 + 1, 0, none⟩) 3 3, .slice (some ⟨n + 1 + 1 + 1 + 1, 0, none⟩) 3 3]
set_option maxHeartbeats 1000000 in
theorem vesselX_any (w : World) (n : Nat) (hn : w.heap.size = n) : Calls Tryz.prog 92 #[] w fun e w' => e = .returned (V.ves n) ∧ Objs w' n (Sh.vesselObjs n) ∧ Below w.heap.size w w' := by
  subst hn
  go_enter Tryz.func92, Tryz.ntmps92
  go_wp2
  exact bodyPost_ret (v := V.ves w.heap.size) (by simp [results, Tryz.results92, go_sem]) rfl ⟨rfl, Objs.fold w (Sh.vesselObjs w.heap.size), by go_grown⟩
abbrev V.tab (n : Nat) : Value := .agg #[.slice (some ⟨n + 1 + 1 + 1 + 1, 0, none⟩) 3 3, .int .i64 50, .int .i64 33, .slice (some ⟨n + 1 + 1 + 1 + 1 + 1, 0, none⟩) 2 2, .int .i64 20]
set_option maxHeartbeats 1000000 in
theorem tableX_any (w : World) (n : Nat) (hn : w.heap.size = n) : Calls Tryz.prog 93 #[] w fun e w' => e = .returned (V.tab n) ∧ Objs w' n (Fo.tableObjs n) ∧ Below w.heap.size w w' := by
  subst hn
  go_enter Tryz.func93, Tryz.ntmps93
  go_wp2
  exact bodyPost_ret (v := V.tab w.heap.size) (by simp [results, Tryz.results93, go_sem]) rfl ⟨rfl, Objs.fold w (Fo.tableObjs w.heap.size), by go_grown⟩

abbrev O.list (m : Nat) : Obj := .cells #[.int .i64 7, .int .i64 1, .int .i64 2, .int .i64 3, .bool false, .int .i64 1, .int .i64 0, .int .i64 1, .int .i64 3, .int .i64 0, .slice (some ⟨m + 1 + 1, 0, none⟩) 1 1, .int .i64 9, .int .i64 2, .int .i64 1, .int .i64 2, .bool false, .int .i64 (-1), .int .i64 0, .int .i64 0, .int .i64 3, .int .i64 4, .slice (some ⟨m + 1 + 1 + 1, 0, none⟩) 1 1] 37
abbrev O.e1 : Obj := .cells #[.int .i64 1, .int .i64 1, .int .i64 1200] 59
abbrev O.e2 : Obj := .cells #[.int .i64 1, .int .i64 1, .int .i64 1202] 59
theorem ent_at {W : World} {b : Nat} {d k n : Int} (h : W.heap[b]? = some (.cells #[.int .i64 d, .int .i64 k, .int .i64 n] 59 (0, 0))) : Fo.EntsAt W (some ⟨b, 0, none⟩) 1 [(d, k, n)] :=
  SlAt.ofBlock (l := [(d, k, n)]) [[.int .i64 d, .int .i64 k, .int .i64 n]] h rfl rfl (fun i hi => by
    have hi : i < 1 := hi
    match i, hi with
    | 0, _ => exact ⟨_, rfl, rfl⟩) (by simp) (by simp [maxLen])
abbrev A.cru (n1 n2 nl : Nat) : SailA := ⟨A.vsl n1, some ⟨n2 + 1 + 1 + 1 + 1, 0, none⟩, some ⟨n2 + 1 + 1 + 1 + 1 + 1, 0, none⟩, 3, 2, some ⟨nl, 0, none⟩, 2⟩
theorem cruise_at {W : World} {n1 n2 nl m : Nat} (h1 : Objs W n1 (Sh.vesselObjs n1)) (h2 : Objs W n2 (Fo.tableObjs n2)) (h3 : W.heap[nl]? = some (O.list m)) (h4 : Objs W (m + 1 + 1) [O.e1, O.e2]) : SailAt W T.C (A.cru n1 n2 nl) := by
  refine ⟨vessel_at h1, table_at h2, ?_⟩
  exact SlAt.ofBlock (l := [T.N1, T.Q1]) [cellsBk T.N1 (some ⟨m + 1 + 1, 0, none⟩) 1, cellsBk T.Q1 (some ⟨m + 1 + 1 + 1, 0, none⟩) 1] h3 rfl rfl (fun i hi => by
    have hi : i < 2 := hi
    match i, hi with
    | 0, _ => exact ⟨_, rfl, _, 1, rfl, ent_at (h4 0 _ rfl)⟩
    | 1, _ => exact ⟨_, rfl, _, 1, rfl, ent_at (h4 1 _ rfl)⟩) (by intro c hc; simp at hc; rcases hc with rfl | rfl <;> rfl) (by decide)
abbrev C.cru (n1 n2 nl : Nat) : Array Value := #[.int .i64 3, .int .i64 6, .slice (some ⟨n1 + 1 + 1 + 1, 0, none⟩) 3 3, .slice (some ⟨n1 + 1 + 1 + 1 + 1, 0, none⟩) 3 3, .slice (some ⟨n2 + 1 + 1 + 1 + 1, 0, none⟩) 3 3, .int .i64 50, .int .i64 33, .slice (some ⟨n2 + 1 + 1 + 1 + 1 + 1, 0, none⟩) 2 2, .int .i64 20, .int .i64 2, .int .i64 40, .slice (some ⟨nl, 0, none⟩) 2 2, .bool false]
abbrev W.st (U : World) (g n1 n2 nl : Nat) : World := (((((((((((((U.setCell ⟨g, 0, none⟩ (.int .i64 3)).setCell ⟨g, 1, none⟩ (.int .i64 6)).setCell ⟨g, 2, none⟩ (.slice (some ⟨n1 + 1 + 1 + 1, 0, none⟩) 3 3)).setCell ⟨g, 3, none⟩ (.slice (some ⟨n1 + 1 + 1 + 1 + 1, 0, none⟩) 3 3)).setCell ⟨g, 4, none⟩ (.slice (some ⟨n2 + 1 + 1 + 1 + 1, 0, none⟩) 3 3)).setCell ⟨g, 5, none⟩ (.int .i64 50)).setCell ⟨g, 6, none⟩ (.int .i64 33)).setCell ⟨g, 7, none⟩ (.slice (some ⟨n2 + 1 + 1 + 1 + 1 + 1, 0, none⟩) 2 2)).setCell ⟨g, 8, none⟩ (.int .i64 20)).setCell ⟨g, 9, none⟩ (.int .i64 2)).setCell ⟨g, 10, none⟩ (.int .i64 40)).setCell ⟨g, 11, none⟩ (.slice (some ⟨nl, 0, none⟩) 2 2)).setCell ⟨g, 12, none⟩ (.bool false))
theorem st_eq (U : World) (g n1 n2 nl : Nat) : W.st U g n1 n2 nl = U.setCells g 0 (C.cru n1 n2 nl).toList := rfl
theorem st_keep {U : World} {g b k : Nat} {v : Value} (n1 n2 nl : Nat) (hb : b ≠ g) (h : U.cell? ⟨b, k, none⟩ = some v) : (W.st U g n1 n2 nl).cell? ⟨b, k, none⟩ = some v := by
  rw [st_eq, World.cell?_setCells_out g (C.cru n1 n2 nl).toList 0 U ⟨b, k, none⟩ (fun e => absurd e hb)]
  exact h
theorem below_cells {B g : Nat} (hg : B ≤ g) : ∀ (vs : List Value) (o : Nat) (w : World), Below B w (w.setCells g o vs)
  | [], _, w => Below.refl _ _
  | v :: vs, o, w => ((Below.refl B w).setCell (p := ⟨g, o, none⟩) hg v).trans (below_cells hg vs (o + 1) _)
structure Cru (Y : World) (g n1 n2 nl : Nat) : Prop where
  k0 : Y.cell? ⟨g, 0, none⟩ = some (.int .i64 3)
  k1 : Y.cell? ⟨g, 1, none⟩ = some (.int .i64 6)
  k2 : Y.cell? ⟨g, 2, none⟩ = some (.slice (some ⟨n1 + 1 + 1 + 1, 0, none⟩) 3 3)
  k3 : Y.cell? ⟨g, 3, none⟩ = some (.slice (some ⟨n1 + 1 + 1 + 1 + 1, 0, none⟩) 3 3)
  k4 : Y.cell? ⟨g, 4, none⟩ = some (.slice (some ⟨n2 + 1 + 1 + 1 + 1, 0, none⟩) 3 3)
  k5 : Y.cell? ⟨g, 5, none⟩ = some (.int .i64 50)
  k6 : Y.cell? ⟨g, 6, none⟩ = some (.int .i64 33)
  k7 : Y.cell? ⟨g, 7, none⟩ = some (.slice (some ⟨n2 + 1 + 1 + 1 + 1 + 1, 0, none⟩) 2 2)
  k8 : Y.cell? ⟨g, 8, none⟩ = some (.int .i64 20)
  k9 : Y.cell? ⟨g, 9, none⟩ = some (.int .i64 2)
  k10 : Y.cell? ⟨g, 10, none⟩ = some (.int .i64 40)
  k11 : Y.cell? ⟨g, 11, none⟩ = some (.slice (some ⟨nl, 0, none⟩) 2 2)
  k12 : Y.cell? ⟨g, 12, none⟩ = some (.bool false)
theorem st_cru {X : World} {g n1 n2 nl : Nat} {old : Array Value} {t : TypeId} (hg : X.heap[g]? = some (.cells old t (0, 0))) (hold : old.size = 13) : Cru (W.st X g n1 n2 nl) g n1 n2 nl := by
  have ht : ∀ j, j < (C.cru n1 n2 nl).toList.length → (X.cell? ⟨g, 0 + j, none⟩).isSome = true := fun j hj => by
    have hj : j < 13 := hj
    rw [cell_of_row X g (0 + j) old t (0, 0) hg, Array.getElem?_eq_getElem (by omega)]
    rfl
  have hc := fun j (hj : j < 13) => World.cell?_setCells_in g (C.cru n1 n2 nl).toList 0 X ht j hj
  rw [st_eq]
  have k0 := hc 0 (by omega); have k1 := hc 1 (by omega); have k2 := hc 2 (by omega); have k3 := hc 3 (by omega); have k4 := hc 4 (by omega); have k5 := hc 5 (by omega); have k6 := hc 6 (by omega); have k7 := hc 7 (by omega); have k8 := hc 8 (by omega); have k9 := hc 9 (by omega); have k10 := hc 10 (by omega); have k11 := hc 11 (by omega); have k12 := hc 12 (by omega)
  generalize X.setCells g 0 (C.cru n1 n2 nl).toList = Y at k0 k1 k2 k3 k4 k5 k6 k7 k8 k9 k10 k11 k12 ⊢
  simp at k0 k1 k2 k3 k4 k5 k6 k7 k8 k9 k10 k11 k12
  exact ⟨k0, k1, k2, k3, k4, k5, k6, k7, k8, k9, k10, k11, k12⟩
theorem Cru.old {Y : World} {g n1 n2 nl : Nat} (h : Cru Y g n1 n2 nl) (o : Obj) : Cru (Y.alloc o) g n1 n2 nl := ⟨Fo.oldCell o h.k0, Fo.oldCell o h.k1, Fo.oldCell o h.k2, Fo.oldCell o h.k3, Fo.oldCell o h.k4, Fo.oldCell o h.k5, Fo.oldCell o h.k6, Fo.oldCell o h.k7, Fo.oldCell o h.k8, Fo.oldCell o h.k9, Fo.oldCell o h.k10, Fo.oldCell o h.k11, Fo.oldCell o h.k12⟩
theorem list_up {w w' : World} {b : Nat} {o : Obj} (h : w.heap[b]? = some o) (hb : Below w.heap.size w w') : w'.heap[b]? = some o := by
  rw [hb.block _ (Array.getElem?_eq_some_iff.1 h).1]
  exact h
theorem cruise_fin {w Y : World} {n1 n2 nl m : Nat} {a : Act} (hk : Cru Y w.heap.size n1 n2 nl) (hB : Below w.heap.size w Y)
    (h1 : Objs Y n1 (Sh.vesselObjs n1)) (h2 : Objs Y n2 (Fo.tableObjs n2)) (h3 : Y.heap[nl]? = some (O.list m)) (h4 : Objs Y (m + 1 + 1) [O.e1, O.e2]) (ha : a.tmps.getD 0 undef = .pointer (some ⟨w.heap.size, 0, none⟩)) (hd : a.defers = []) :
    bodyPost Tryz.prog Tryz.f42 (fun e w' => ∃ a, e = .returned (V.sail T.C a) ∧ SailAt w' T.C a ∧ Below w.heap.size w w') .ret a Y := by
  have ha' : a.tmps[0]?.getD undef = .pointer (some ⟨w.heap.size, 0, none⟩) := by simpa using ha
  obtain ⟨k0, k1, k2, k3, k4, k5, k6, k7, k8, k9, k10, k11, k12⟩ := hk
  refine bodyPost_ret (v := V.sail T.C (A.cru n1 n2 nl)) ?_ hd ⟨_, rfl, cruise_at h1 h2 h3 h4, hB⟩
  clear h1 h2 h3 h4
  simp [results, Tryz.results42, go_sem, ha', k0, k1, k2, k3, k4, k5, k6, k7, k8, k9, k10, k11, k12, T.C, T.V, Sh.vcats, Sh.vcabs, Fo.T.L, Fo.T.B]
theorem fin_st {w X : World} {n1 n2 nl m : Nat} {old : Array Value} {t : TypeId} {a : Act} (hg : X.heap[w.heap.size]? = some (.cells old t (0, 0))) (hold : old.size = 13) (hB : Below w.heap.size w X) (hn1 : w.heap.size < n1) (hn2 : w.heap.size < n2) (hnl : w.heap.size < nl) (hm : w.heap.size < m)
    (h1 : Objs X n1 (Sh.vesselObjs n1)) (h2 : Objs X n2 (Fo.tableObjs n2)) (h3 : X.heap[nl]? = some (O.list m)) (h4 : Objs X (m + 1 + 1) [O.e1, O.e2]) (ha : a.tmps.getD 0 undef = .pointer (some ⟨w.heap.size, 0, none⟩)) (hd : a.defers = []) :
    bodyPost Tryz.prog Tryz.f42 (fun e w' => ∃ a, e = .returned (V.sail T.C a) ∧ SailAt w' T.C a ∧ Below w.heap.size w w') .ret a (W.st X w.heap.size n1 n2 nl) :=
  cruise_fin (st_cru hg hold) (hB.trans (below_cells (Nat.le_refl _) (C.cru n1 n2 nl).toList _ _)) (h1.cells hn1 (C.cru n1 n2 nl).toList) (h2.cells hn2 (C.cru n1 n2 nl).toList)
    (by rw [st_eq, World.heap_setCells_other X w.heap.size 0 _ (Array.getElem?_eq_some_iff.1 h3).1 (by omega)]; exact h3) (h4.cells (by omega) (C.cru n1 n2 nl).toList) ha hd
theorem st_size (X : World) (g n1 n2 nl : Nat) : (W.st X g n1 n2 nl).heap.size = X.heap.size := by simp [World.setCell]
theorem fin_al {w X : World} {n1 n2 m : Nat} {old : Array Value} {t : TypeId} {a : Act} (hg : X.heap[w.heap.size]? = some (.cells old t (0, 0))) (hold : old.size = 13) (hB : Below w.heap.size w X) (hn1 : w.heap.size < n1) (hn2 : w.heap.size < n2) (hm : w.heap.size < m)
    (h1 : Objs X n1 (Sh.vesselObjs n1)) (h2 : Objs X n2 (Fo.tableObjs n2)) (h4 : Objs X (m + 1 + 1) [O.e1, O.e2]) (ha : a.tmps.getD 0 undef = .pointer (some ⟨w.heap.size, 0, none⟩)) (hd : a.defers = []) :
    bodyPost Tryz.prog Tryz.f42 (fun e w' => ∃ a, e = .returned (V.sail T.C a) ∧ SailAt w' T.C a ∧ Below w.heap.size w w') .ret a ((W.st X w.heap.size n1 n2 X.heap.size).alloc (O.list m)) :=
  cruise_fin ((st_cru hg hold).old _) (bvia (hB.trans (below_cells (Nat.le_refl _) (C.cru n1 n2 X.heap.size).toList _ _)) (al _ _)) ((h1.cells hn1 (C.cru n1 n2 X.heap.size).toList).below (al _ _)) ((h2.cells hn2 (C.cru n1 n2 X.heap.size).toList).below (al _ _))
    (by have := heap_alloc_new (W.st X w.heap.size n1 n2 X.heap.size) (O.list m); rwa [st_size] at this) ((h4.cells (by omega) (C.cru n1 n2 X.heap.size).toList).below (al _ _)) ha hd

set_option maxHeartbeats 16000000 in
theorem cruise_any (w : World) : Calls Tryz.prog 42 #[] w fun e w' => ∃ a, e = .returned (V.sail T.C a) ∧ SailAt w' T.C a ∧ Below w.heap.size w w' := by
  go_enter Tryz.func42, Tryz.ntmps42
  go_wp2_with fail
  refine (named_any _).mono ?_
  rintro e w1 ⟨rfl, hb1⟩
  go_wp2_with fail
  refine (promised_any _).mono ?_
  rintro e w2 ⟨rfl, hb2⟩
  have hbC : Below w2.heap.size w2 (W.cru w2) := by go_grown
  have hg0 := heap_alloc_new w (.cells #[.int .i64 0, .int .i64 0, .slice none 0 0, .slice none 0 0, .slice none 0 0, .int .i64 0, .int .i64 0, .slice none 0 0, .int .i64 0, .int .i64 0, .int .i64 0, .slice none 0 0, .bool false] 32)
  have hbA : Below w.heap.size w (w.alloc (.cells #[.int .i64 0, .int .i64 0, .slice none 0 0, .slice none 0 0, .slice none 0 0, .int .i64 0, .int .i64 0, .slice none 0 0, .int .i64 0, .int .i64 0, .int .i64 0, .slice none 0 0, .bool false] 32)) := by go_grown
  have hb12 := bvia hb1 (bvia hb2 hbC)
  have HBw : Aside (Below w.heap.size w (W.cru w2)) := bvia hbA hb12
  have hlt2 : w.heap.size < w2.heap.size := by have h1 := hb1.size; have h2 := hb2.size; rw [World.size_alloc] at h1; omega
  have HG : Aside (∀ U, Below (W.cru w2).heap.size (W.cru w2) U → U.heap[w.heap.size]? = some (.cells #[.int .i64 0, .int .i64 0, .slice none 0 0, .slice none 0 0, .slice none 0 0, .int .i64 0, .int .i64 0, .slice none 0 0, .int .i64 0, .int .i64 0, .int .i64 0, .slice none 0 0, .bool false] 32 (0, 0))) := fun U hW => by
    have h := bvia hb12 hW
    rw [h.block _ (Array.getElem?_eq_some_iff.1 hg0).1]
    exact hg0
  have HOC : Aside (Objs (W.cru w2) (w2.heap.size + 1 + 1) [O.e1, O.e2]) := fun i o hi => by
    have h := Objs.fold w2 [.cells #[.int .i64 7, .int .i64 1, .int .i64 2, .int .i64 3, .bool false, .int .i64 1, .int .i64 0, .int .i64 1, .int .i64 3, .int .i64 0, .slice (some ⟨w2.heap.size + 1 + 1, 0, none⟩) 1 1] 37, .cells #[.int .i64 9, .int .i64 2, .int .i64 1, .int .i64 2, .bool false, .int .i64 (-1), .int .i64 0, .int .i64 0, .int .i64 3, .int .i64 4, .slice (some ⟨w2.heap.size + 1 + 1 + 1, 0, none⟩) 1 1] 37, O.e1, O.e2] (i + 2) o (by simpa using hi)
    rw [show w2.heap.size + 1 + 1 + i = w2.heap.size + (i + 2) by omega]
    exact h
  have HS0 : (fun u : World => u.cell? ⟨w2.heap.size, 0, none⟩ = some (.int .i64 7) ∧ u.cell? ⟨w2.heap.size, 1, none⟩ = some (.int .i64 1) ∧ u.cell? ⟨w2.heap.size, 2, none⟩ = some (.int .i64 2) ∧ u.cell? ⟨w2.heap.size, 3, none⟩ = some (.int .i64 3) ∧ u.cell? ⟨w2.heap.size, 4, none⟩ = some (.bool false) ∧ u.cell? ⟨w2.heap.size, 5, none⟩ = some (.int .i64 1) ∧ u.cell? ⟨w2.heap.size, 6, none⟩ = some (.int .i64 0) ∧ u.cell? ⟨w2.heap.size, 7, none⟩ = some (.int .i64 1) ∧ u.cell? ⟨w2.heap.size, 8, none⟩ = some (.int .i64 3) ∧ u.cell? ⟨w2.heap.size, 9, none⟩ = some (.int .i64 0) ∧ u.cell? ⟨w2.heap.size, 10, none⟩ = some (.slice (some ⟨w2.heap.size + 1 + 1, 0, none⟩) 1 1) ∧ u.cell? ⟨w2.heap.size + 1, 0, none⟩ = some (.int .i64 9) ∧ u.cell? ⟨w2.heap.size + 1, 1, none⟩ = some (.int .i64 2) ∧ u.cell? ⟨w2.heap.size + 1, 2, none⟩ = some (.int .i64 1) ∧ u.cell? ⟨w2.heap.size + 1, 3, none⟩ = some (.int .i64 2) ∧ u.cell? ⟨w2.heap.size + 1, 4, none⟩ = some (.bool false) ∧ u.cell? ⟨w2.heap.size + 1, 5, none⟩ = some (.int .i64 (-1)) ∧ u.cell? ⟨w2.heap.size + 1, 6, none⟩ = some (.int .i64 0) ∧ u.cell? ⟨w2.heap.size + 1, 7, none⟩ = some (.int .i64 0) ∧ u.cell? ⟨w2.heap.size + 1, 8, none⟩ = some (.int .i64 3) ∧ u.cell? ⟨w2.heap.size + 1, 9, none⟩ = some (.int .i64 4) ∧ u.cell? ⟨w2.heap.size + 1, 10, none⟩ = some (.slice (some ⟨w2.heap.size + 1 + 1 + 1, 0, none⟩) 1 1)) (W.cru w2) := by
    refine ⟨?_, ?_, ?_, ?_, ?_, ?_, ?_, ?_, ?_, ?_, ?_, ?_, ?_, ?_, ?_, ?_, ?_, ?_, ?_, ?_, ?_, ?_⟩ <;> go_simp
  have HS : Aside (∀ U, Below (W.cru w2).heap.size (W.cru w2) U → U.cell? ⟨w2.heap.size, 0, none⟩ = some (.int .i64 7) ∧ U.cell? ⟨w2.heap.size, 1, none⟩ = some (.int .i64 1) ∧ U.cell? ⟨w2.heap.size, 2, none⟩ = some (.int .i64 2) ∧ U.cell? ⟨w2.heap.size, 3, none⟩ = some (.int .i64 3) ∧ U.cell? ⟨w2.heap.size, 4, none⟩ = some (.bool false) ∧ U.cell? ⟨w2.heap.size, 5, none⟩ = some (.int .i64 1) ∧ U.cell? ⟨w2.heap.size, 6, none⟩ = some (.int .i64 0) ∧ U.cell? ⟨w2.heap.size, 7, none⟩ = some (.int .i64 1) ∧ U.cell? ⟨w2.heap.size, 8, none⟩ = some (.int .i64 3) ∧ U.cell? ⟨w2.heap.size, 9, none⟩ = some (.int .i64 0) ∧ U.cell? ⟨w2.heap.size, 10, none⟩ = some (.slice (some ⟨w2.heap.size + 1 + 1, 0, none⟩) 1 1) ∧ U.cell? ⟨w2.heap.size + 1, 0, none⟩ = some (.int .i64 9) ∧ U.cell? ⟨w2.heap.size + 1, 1, none⟩ = some (.int .i64 2) ∧ U.cell? ⟨w2.heap.size + 1, 2, none⟩ = some (.int .i64 1) ∧ U.cell? ⟨w2.heap.size + 1, 3, none⟩ = some (.int .i64 2) ∧ U.cell? ⟨w2.heap.size + 1, 4, none⟩ = some (.bool false) ∧ U.cell? ⟨w2.heap.size + 1, 5, none⟩ = some (.int .i64 (-1)) ∧ U.cell? ⟨w2.heap.size + 1, 6, none⟩ = some (.int .i64 0) ∧ U.cell? ⟨w2.heap.size + 1, 7, none⟩ = some (.int .i64 0) ∧ U.cell? ⟨w2.heap.size + 1, 8, none⟩ = some (.int .i64 3) ∧ U.cell? ⟨w2.heap.size + 1, 9, none⟩ = some (.int .i64 4) ∧ U.cell? ⟨w2.heap.size + 1, 10, none⟩ = some (.slice (some ⟨w2.heap.size + 1 + 1 + 1, 0, none⟩) 1 1)) := fun U hW => by
    obtain ⟨q0, q1, q2, q3, q4, q5, q6, q7, q8, q9, q10, q11, q12, q13, q14, q15, q16, q17, q18, q19, q20, q21⟩ := HS0
    exact ⟨cellIn hW q0, cellIn hW q1, cellIn hW q2, cellIn hW q3, cellIn hW q4, cellIn hW q5, cellIn hW q6, cellIn hW q7, cellIn hW q8, cellIn hW q9, cellIn hW q10, cellIn hW q11, cellIn hW q12, cellIn hW q13, cellIn hW q14, cellIn hW q15, cellIn hW q16, cellIn hW q17, cellIn hW q18, cellIn hW q19, cellIn hW q20, cellIn hW q21⟩
  have HZ : Aside (∀ U, Below (W.cru w2).heap.size (W.cru w2) U → U.cell? ⟨w.heap.size, 0, none⟩ = some (.int .i64 0) ∧ U.cell? ⟨w.heap.size, 1, none⟩ = some (.int .i64 0) ∧ U.cell? ⟨w.heap.size, 2, none⟩ = some (.slice none 0 0) ∧ U.cell? ⟨w.heap.size, 3, none⟩ = some (.slice none 0 0) ∧ U.cell? ⟨w.heap.size, 4, none⟩ = some (.slice none 0 0) ∧ U.cell? ⟨w.heap.size, 5, none⟩ = some (.int .i64 0) ∧ U.cell? ⟨w.heap.size, 6, none⟩ = some (.int .i64 0) ∧ U.cell? ⟨w.heap.size, 7, none⟩ = some (.slice none 0 0) ∧ U.cell? ⟨w.heap.size, 8, none⟩ = some (.int .i64 0) ∧ U.cell? ⟨w.heap.size, 9, none⟩ = some (.int .i64 0) ∧ U.cell? ⟨w.heap.size, 10, none⟩ = some (.int .i64 0) ∧ U.cell? ⟨w.heap.size, 11, none⟩ = some (.slice none 0 0) ∧ U.cell? ⟨w.heap.size, 12, none⟩ = some (.bool false) ∧ U.frozen? ⟨w.heap.size, 0, none⟩ = false ∧ U.frozen? ⟨w.heap.size, 1, none⟩ = false ∧ U.frozen? ⟨w.heap.size, 2, none⟩ = false ∧ U.frozen? ⟨w.heap.size, 3, none⟩ = false ∧ U.frozen? ⟨w.heap.size, 4, none⟩ = false ∧ U.frozen? ⟨w.heap.size, 5, none⟩ = false ∧ U.frozen? ⟨w.heap.size, 6, none⟩ = false ∧ U.frozen? ⟨w.heap.size, 7, none⟩ = false ∧ U.frozen? ⟨w.heap.size, 8, none⟩ = false ∧ U.frozen? ⟨w.heap.size, 9, none⟩ = false ∧ U.frozen? ⟨w.heap.size, 10, none⟩ = false ∧ U.frozen? ⟨w.heap.size, 11, none⟩ = false ∧ U.frozen? ⟨w.heap.size, 12, none⟩ = false) := fun U hW => by
    have hr : U.heap[w.heap.size]? = _ := HG.out U hW
    have hz := fun j => cell_of_row U w.heap.size j _ _ (0, 0) hr
    have hfz : ∀ j, U.frozen? ⟨w.heap.size, j, none⟩ = false := fun j => by simp [World.frozen?, hr]
    exact ⟨hz 0, hz 1, hz 2, hz 3, hz 4, hz 5, hz 6, hz 7, hz 8, hz 9, hz 10, hz 11, hz 12, hfz 0, hfz 1, hfz 2, hfz 3, hfz 4, hfz 5, hfz 6, hfz 7, hfz 8, hfz 9, hfz 10, hfz 11, hfz 12⟩
  have hC4 : (W.cru w2).heap.size = w2.heap.size + 1 + 1 + 1 + 1 := by simp
  clear hg0 hbA hb12 hbC HS0
  go_wp2_with fail
  change Code.wp Tryz.prog _ _ _ (W.cru w2)
  have HC4 : Aside ((W.cru w2).heap.size = w2.heap.size + 1 + 1 + 1 + 1) := hC4
  clear hC4
  generalize W.cru w2 = wC at HBw HG HOC HS HZ HC4 ⊢
  obtain ⟨q0, q1, q2, q3, q4, q5, q6, q7, q8, q9, q10, q11, q12, q13, q14, q15, q16, q17, q18, q19, q20, q21⟩ := HS.out wC (Below.refl _ _)
  have hne1 : w2.heap.size ≠ w.heap.size := by omega
  have hne2 : w2.heap.size + 1 ≠ w.heap.size := by omega
  have hltC : w2.heap.size + 1 < wC.heap.size := World.block_lt_of_cell? wC _ q11
  go_region_held3 (fun u => u.cell? ⟨w2.heap.size, 0, none⟩ = some (.int .i64 7) ∧ u.cell? ⟨w2.heap.size, 1, none⟩ = some (.int .i64 1) ∧ u.cell? ⟨w2.heap.size, 2, none⟩ = some (.int .i64 2) ∧ u.cell? ⟨w2.heap.size, 3, none⟩ = some (.int .i64 3) ∧ u.cell? ⟨w2.heap.size, 4, none⟩ = some (.bool false) ∧ u.cell? ⟨w2.heap.size, 5, none⟩ = some (.int .i64 1) ∧ u.cell? ⟨w2.heap.size, 6, none⟩ = some (.int .i64 0) ∧ u.cell? ⟨w2.heap.size, 7, none⟩ = some (.int .i64 1) ∧ u.cell? ⟨w2.heap.size, 8, none⟩ = some (.int .i64 3) ∧ u.cell? ⟨w2.heap.size, 9, none⟩ = some (.int .i64 0) ∧ u.cell? ⟨w2.heap.size, 10, none⟩ = some (.slice (some ⟨w2.heap.size + 1 + 1, 0, none⟩) 1 1) ∧ u.cell? ⟨w2.heap.size + 1, 0, none⟩ = some (.int .i64 9) ∧ u.cell? ⟨w2.heap.size + 1, 1, none⟩ = some (.int .i64 2) ∧ u.cell? ⟨w2.heap.size + 1, 2, none⟩ = some (.int .i64 1) ∧ u.cell? ⟨w2.heap.size + 1, 3, none⟩ = some (.int .i64 2) ∧ u.cell? ⟨w2.heap.size + 1, 4, none⟩ = some (.bool false) ∧ u.cell? ⟨w2.heap.size + 1, 5, none⟩ = some (.int .i64 (-1)) ∧ u.cell? ⟨w2.heap.size + 1, 6, none⟩ = some (.int .i64 0) ∧ u.cell? ⟨w2.heap.size + 1, 7, none⟩ = some (.int .i64 0) ∧ u.cell? ⟨w2.heap.size + 1, 8, none⟩ = some (.int .i64 3) ∧ u.cell? ⟨w2.heap.size + 1, 9, none⟩ = some (.int .i64 4) ∧ u.cell? ⟨w2.heap.size + 1, 10, none⟩ = some (.slice (some ⟨w2.heap.size + 1 + 1 + 1, 0, none⟩) 1 1))
    (first
      | with_reducible exact ⟨r0, r1, r2, r3, r4, r5, r6, r7, r8, r9, r10, r11, r12, r13, r14, r15, r16, r17, r18, r19, r20, r21⟩
      | with_reducible exact ⟨p0, p1, p2, p3, p4, p5, p6, p7, p8, p9, p10, p11, p12, p13, p14, p15, p16, p17, p18, p19, p20, p21⟩
      | with_reducible exact ⟨q0, q1, q2, q3, q4, q5, q6, q7, q8, q9, q10, q11, q12, q13, q14, q15, q16, q17, q18, q19, q20, q21⟩
      | with_reducible exact ⟨st_keep _ _ _ hne1 r0, st_keep _ _ _ hne1 r1, st_keep _ _ _ hne1 r2, st_keep _ _ _ hne1 r3, st_keep _ _ _ hne1 r4, st_keep _ _ _ hne1 r5, st_keep _ _ _ hne1 r6, st_keep _ _ _ hne1 r7, st_keep _ _ _ hne1 r8, st_keep _ _ _ hne1 r9, st_keep _ _ _ hne1 r10, st_keep _ _ _ hne2 r11, st_keep _ _ _ hne2 r12, st_keep _ _ _ hne2 r13, st_keep _ _ _ hne2 r14, st_keep _ _ _ hne2 r15, st_keep _ _ _ hne2 r16, st_keep _ _ _ hne2 r17, st_keep _ _ _ hne2 r18, st_keep _ _ _ hne2 r19, st_keep _ _ _ hne2 r20, st_keep _ _ _ hne2 r21⟩
      | with_reducible exact ⟨Fo.oldCell _ (st_keep _ _ _ hne1 r0), Fo.oldCell _ (st_keep _ _ _ hne1 r1), Fo.oldCell _ (st_keep _ _ _ hne1 r2), Fo.oldCell _ (st_keep _ _ _ hne1 r3), Fo.oldCell _ (st_keep _ _ _ hne1 r4), Fo.oldCell _ (st_keep _ _ _ hne1 r5), Fo.oldCell _ (st_keep _ _ _ hne1 r6), Fo.oldCell _ (st_keep _ _ _ hne1 r7), Fo.oldCell _ (st_keep _ _ _ hne1 r8), Fo.oldCell _ (st_keep _ _ _ hne1 r9), Fo.oldCell _ (st_keep _ _ _ hne1 r10), Fo.oldCell _ (st_keep _ _ _ hne2 r11), Fo.oldCell _ (st_keep _ _ _ hne2 r12), Fo.oldCell _ (st_keep _ _ _ hne2 r13), Fo.oldCell _ (st_keep _ _ _ hne2 r14), Fo.oldCell _ (st_keep _ _ _ hne2 r15), Fo.oldCell _ (st_keep _ _ _ hne2 r16), Fo.oldCell _ (st_keep _ _ _ hne2 r17), Fo.oldCell _ (st_keep _ _ _ hne2 r18), Fo.oldCell _ (st_keep _ _ _ hne2 r19), Fo.oldCell _ (st_keep _ _ _ hne2 r20), Fo.oldCell _ (st_keep _ _ _ hne2 r21)⟩
      | go_keep)
    (first
      | (go_at_call 92; first
          | (with_reducible refine (vesselX_any wC.drew wC.heap.size (dr_size _)).mono ?_; rintro e wv ⟨rfl, ov, hbv⟩; have bv : Below wC.heap.size wC wv := bvia (dr wC) hbv; obtain ⟨p0, p1, p2, p3, p4, p5, p6, p7, p8, p9, p10, p11, p12, p13, p14, p15, p16, p17, p18, p19, p20, p21⟩ := HS.out wv bv; have hltv : w2.heap.size + 1 < wv.heap.size := World.block_lt_of_cell? wv _ p11)
          | (with_reducible refine (vesselX_any (wC.alloc (O.list w2.heap.size)).drew (wC.heap.size + 1) (ad_size _ _)).mono ?_; rintro e wv ⟨rfl, ov, hbv⟩; have bv : Below wC.heap.size wC wv := bvia (bvia (al wC _) (dr _)) hbv; obtain ⟨p0, p1, p2, p3, p4, p5, p6, p7, p8, p9, p10, p11, p12, p13, p14, p15, p16, p17, p18, p19, p20, p21⟩ := HS.out wv bv; have hltv : w2.heap.size + 1 < wv.heap.size := World.block_lt_of_cell? wv _ p11)
          | (with_reducible refine (vesselX_any (wC.alloc (O.list w2.heap.size)) (wC.heap.size + 1) (World.size_alloc _ _)).mono ?_; rintro e wv ⟨rfl, ov, hbv⟩; have bv : Below wC.heap.size wC wv := bvia (al wC _) hbv; obtain ⟨p0, p1, p2, p3, p4, p5, p6, p7, p8, p9, p10, p11, p12, p13, p14, p15, p16, p17, p18, p19, p20, p21⟩ := HS.out wv bv; have hltv : w2.heap.size + 1 < wv.heap.size := World.block_lt_of_cell? wv _ p11))
      | (go_at_call 93; first
          | (with_reducible refine (tableX_any wv wv.heap.size rfl).mono ?_; rintro e wt ⟨rfl, ot, hbt⟩; have bvt : Below wv.heap.size wv wt := hbt; have bt : Below wC.heap.size wC wt := bvia bv (hbt); obtain ⟨z0, z1, z2, z3, z4, z5, z6, z7, z8, z9, z10, z11, z12, f0, f1, f2, f3, f4, f5, f6, f7, f8, f9, f10, f11, f12⟩ := HZ.out wt bt; have hltt : w.heap.size < wt.heap.size := World.block_lt_of_cell? wt _ z0; obtain ⟨r0, r1, r2, r3, r4, r5, r6, r7, r8, r9, r10, r11, r12, r13, r14, r15, r16, r17, r18, r19, r20, r21⟩ := HS.out wt bt; have hltu : w2.heap.size + 1 < wt.heap.size := World.block_lt_of_cell? wt _ r11)
          | (with_reducible refine (tableX_any (wv.alloc (O.list w2.heap.size)) (wv.heap.size + 1) (World.size_alloc _ _)).mono ?_; rintro e wt ⟨rfl, ot, hbt⟩; have bvt : Below wv.heap.size wv wt := bvia (al wv _) hbt; have bt : Below wC.heap.size wC wt := bvia bv (bvia (al wv _) hbt); obtain ⟨z0, z1, z2, z3, z4, z5, z6, z7, z8, z9, z10, z11, z12, f0, f1, f2, f3, f4, f5, f6, f7, f8, f9, f10, f11, f12⟩ := HZ.out wt bt; have hltt : w.heap.size < wt.heap.size := World.block_lt_of_cell? wt _ z0; obtain ⟨r0, r1, r2, r3, r4, r5, r6, r7, r8, r9, r10, r11, r12, r13, r14, r15, r16, r17, r18, r19, r20, r21⟩ := HS.out wt bt; have hltu : w2.heap.size + 1 < wt.heap.size := World.block_lt_of_cell? wt _ r11)
          | (with_reducible refine (tableX_any (wv.alloc (O.list w2.heap.size)).drew (wv.heap.size + 1) (ad_size _ _)).mono ?_; rintro e wt ⟨rfl, ot, hbt⟩; have bvt : Below wv.heap.size wv wt := bvia (bvia (al wv _) (dr _)) hbt; have bt : Below wC.heap.size wC wt := bvia bv (bvia (bvia (al wv _) (dr _)) hbt); obtain ⟨z0, z1, z2, z3, z4, z5, z6, z7, z8, z9, z10, z11, z12, f0, f1, f2, f3, f4, f5, f6, f7, f8, f9, f10, f11, f12⟩ := HZ.out wt bt; have hltt : w.heap.size < wt.heap.size := World.block_lt_of_cell? wt _ z0; obtain ⟨r0, r1, r2, r3, r4, r5, r6, r7, r8, r9, r10, r11, r12, r13, r14, r15, r16, r17, r18, r19, r20, r21⟩ := HS.out wt bt; have hltu : w2.heap.size + 1 < wt.heap.size := World.block_lt_of_cell? wt _ r11)))
  all_goals
    clear r0 r1 r2 r3 r4 r5 r6 r7 r8 r9 r10 r11 r12 r13 r14 r15 r16 r17 r18 r19 r20 r21 p0 p1 p2 p3 p4 p5 p6 p7 p8 p9 p10 p11 p12 p13 p14 p15 p16 p17 p18 p19 p20 p21 q0 q1 q2 q3 q4 q5 q6 q7 q8 q9 q10 q11 q12 q13 q14 q15 q16 q17 q18 q19 q20 q21 z0 z1 z2 z3 z4 z5 z6 z7 z8 z9 z10 z11 z12 f0 f1 f2 f3 f4 f5 f6 f7 f8 f9 f10 f11 f12
    have hg := HG.out wt bt
    have hBt := bvia HBw.out bt
    have h1 := ov.below bvt
    have h4 := HOC.out.below bt
    have hCv : wC.heap.size ≤ wv.heap.size := bv.size
    clear HS HZ HG HOC HBw
    simp only [Exit.then]
    refine (‹∀ (a : Act) (w : World), Code.wp Tryz.prog Code.ret _ a w → _› _ _ ?_)
    apply wp_ret
    first
      | with_reducible exact fin_al hg rfl hBt (by omega) (by omega) (by omega) h1 ot h4 rfl rfl
      | with_reducible exact fin_st (nl := wC.heap.size) hg rfl hBt (by omega) (by omega) (by omega) (by omega) h1 ot (list_up (list_up (new_dr wC _) hbv) hbt) h4 rfl rfl
      | with_reducible exact fin_st (nl := wv.heap.size) hg rfl hBt (by omega) (by omega) (by omega) (by omega) h1 ot (list_up (heap_alloc_new wv _) hbt) h4 rfl rfl

end Go.Proofs.YtlamhfbdeinkkaeGreat.St
