/- Package anew: each, of categories, of rows, of bookings. -/
import Derived.Test.YtlamhfbdeinkkaeGreatBaCt
import Derived.Lib.AppendZeros
namespace Go.Proofs.YtlamhfbdeinkkaeGreat.St
open Go.RowKit Bk
set_option linter.unusedSimpArgs false
set_option linter.unusedVariables false
set_option maxRecDepth 10000

section
variable {α : Type} {cells : α → List Value} {size : Nat} {e : TypeId}
/-- 'append(v, y)' where there is room, y laid into a block of its own just ahead. -/
theorem wpList_app_fit {t : TypeId} {z : Value} {bytes : Nat} (hinfo : (Tryz.prog.info? e).map (fun i => (i.zero, i.size, i.bytes)) = some (some z, size, bytes)) (hu : Tryz.prog.underlying t = some (.slice e)) (hs0 : 0 < size) (hc : ∀ x, (cells x).length = size) (h1c : ∀ x, ∀ u ∈ cells x, u.oneCell' = true)
    {ops : Array Oper} {rest : List Oper} {o : Oper} {a : Act} {Q : Exit → Act → World → Prop} {W0 : World} (hgd : o.guard = none) (s x : Operand)
    (ho : o.op = .call { callee := .builtin .append, args := #[s, x], argTypes := #[t, t] }) (base g cap : Nat) (l : List α) (k : Nat) (y : α) (arr : Array Value) (harr : arr.toList = cells y) (hs : a.eval s = .slice (some ⟨g, 0, none⟩) k cap) (hk : l.length = k) (hown : OwnC cells size e W0 base (.slice (some ⟨g, 0, none⟩) l.length cap) l)
    (H : Nat) (hH : W0.heap.size = H) (hx : a.eval x = .slice (some ⟨H, 0, none⟩) 1 1) (hroom : k < cap)
    (h : ∀ w', OwnC cells size e w' base (.slice (some ⟨g, 0, none⟩) (k + 1) cap) (l ++ [y]) → W0.grownBy w' (some g) → wpList Tryz.prog ops Q rest (a.put o.dst (.slice (some ⟨g, 0, none⟩) (k + 1) cap)) w') : wpList Tryz.prog ops Q (o :: rest) a (W0.alloc (.cells arr e)) := by
  subst hH
  subst hk
  obtain ⟨i0, hi, hi0, hi1, hi2⟩ := info_parts hinfo
  have hnews : ∀ j u, (cells y)[j]? = some u → (W0.alloc (.cells arr e)).cell? ((⟨W0.heap.size, 0, none⟩ : Addr).add j) = some u := by
    intro j u hu
    rw [Go.WideShapes.add_plain, cell_of_row _ W0.heap.size (0 + j) arr e (0, 0) (heap_alloc_new W0 _), ← Array.getElem?_toList, harr, Nat.zero_add]
    exact hu
  obtain ⟨w', hr, h2, h3⟩ := run_append_fits (P := Tryz.prog) (W0.alloc (.cells arr e)) base t o.type e i0 size hu hi hi1 g l.length cap (l.flatMap cells) (OwnC.below hown ((Below.refl _ W0).alloc (Nat.le_refl _) _)) ⟨W0.heap.size, 0, none⟩ 1 1 (cells y) (by rw [hc]; omega) hnews (h1c y) (by omega)
  refine Go.Lib.wpList_append_run (P := Tryz.prog) _ hgd s x t t ho _ _ hs hx _ w' hr (h w' ?_ (grownA' h3))
  show w'.ownsRow base e size _ (l ++ [y]).length _
  rw [List.flatMap_append, List.length_append]
  simpa using h2
end

set_option maxHeartbeats 2000000 in
theorem eachK_own (ao : Option Addr) (cap : Nat) (l : List (Sh.Cat)) (w : World) (hl : Sh.CatsAt w ao cap l) (hn : l.length ≤ 1000) (hs : ∀ c ∈ l, (c.2).length ≤ 1000) :
    Calls Tryz.prog 224 #[.slice ao l.length cap, .func (.func 225) #[] #[]] w fun e w' => ∃ kv : List CatV, kv.map (·.1) = l ∧ e = .returned (.slice (some ⟨w.heap.size, 0, none⟩) l.length l.length) ∧ OwnC cellsK 2 141 w' w.heap.size (.slice (some ⟨w.heap.size, 0, none⟩) l.length l.length) kv ∧
      (∀ y ∈ kv, OwnC cellsI 1 3 w' (w.heap.size + 1) (.slice y.2.1 (y.1.2).length y.2.2) (y.1.2)) ∧ Below w.heap.size w w' := by
  have hle := hl.le
  have hmx := hl.max
  unfold maxLen at hmx
  obtain ⟨i0, hi, hi0, hi1, hi2⟩ := info_parts Tryz.infoCat
  have hcf : ∀ (args : Array Value) (wx : World), (callFunc 225 args).run Tryz.prog wx = .ok (.enter 225 args) wx := enters_of Tryz.func225 (by kernel_rfl) rfl
  have HN : Aside (∀ w', w.grownBy w' none → Below w.heap.size w w') := fun w' hg => (Below.refl _ w).grown hg (Nat.le_refl _) (fun j hj => by cases hj)
  have HS : Aside (∀ c ∈ l, (c.2).length ≤ 1000) := hs
  clear hs
  go_enter Tryz.func224, Tryz.ntmps224
  go_wp2_with (at_make; refine wpList_make_own _ rfl _ _ 22 rfl w.heap.size 141 i0 _ 2 Tryz.underlying22 hi hi0 hi1 .i64 .i64 _ l.length rfl rfl rfl (by rw [hi2]; omega) (by unfold maxLen; omega) (Nat.le_refl _) ?_; intro w0 hown0 hgrow0; have hB0 := HN.out _ hgrow0; have hg0 : w.heap.size < w0.heap.size := (hown0.lt w.heap.size rfl).2; clear hgrow0)
  go_loopg [5, 13] l.length (fun g v i wr => ∃ (k : Nat) (kv : List CatV), k ≤ l.length ∧ g = l.length - k ∧ i = .int .i64 k ∧ v = .slice (some ⟨w.heap.size, 0, none⟩) k l.length ∧ kv.map (·.1) = l.take k ∧ OwnC cellsK 2 141 wr w.heap.size (.slice (some ⟨w.heap.size, 0, none⟩) k l.length) kv ∧ Aside (∀ y ∈ kv, OwnC cellsI 1 3 wr (w.heap.size + 1) (.slice y.2.1 (y.1.2).length y.2.2) (y.1.2)) ∧ w.heap.size < wr.heap.size ∧ Below w.heap.size w wr)
  case atStart => exact ⟨0, [], Nat.zero_le _, rfl, rfl, rfl, rfl, hown0, (fun y hy => by simp at hy), hg0, hB0⟩
  case round =>
    clear hown0 hB0 hg0
    obtain ⟨k, kv, hk, rfl, rfl, rfl, hkv, hown, HKE, hgr, hB⟩ := hrel
    have HKV : Aside (kv.map (·.1) = l.take k) := hkv
    have hkl : kv.length = k := by have := congrArg List.length hkv; rw [List.length_map, List.length_take] at this; omega
    have HKL : Aside (kv.length = k) := hkl
    clear hkv hkl
    by_cases hlt : k < l.length
    · obtain ⟨b, off, x, hao, hcap, rfl, hbw, hd, q0, q1, hh, hsz⟩ := catsGet hl hB k hlt
      have HD : Aside (l.drop k = x :: l.drop (k + 1)) := hd
      have hsx : (x.2).length ≤ 1000 := HS.out x (List.mem_of_mem_drop (by rw [hd]; simp))
      have HOW : Aside (OwnC cellsK 2 141 wr w.heap.size (.slice (some ⟨w.heap.size, 0, none⟩) k l.length) kv) := hown
      have hbx : Below wr.heap.size wr (wr.alloc (.cells #[.string x.1, .slice hao x.2.length hcap] 141)) := by go_grown
      clear hd hown
      go_wp2_with fail
      refine (copied1_own x hao hcap _ ?_ hsx).mono ?_
      · exact SlAt.below RInt.mono hh hbx
      rintro e w1 ⟨ao1, cap1, rfl, own1, hb1⟩
      have hbr := bvia hbx hb1
      have HS1 : Aside (OwnC cellsI 1 3 w1 (w.heap.size + 1) (.slice ao1 (x.2).length cap1) (x.2)) := OwnC.ahead own1 (by simp; omega)
      have HO1 : Aside (OwnC cellsK 2 141 w1 w.heap.size (.slice (some ⟨w.heap.size, 0, none⟩) kv.length l.length) kv) := by
        have h := OwnC.below HOW.out hbr
        show OwnC cellsK 2 141 w1 w.heap.size (.slice (some ⟨w.heap.size, 0, none⟩) kv.length l.length) kv
        rw [HKL.out]
        exact h
      have hg1 : w.heap.size < w1.heap.size := Nat.lt_of_lt_of_le hgr hbr.size
      have hB1 := bvia hB hbr
      clear own1
      go_wp2_with (at_builtin; refine wpList_app_fit Tryz.infoCat Tryz.underlying22 (by decide) cellsK_len cellsK_one rfl _ _ (by rfl) w.heap.size w.heap.size l.length kv k (x, ao1, cap1) _ rfl (by rfl) HKL.out HO1.out _ rfl (by rfl) hlt ?_; intro w2 own2 gr2)
      have hBf := below_gr hB1 hB1.size gr2 (Nat.le_refl _)
      have hz2 : w.heap.size < w2.heap.size := Nat.lt_of_lt_of_le hg1 gr2.size
      have HK2 : Aside (∀ y ∈ kv ++ [(x, ao1, cap1)], OwnC cellsI 1 3 w2 (w.heap.size + 1) (.slice y.2.1 (y.1.2).length y.2.2) (y.1.2)) := fun y hy => by
        rcases List.mem_append.1 hy with hy | hy
        · have h := OwnC.below (HKE.out y hy) hbr
          exact OwnC.apart h gr2 (fun r e hv => by cases e; have := (h.lt _ hv).1; omega)
        · simp at hy
          subst hy
          exact OwnC.apart HS1.out gr2 (fun r e hv => by cases e; have := (HS1.out.lt _ hv).1; omega)
      have HV2 : Aside ((kv ++ [(x, ao1, cap1)]).map (·.1) = l.take (k + 1)) := by
        show _ = _
        rw [List.map_append, HKV.out, take_snoc' hlt HD.out]
        rfl
      clear HOW HO1 HS1 HKE
      go_wp2
      go_roundg (l.length - (k + 1))
      case measure => omega
      case rel => exact ⟨k + 1, kv ++ [(x, ao1, cap1)], by omega, rfl, by go_num, rfl, HV2.out, own2, HK2, hz2, hBf⟩
    · obtain hkk : k = l.length := by omega
      subst hkk
      have HV : Aside (kv.map (·.1) = l) := by
        have := HKV.out
        rwa [List.take_of_length_le (Nat.le_refl _)] at this
      go_wp2
      go_ret
      exact ⟨kv, HV.out, rfl, hown, HKE.out, hB⟩

theorem listR_own (ao : Option Addr) (cap : Nat) (l : List Int) (w : World) (hl : IntsAt w ao cap l) (hn : l.length ≤ 1000) :
    Calls Tryz.prog 226 #[.slice ao l.length cap] w fun e w' => ∃ ao' cap', e = .returned (.slice ao' l.length cap') ∧ OwnC cellsI 1 3 w' w.heap.size (.slice ao' l.length cap') l ∧ Below w.heap.size w w' := by
  refine (listI_own ao cap l w hl hn).mono ?_
  rintro e w1 ⟨v, rfl, own1, hb1⟩
  obtain ⟨ao1, cap1, rfl⟩ := OwnC.form own1
  exact ⟨ao1, cap1, rfl, own1, hb1⟩

set_option maxHeartbeats 2000000 in
theorem eachR_own (ao : Option Addr) (cap : Nat) (l : List (List Int)) (w : World) (hl : Fo.RowsAt w ao cap l) (hn : l.length ≤ 1000) (hs : ∀ c ∈ l, (c).length ≤ 1000) :
    Calls Tryz.prog 228 #[.slice ao l.length cap, .func (.func 226) #[] #[]] w fun e w' => ∃ kv : List RowV, kv.map (·.1) = l ∧ e = .returned (.slice (some ⟨w.heap.size, 0, none⟩) l.length l.length) ∧ OwnC cellsR 1 47 w' w.heap.size (.slice (some ⟨w.heap.size, 0, none⟩) l.length l.length) kv ∧
      (∀ y ∈ kv, OwnC cellsI 1 3 w' (w.heap.size + 1) (.slice y.2.1 (y.1).length y.2.2) (y.1)) ∧ Below w.heap.size w w' := by
  have hle := hl.le
  have hmx := hl.max
  unfold maxLen at hmx
  obtain ⟨i0, hi, hi0, hi1, hi2⟩ := info_parts Tryz.infoRow
  have hcf : ∀ (args : Array Value) (wx : World), (callFunc 226 args).run Tryz.prog wx = .ok (.enter 226 args) wx := enters_of Tryz.func226 (by kernel_rfl) rfl
  have HN : Aside (∀ w', w.grownBy w' none → Below w.heap.size w w') := fun w' hg => (Below.refl _ w).grown hg (Nat.le_refl _) (fun j hj => by cases hj)
  have HS : Aside (∀ c ∈ l, (c).length ≤ 1000) := hs
  clear hs
  go_enter Tryz.func228, Tryz.ntmps228
  go_wp2_with (at_make; refine wpList_make_own _ rfl _ _ 26 rfl w.heap.size 47 i0 _ 1 Tryz.underlying26 hi hi0 hi1 .i64 .i64 _ l.length rfl rfl rfl (by rw [hi2]; omega) (by unfold maxLen; omega) (Nat.le_refl _) ?_; intro w0 hown0 hgrow0; have hB0 := HN.out _ hgrow0; have hg0 : w.heap.size < w0.heap.size := (hown0.lt w.heap.size rfl).2; clear hgrow0)
  go_loopg [5, 13] l.length (fun g v i wr => ∃ (k : Nat) (kv : List RowV), k ≤ l.length ∧ g = l.length - k ∧ i = .int .i64 k ∧ v = .slice (some ⟨w.heap.size, 0, none⟩) k l.length ∧ kv.map (·.1) = l.take k ∧ OwnC cellsR 1 47 wr w.heap.size (.slice (some ⟨w.heap.size, 0, none⟩) k l.length) kv ∧ Aside (∀ y ∈ kv, OwnC cellsI 1 3 wr (w.heap.size + 1) (.slice y.2.1 (y.1).length y.2.2) (y.1)) ∧ w.heap.size < wr.heap.size ∧ Below w.heap.size w wr)
  case atStart => exact ⟨0, [], Nat.zero_le _, rfl, rfl, rfl, rfl, hown0, (fun y hy => by simp at hy), hg0, hB0⟩
  case round =>
    clear hown0 hB0 hg0
    obtain ⟨k, kv, hk, rfl, rfl, rfl, hkv, hown, HKE, hgr, hB⟩ := hrel
    have HKV : Aside (kv.map (·.1) = l.take k) := hkv
    have hkl : kv.length = k := by have := congrArg List.length hkv; rw [List.length_map, List.length_take] at this; omega
    have HKL : Aside (kv.length = k) := hkl
    clear hkv hkl
    by_cases hlt : k < l.length
    · obtain ⟨b, off, x, ro, rc, rfl, hbw, hd, hc0, hr⟩ := Fo.RowsAt.get hl hB k hlt
      have HD : Aside (l.drop k = x :: l.drop (k + 1)) := hd
      have hsx : (x).length ≤ 1000 := HS.out x (List.mem_of_mem_drop (by rw [hd]; simp))
      have HOW : Aside (OwnC cellsR 1 47 wr w.heap.size (.slice (some ⟨w.heap.size, 0, none⟩) k l.length) kv) := hown
      skip
      clear hd hown
      go_wp2_with fail
      refine (listR_own ro rc x _ ?_ hsx).mono ?_
      · exact hr
      rintro e w1 ⟨ao1, cap1, rfl, own1, hb1⟩
      have hbr := hb1
      have HS1 : Aside (OwnC cellsI 1 3 w1 (w.heap.size + 1) (.slice ao1 (x).length cap1) (x)) := OwnC.ahead own1 (by omega)
      have HO1 : Aside (OwnC cellsR 1 47 w1 w.heap.size (.slice (some ⟨w.heap.size, 0, none⟩) kv.length l.length) kv) := by
        have h := OwnC.below HOW.out hbr
        show OwnC cellsR 1 47 w1 w.heap.size (.slice (some ⟨w.heap.size, 0, none⟩) kv.length l.length) kv
        rw [HKL.out]
        exact h
      have hg1 : w.heap.size < w1.heap.size := Nat.lt_of_lt_of_le hgr hbr.size
      have hB1 := bvia hB hbr
      clear own1
      go_wp2_with (at_builtin; refine wpList_app_fit Tryz.infoRow Tryz.underlying26 (by decide) cellsR_len cellsR_one rfl _ _ (by rfl) w.heap.size w.heap.size l.length kv k (x, ao1, cap1) _ rfl (by rfl) HKL.out HO1.out _ rfl (by rfl) hlt ?_; intro w2 own2 gr2)
      have hBf := below_gr hB1 hB1.size gr2 (Nat.le_refl _)
      have hz2 : w.heap.size < w2.heap.size := Nat.lt_of_lt_of_le hg1 gr2.size
      have HK2 : Aside (∀ y ∈ kv ++ [(x, ao1, cap1)], OwnC cellsI 1 3 w2 (w.heap.size + 1) (.slice y.2.1 (y.1).length y.2.2) (y.1)) := fun y hy => by
        rcases List.mem_append.1 hy with hy | hy
        · have h := OwnC.below (HKE.out y hy) hbr
          exact OwnC.apart h gr2 (fun r e hv => by cases e; have := (h.lt _ hv).1; omega)
        · simp at hy
          subst hy
          exact OwnC.apart HS1.out gr2 (fun r e hv => by cases e; have := (HS1.out.lt _ hv).1; omega)
      have HV2 : Aside ((kv ++ [(x, ao1, cap1)]).map (·.1) = l.take (k + 1)) := by
        show _ = _
        rw [List.map_append, HKV.out, take_snoc' hlt HD.out]
        rfl
      clear HOW HO1 HS1 HKE
      go_wp2
      go_roundg (l.length - (k + 1))
      case measure => omega
      case rel => exact ⟨k + 1, kv ++ [(x, ao1, cap1)], by omega, rfl, by go_num, rfl, HV2.out, own2, HK2, hz2, hBf⟩
    · obtain hkk : k = l.length := by omega
      subst hkk
      have HV : Aside (kv.map (·.1) = l) := by
        have := HKV.out
        rwa [List.take_of_length_le (Nat.le_refl _)] at this
      go_wp2
      go_ret
      exact ⟨kv, HV.out, rfl, hown, HKE.out, hB⟩

set_option maxHeartbeats 2000000 in
theorem eachB_own (ao : Option Addr) (cap : Nat) (l : List (Bkg)) (w : World) (hl : BksAt w ao cap l) (hn : l.length ≤ 1000) (hs : ∀ c ∈ l, (c.fol).length ≤ 1000) :
    Calls Tryz.prog 230 #[.slice ao l.length cap, .func (.func 231) #[] #[]] w fun e w' => ∃ kv : List BkV, kv.map (·.1) = l ∧ e = .returned (.slice (some ⟨w.heap.size, 0, none⟩) l.length l.length) ∧ OwnC cellsV 11 37 w' w.heap.size (.slice (some ⟨w.heap.size, 0, none⟩) l.length l.length) kv ∧
      (∀ y ∈ kv, Fo.OwnN w' (w.heap.size + 1) (.slice y.2.1 (y.1.fol).length y.2.2) (y.1.fol)) ∧ Below w.heap.size w w' := by
  have hle := hl.le
  have hmx := hl.max
  unfold maxLen at hmx
  obtain ⟨i0, hi, hi0, hi1, hi2⟩ := info_parts Tryz.infoBk
  have hcf : ∀ (args : Array Value) (wx : World), (callFunc 231 args).run Tryz.prog wx = .ok (.enter 231 args) wx := enters_of Tryz.func231 (by kernel_rfl) rfl
  have HN : Aside (∀ w', w.grownBy w' none → Below w.heap.size w w') := fun w' hg => (Below.refl _ w).grown hg (Nat.le_refl _) (fun j hj => by cases hj)
  have HS : Aside (∀ c ∈ l, (c.fol).length ≤ 1000) := hs
  clear hs
  go_enter Tryz.func230, Tryz.ntmps230
  go_wp2_with (at_make; refine wpList_make_own _ rfl _ _ 30 rfl w.heap.size 37 i0 _ 11 Tryz.underlying30 hi hi0 hi1 .i64 .i64 _ l.length rfl rfl rfl (by rw [hi2]; omega) (by unfold maxLen; omega) (Nat.le_refl _) ?_; intro w0 hown0 hgrow0; have hB0 := HN.out _ hgrow0; have hg0 : w.heap.size < w0.heap.size := (hown0.lt w.heap.size rfl).2; clear hgrow0)
  go_loopg [5, 13] l.length (fun g v i wr => ∃ (k : Nat) (kv : List BkV), k ≤ l.length ∧ g = l.length - k ∧ i = .int .i64 k ∧ v = .slice (some ⟨w.heap.size, 0, none⟩) k l.length ∧ kv.map (·.1) = l.take k ∧ OwnC cellsV 11 37 wr w.heap.size (.slice (some ⟨w.heap.size, 0, none⟩) k l.length) kv ∧ Aside (∀ y ∈ kv, Fo.OwnN wr (w.heap.size + 1) (.slice y.2.1 (y.1.fol).length y.2.2) (y.1.fol)) ∧ w.heap.size < wr.heap.size ∧ Below w.heap.size w wr)
  case atStart => exact ⟨0, [], Nat.zero_le _, rfl, rfl, rfl, rfl, hown0, (fun y hy => by simp at hy), hg0, hB0⟩
  case round =>
    clear hown0 hB0 hg0
    obtain ⟨k, kv, hk, rfl, rfl, rfl, hkv, hown, HKE, hgr, hB⟩ := hrel
    have HKV : Aside (kv.map (·.1) = l.take k) := hkv
    have hkl : kv.length = k := by have := congrArg List.length hkv; rw [List.length_map, List.length_take] at this; omega
    have HKL : Aside (kv.length = k) := hkl
    clear hkv hkl
    by_cases hlt : k < l.length
    · obtain ⟨b, off, x, fo, fc, rfl, hbw, hd, ⟨y0, y1, y2, y3, y4, y5, y6, y7, y8, y9, y10⟩, hfy⟩ := BksAt.get hl hB k hlt
      have HD : Aside (l.drop k = x :: l.drop (k + 1)) := hd
      have hsx : (x.fol).length ≤ 1000 := HS.out x (List.mem_of_mem_drop (by rw [hd]; simp))
      have HOW : Aside (OwnC cellsV 11 37 wr w.heap.size (.slice (some ⟨w.heap.size, 0, none⟩) k l.length) kv) := hown
      have hbx : Below wr.heap.size wr (W.bk wr x fo fc) := bk_below wr x fo fc
      clear hd hown
      go_wp2_with fail
      refine (copied2_own x fo fc _ ?_ hsx).mono ?_
      · exact SlAt.below Fo.REnt.mono hfy hbx
      rintro e w1 ⟨ao1, cap1, rfl, own1, hb1⟩
      have hbr := bvia hbx hb1
      have HS1 : Aside (Fo.OwnN w1 (w.heap.size + 1) (.slice ao1 (x.fol).length cap1) (x.fol)) := OwnC.ahead own1 (by simp; omega)
      have HO1 : Aside (OwnC cellsV 11 37 w1 w.heap.size (.slice (some ⟨w.heap.size, 0, none⟩) kv.length l.length) kv) := by
        have h := OwnC.below HOW.out hbr
        show OwnC cellsV 11 37 w1 w.heap.size (.slice (some ⟨w.heap.size, 0, none⟩) kv.length l.length) kv
        rw [HKL.out]
        exact h
      have hg1 : w.heap.size < w1.heap.size := Nat.lt_of_lt_of_le hgr hbr.size
      have hB1 := bvia hB hbr
      clear own1
      go_wp2_with (at_builtin; refine wpList_app_fit Tryz.infoBk Tryz.underlying30 (by decide) cellsV_len cellsV_one rfl _ _ (by rfl) w.heap.size w.heap.size l.length kv k (x, ao1, cap1) _ rfl (by rfl) HKL.out HO1.out _ rfl (by rfl) hlt ?_; intro w2 own2 gr2)
      have hBf := below_gr hB1 hB1.size gr2 (Nat.le_refl _)
      have hz2 : w.heap.size < w2.heap.size := Nat.lt_of_lt_of_le hg1 gr2.size
      have HK2 : Aside (∀ y ∈ kv ++ [(x, ao1, cap1)], Fo.OwnN w2 (w.heap.size + 1) (.slice y.2.1 (y.1.fol).length y.2.2) (y.1.fol)) := fun y hy => by
        rcases List.mem_append.1 hy with hy | hy
        · have h := OwnC.below (HKE.out y hy) hbr
          exact OwnC.apart h gr2 (fun r e hv => by cases e; have := (h.lt _ hv).1; omega)
        · simp at hy
          subst hy
          exact OwnC.apart HS1.out gr2 (fun r e hv => by cases e; have := (HS1.out.lt _ hv).1; omega)
      have HV2 : Aside ((kv ++ [(x, ao1, cap1)]).map (·.1) = l.take (k + 1)) := by
        show _ = _
        rw [List.map_append, HKV.out, take_snoc' hlt HD.out]
        rfl
      clear HOW HO1 HS1 HKE
      go_wp2
      go_roundg (l.length - (k + 1))
      case measure => omega
      case rel => exact ⟨k + 1, kv ++ [(x, ao1, cap1)], by omega, rfl, by go_num, rfl, HV2.out, own2, HK2, hz2, hBf⟩
    · obtain hkk : k = l.length := by omega
      subst hkk
      have HV : Aside (kv.map (·.1) = l) := by
        have := HKV.out
        rwa [List.take_of_length_le (Nat.le_refl _)] at this
      go_wp2
      go_ret
      exact ⟨kv, HV.out, rfl, hown, HKE.out, hB⟩

end Go.Proofs.YtlamhfbdeinkkaeGreat.St
