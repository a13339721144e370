/- Package anew: Sailing, of a literal that also writes into a cell of its caller's: numbers that it gathers. -/
import Derived.Test.YtlamhfbdeinkkaeGreatStSt
import Derived.Test.YtlamhfbdeinkkaeGreatVmBt
import Derived.Test.YtlamhfbdeinkkaeGreatStXt
import Derived.Test.YtlamhfbdeinkkaeGreatStRt
import Derived.Lib.SliceRun
namespace Go.Proofs.YtlamhfbdeinkkaeGreat.St
open Go.RowKit Bk
set_option linter.unusedSimpArgs false
set_option linter.unusedVariables false
set_option maxRecDepth 10000

/-- All blocks below n but I are as they were. -/
structure Spare (n I : Nat) (w w' : World) : Prop where
  os : w'.os = w.os
  tape : w'.tape = w.tape
  output : w'.output = w.output
  size : w.heap.size ≤ w'.heap.size
  block : ∀ k, k < n → k ≠ I → w'.heap[k]? = w.heap[k]?
theorem Spare.ofBelow {n I : Nat} {w w' : World} (h : Below n w w') : Spare n I w w' := ⟨h.os, h.tape, h.output, h.size, fun k hk _ => h.block k hk⟩
theorem Spare.trans {n I : Nat} {a b c : World} (h : Spare n I a b) (k : Spare n I b c) : Spare n I a c :=
  ⟨k.os.trans h.os, k.tape.trans h.tape, k.output.trans h.output, Nat.le_trans h.size k.size, fun i h1 h2 => (k.block i h1 h2).trans (h.block i h1 h2)⟩
theorem Spare.mono {n m I : Nat} {w w' : World} (h : Spare m I w w') (hn : n ≤ m) : Spare n I w w' := ⟨h.os, h.tape, h.output, h.size, fun k h1 h2 => h.block k (by omega) h2⟩
theorem Spare.below {n N I : Nat} {w w' : World} (h : Spare n I w w') (h1 : N ≤ I) (h2 : N ≤ n) : Below N w w' := ⟨h.os, h.tape, h.output, h.size, fun k hk => h.block k (by omega) (by omega)⟩
theorem Spare.gr {n I g : Nat} {w w' : World} (h : w.grownBy w' (some g)) (hn : n ≤ w.heap.size) (hg : g = I ∨ n ≤ g) : Spare n I w w' := by
  rcases hg with rfl | hg
  · exact ⟨(below_gr (Below.refl 0 w) (Nat.zero_le _) h (Nat.zero_le _)).os, (below_gr (Below.refl 0 w) (Nat.zero_le _) h (Nat.zero_le _)).tape, (below_gr (Below.refl 0 w) (Nat.zero_le _) h (Nat.zero_le _)).output, h.size, fun k h1 h2 => h.block k (by omega) (by simp; omega)⟩
  · exact Spare.ofBelow (below_gr (Below.refl n w) hn h hg)
theorem RowIs.spare {w w' : World} {n I g : Nat} {cs : Array Value} (h : RowIs w g cs) (hb : Spare n I w w') (hg : g < n) (hI : g ≠ I) : RowIs w' g cs := by
  obtain ⟨t, ht⟩ := h
  exact ⟨t, (hb.block g hg hI).trans ht⟩

/-- Numbers that lie where cell I says, in blocks from base on. -/
def IdsAt (w : World) (I base : Nat) (ids : List Int) : Prop := ∃ v, RowIs w I #[v] ∧ OwnJ w base v ids
theorem IdsAt.below {w w' : World} {I base : Nat} {ids : List Int} (h : IdsAt w I base ids) (hb : Below w.heap.size w w') : IdsAt w' I base ids := by
  obtain ⟨v, h1, h3⟩ := h
  exact ⟨v, h1.below hb, OwnC.below h3 hb⟩
theorem IdsAt.gr {w w' : World} {I base g : Nat} {ids : List Int} (h : IdsAt w I base ids) (hg : w.grownBy w' (some g)) (h1 : I ≠ g) (h2 : g < base) : IdsAt w' I base ids := by
  obtain ⟨v, e1, e3⟩ := h
  exact ⟨v, e1.gr hg (by simp [h1]), OwnC.apart e3 hg (fun r hr hv => by
    cases hr
    have := (e3.lt _ hv).1
    omega)⟩
theorem IdsAt.mono {w : World} {I base base' : Nat} {ids : List Int} (h : IdsAt w I base ids) (hb : base' ≤ base) : IdsAt w I base' ids := by
  obtain ⟨v, h1, h3⟩ := h
  exact ⟨v, h1, OwnC.ahead h3 hb⟩

/-- What a function does to a sailing of its own, where it also gathers numbers. -/
def HowIds (p : Nat) (w : World) (x : Sail) (F : Nat) (cs : Array Value) (I : Nat) (y : Sail) (ids : List Int) : Prop :=
  ∀ (w1 : World) (N m G : Nat) (a : SailA) (lv : List BkV), Below w.heap.size w w1 → w.heap.size ≤ N → Fresh w1 N m G x a lv →
    Calls Tryz.prog F (#[.pointer (some ⟨w1.heap.size, 0, none⟩)] ++ cs) (W.sail w1 x a) fun e w' => e = .returned (.int .i64 0) ∧ ∃ a', SRow w' w1.heap.size y a' ∧ (∀ U, Gap p w.heap.size N w' U → SailAt U y a') ∧ Spare m I (W.sail w1 x a) w' ∧ IdsAt w' I m ids

set_option maxHeartbeats 4000000 in
theorem anewIds_any (p I : Nat) (x : Sail) (a : SailA) (F : Nat) (cs : Array Value) (y : Sail) (ids : List Int) (w : World) (hp : p ≤ w.heap.size) (hI : I < w.heap.size) (hs : SailAt w x a) (hS : Small x) (hE : P.SailE y 0)
    (hcf : ∀ (args : Array Value) (wx : World), (callFunc F args).run Tryz.prog wx = .ok (.enter F args) wx) (hH : HowIds p w x F cs I y ids) :
    Calls Tryz.prog 117 #[V.sail x a, .func (.func F) #[] cs] w fun e w' => ∃ a', e = .returned (.tuple #[V.sail y a', .int .i64 0]) ∧ SailUp p w' y a' ∧ Spare w.heap.size I w w' ∧ IdsAt w' I (w.heap.size + 1 + 1) ids := by
  have hb0 : Below w.heap.size w ((W.sail w x a).alloc O.zs) := bvia (sail_below w x a) (by go_grown)
  have hz0 : ((W.sail w x a).alloc O.zs).heap.size = w.heap.size + 1 + 1 := by simp
  have HX0 : Aside (SBox ((W.sail w x a).alloc O.zs) w.heap.size x a) := (SBox.new w x a).below (by go_grown)
  have HZ0 : Aside (RowIs ((W.sail w x a).alloc O.zs) (w.heap.size + 1) C.zs) := by
    have := RowIs.new (W.sail w x a) C.zs 32
    rwa [World.size_alloc] at this
  have HH : Aside (HowIds p w x F cs I y ids) := hH
  have HE : Aside (P.SailE y 0) := hE
  have HI : Aside (I < w.heap.size) := hI
  obtain ⟨d0, d1, d2, d3, d4, d5, d6, d7, d8, d9, d10, d11, d12⟩ := HX0.out
  clear hH hE hI
  go_enter Tryz.func117, Tryz.ntmps117
  go_wp2_with fail
  refine (copied_own x a _ (hs.below hb0) hS).mono ?_
  rintro e w1 ⟨a1, lv, m, G, rfl, hF, hb1⟩
  rw [hz0] at hF
  have hB1 := bvia hb0 hb1
  have hB2 := bvia hB1 (sail_below w1 x a1)
  have HC : Aside (Calls Tryz.prog F (#[.pointer (some ⟨w1.heap.size, 0, none⟩)] ++ cs) (W.sail w1 x a1) _) := HH.out w1 (w.heap.size + 1 + 1 + 1 + 1) m G a1 lv hB1 (by omega) hF
  have HM : Aside (w.heap.size + 1 + 1 + 1 + 1 ≤ m) := hF.nm
  have HZ2 : Aside (RowIs (W.sail w1 x a1) (w.heap.size + 1) C.zs) := (HZ0.out.below hb1).below (sail_below w1 x a1)
  clear d0 d1 d2 d3 d4 d5 d6 d7 d8 d9 d10 d11 d12 hF HX0 HZ0 hb0 hb1 hB1 HH
  go_wp2_with fail
  refine HC.out.mono ?_
  rintro e w2 ⟨rfl, a2, hR2, hU2, hsp, hids⟩
  have HZ3 : Aside (RowIs w2 (w.heap.size + 1) C.zs) := HZ2.out.spare hsp (by have := HM.out; omega) (by have := HI.out; omega)
  have HSP : Aside (Spare w.heap.size I w w2) := (Spare.ofBelow hB2).trans (hsp.mono (by have := HM.out; omega))
  have HID : Aside (IdsAt w2 I (w.heap.size + 1 + 1) ids) := hids.mono (by have := HM.out; omega)
  have HU : Aside (∀ U, Gap p w.heap.size (w.heap.size + 1 + 1 + 1 + 1) w2 U → SailAt U y a2) := hU2
  have HR2 : Aside (SRow w2 w1.heap.size y a2) := hR2
  obtain ⟨d0, d1, d2, d3, d4, d5, d6, d7, d8, d9, d10, d11, d12⟩ := SRow.box hR2
  clear HC hB2 hU2 hR2 hsp hids HZ2
  go_wp2_with fail
  refine (stockCheck_any y a2 _ (HU.out _ (Gap.refl _))).mono ?_
  rintro e w3 ⟨q, rfl, hq, hb3⟩
  obtain rfl := SailE.one HE.out hq
  have HG3 : Aside (Gap p w.heap.size (w.heap.size + 1 + 1 + 1 + 1) w2 w3) := Gap.below hb3
  have HR3 : Aside (SRow w3 w1.heap.size y a2) := HR2.out.below hb3
  have HZ4 : Aside (RowIs w3 (w.heap.size + 1) C.zs) := HZ3.out.below hb3
  have HS3 : Aside (Spare w.heap.size I w w3) := HSP.out.trans (Spare.ofBelow (hb3.mono (HSP.out.size)))
  have HI3 : Aside (IdsAt w3 I (w.heap.size + 1 + 1) ids) := HID.out.below hb3
  clear d0 d1 d2 d3 d4 d5 d6 d7 d8 d9 d10 d11 d12 hq HZ3 hb3 HR2 HSP HID
  obtain ⟨d0, d1, d2, d3, d4, d5, d6, d7, d8, d9, d10, d11, d12⟩ := SRow.box HR3.out
  go_wp2_with (refine wpList_stC rfl 32 _ _ (by rfl) (w.heap.size + 1) C.zs (C.sail y a2) Tryz.sizeSail (by rfl) (by rfl) HZ4.out rfl (sail_one _ _) ?_; intro w9 hr9 hg9)
  exact bodyPost_ret (res2 rfl hr9 _ rfl rfl Tryz.underlying32 rfl Tryz.sizeSail) rfl ⟨a2, rfl, fun U hU => HU.out _ (Gap.trans HG3.out (Gap.trans (Gap.gr hg9 (by omega) (by omega)) (Gap.up hU (by omega)))), HS3.out.trans (Spare.gr hg9 HS3.out.size (.inr (by omega))), HI3.out.gr hg9 (by have := HI.out; omega) (by omega)⟩

end Go.Proofs.YtlamhfbdeinkkaeGreat.St
namespace Go.Proofs.YtlamhfbdeinkkaeGreat.St
open Go.RowKit Bk
set_option linter.unusedSimpArgs false
set_option linter.unusedVariables false
set_option maxRecDepth 10000

abbrev V.edg (x : Int × Int) : Value := .agg #[.int .i64 x.1, .int .i64 x.2]
abbrev GAt (w : World) (ao : Option Addr) (cap : Nat) (l : List (Int × Int)) : Prop := SlAt (RC cellsG) 2 w ao cap l
theorem GAt.get {w w' : World} {ao : Option Addr} {cap : Nat} {l : List (Int × Int)} (h : GAt w ao cap l) (hb : Below w.heap.size w w') (k : Nat) (hk : k < l.length) :
    ∃ b off x, ao = some ⟨b, off, none⟩ ∧ b < w.heap.size ∧ l.drop k = x :: l.drop (k + 1) ∧ w'.cell? ⟨b, off + k * 2, none⟩ = some (.int .i64 x.1) ∧ w'.cell? ⟨b, off + k * 2 + 1, none⟩ = some (.int .i64 x.2) := by
  obtain ⟨b, off, x, cs, h1, h2, h3, h4, h5, h6⟩ := SlAt.get (RC.mono _) h hb k hk
  have hcs : cs = cellsG x := h4
  subst hcs
  exact ⟨b, off, x, h1, h2, h3, h6 0 _ rfl, h6 1 _ rfl⟩
theorem drop_at {α : Type} {l : List α} {k : Nat} {x : α} {t : List α} (h : l.drop k = x :: t) : l[k]? = some x := by
  have h0 := congrArg (fun l => l[0]?) h
  simpa using h0

set_option maxHeartbeats 2000000 in
theorem gIdx_any (ao : Option Addr) (cap : Nat) (l : List (Int × Int)) (F : Nat) (cs : Array Value) (p : Int × Int → Bool) (w : World) (hl : GAt w ao cap l)
    (hcf : ∀ (args : Array Value) (wx : World), (callFunc F args).run Tryz.prog wx = .ok (.enter F args) wx)
    (hp : Hid (∀ (x : Int × Int) (wx : World), Below w.heap.size w wx → Calls Tryz.prog F (#[V.edg x] ++ cs) wx fun e w' => e = .returned (.bool (p x)) ∧ Below wx.heap.size wx w')) :
    Calls Tryz.prog 245 #[.slice ao l.length cap, .func (.func F) #[] cs] w fun e w' => ∃ n : Int, e = .returned (.int .i64 n) ∧ ((∃ (k : Nat) (b : Int × Int), n = k ∧ l[k]? = some b ∧ p b = true ∧ ∀ z ∈ l.take k, p z = false) ∨ (n = -1 ∧ ∀ b ∈ l, p b = false)) ∧ Below w.heap.size w w' := by
  have hle := hl.le
  have hmx := hl.max
  unfold maxLen at hmx
  go_enter Tryz.func245, Tryz.ntmps245
  go_wp2
  go_loopg [8] l.length (fun g i wr => ∃ (k : Nat), k ≤ l.length ∧ g = l.length - k ∧ i = .int .i64 k ∧ Aside (∀ b ∈ l.take k, p b = false) ∧ Below w.heap.size w wr)
  case atStart => exact ⟨0, Nat.zero_le _, rfl, rfl, (fun b hb => by simp at hb), Below.refl _ _⟩
  case round =>
    obtain ⟨k, hk, rfl, rfl, HP, hB⟩ := hrel
    by_cases hlt : k < l.length
    · obtain ⟨b, off, x, rfl, hbw, hd, y0, y1⟩ := GAt.get hl hB k hlt
      have HX : Aside (l[k]? = some x) := drop_at hd
      have HT : Aside (l.take (k + 1) = l.take k ++ [x]) := take_snoc' hlt hd
      clear hd
      cases hpf : p x
      · have HP2 : Aside (∀ b ∈ l.take (k + 1), p b = false) := fun b hb => by
          rw [HT.out] at hb
          rcases List.mem_append.1 hb with h | h
          · exact HP.out b h
          · simp at h
            rw [h]
            exact hpf
        go_wp2_with fail
        refine (hp.out x _ hB).mono ?_
        rintro e w1 ⟨rfl, hb1⟩
        rw [hpf]
        go_wp2
        go_roundg (l.length - (k + 1))
        case measure => omega
        case rel => exact ⟨k + 1, by omega, rfl, by go_num, HP2, bvia hB hb1⟩
      · have HPF : Aside (p x = true) := hpf
        go_wp2_with fail
        refine (hp.out x _ hB).mono ?_
        rintro e w1 ⟨rfl, hb1⟩
        rw [hpf]
        go_wp2
        go_ret
        exact ⟨_, rfl, .inl ⟨k, x, rfl, HX.out, HPF.out, HP.out⟩, bvia hB hb1⟩
    · obtain rfl : k = l.length := by omega
      have HA : Aside (∀ b ∈ l, p b = false) := fun b hb => HP.out b (by rw [List.take_of_length_le (Nat.le_refl _)]; exact hb)
      go_wp2
      go_ret
      exact ⟨_, rfl, .inr ⟨rfl, HA.out⟩, hB⟩

theorem ownC_row {α : Type} {cells : α → List Value} {size : Nat} {e : TypeId} {w : World} {base G cap n : Nat} {lv : List α} (h : OwnC cells size e w base (.slice (some ⟨G, 0, none⟩) n cap) lv) : ∃ cur, w.heap[G]? = some (.cells cur e (0, 0)) ∧ cur.size = cap * size ∧ n ≤ cap ∧ base ≤ G ∧ cap ≤ maxLen ∧ cur.toList.take (lv.length * size) = lv.flatMap cells ∧ n = lv.length := by
  obtain ⟨hx, h2⟩ := h
  rcases h2 with ⟨h3, _⟩ | ⟨g', cap', cur, hv, hgb, hh, hn', hcm, hsz, htk⟩
  · simp at h3
  · simp only [Value.slice.injEq, Option.some.injEq, Addr.mk.injEq, and_true] at hv
    obtain ⟨rfl, rfl, rfl⟩ := hv
    exact ⟨cur, hh, hsz, hn', hgb, hcm, htk, rfl⟩
theorem Tryz.sizeEdg : (Tryz.prog.info? 85).map (·.size) = some 2 := by kernel_rfl
theorem own_thereG {w : World} {base G cap n k : Nat} {lv : List (Int × Int)} (h : OwnG w base (.slice (some ⟨G, 0, none⟩) n cap) lv) (hk : k < n) : w.there G (k * 2) 2 := by
  obtain ⟨cur, h1, h2, h3, _⟩ := ownC_row h
  intro j hj
  have hlt : k * 2 + j < cur.size := by omega
  refine ⟨?_, by simp [World.frozen?, h1]⟩
  rw [cell_of_row w G (k * 2 + j) cur _ (0, 0) h1, Array.getElem?_eq_getElem hlt]
  rfl
theorem wpList_stG {ops : Array Oper} {rest : List Oper} {act : Act} {Q : Exit → Act → World → Prop} {w : World} {ty tt : TypeId} {x y : Operand} {pos : String} {af : Array Edge}
    (G k n cap base : Nat) (lv : List (Int × Int)) (z : Int × Int) (hty : (Tryz.prog.info? ty).map (·.size) = some 2) (hx : act.eval x = .pointer (some ⟨G, k * 2, none⟩)) (hy : act.eval y = .agg (cellsG z).toArray) (hO : OwnG w base (.slice (some ⟨G, 0, none⟩) n cap) lv) (hn : lv.length = n) (hk : k < n)
    (h : ∀ w', OwnG w' base (.slice (some ⟨G, 0, none⟩) n cap) (lv.set k z) → w.grownBy w' (some G) → wpList Tryz.prog ops Q rest (act.put none undef) w') : wpList Tryz.prog ops Q ({ dst := none, op := .store ty x y, type := tt, pos := pos, after := af, guard := none } :: rest) act w := by
  have hl : (cellsG z).toArray.size = 2 := by rw [List.size_toArray]; exact cellsG_len z
  subst hn
  have hp := own_put cellsG_len cellsG_one hO k z hk
  rw [List.length_set] at hp
  refine wpList_store_mid rfl ty x y rfl G (k * 2) (cellsG z).toArray hx hy (by rw [hl]; exact own_thereG hO hk) (by rw [hl]; exact hty) (all_oneCell_toArray (cellsG_one z)) ?_
  exact h _ hp.1 hp.2

/-- 'clear' of what lies behind the first i edges. -/
theorem run_clear_edges (w : World) (ty : TypeId) (b o n c : Nat) (hn : 0 < n) (hc : ∀ j, j < n * 2 → (w.cell? ⟨b, o + j, none⟩).isSome = true) (hf : ∀ j, j < n * 2 → w.frozen? ⟨b, o + j, none⟩ = false) :
    ∃ cs : List Value, cs.length = n * 2 ∧ (∀ v ∈ cs, v.oneCell' = true) ∧ (Builtin.clear_ #[65] ty #[.slice (some ⟨b, o, none⟩) n c]).run Tryz.prog w = .ok (.tuple #[]) (w.setCells b o cs) := by
  obtain ⟨i0, hi, hi0, hi1, hi2⟩ := info_parts Tryz.infoG
  have hv : ∀ w, (zeroValue 85).run Tryz.prog w = .ok (.agg #[.int .i64 0, .int .i64 0]) w := fun w => by simp [zeroValue, typeInfo, hi, hi0]
  let cs := (Builtin.zeroCells (Value.agg #[.int .i64 0, .int .i64 0]).cells n).toList
  have hl : cs.length = n * 2 := by simp [cs, Builtin.zeroCells, Value.cells]
  have h1 : ∀ v ∈ cs, v.oneCell' = true := fun v hv => by
    simp only [cs, Builtin.zeroCells, Value.cells, Array.toList_map, List.mem_map] at hv
    obtain ⟨i, _, rfl⟩ := hv
    rcases Nat.mod_two_eq_zero_or_one i with h | h <;> simp [h] <;> rfl
  have hst := run_storeCells_cells (P := Tryz.prog) b o cs 0 w (by rw [hl]; simpa using hc) (by rw [hl]; simpa using hf) h1
  simp only [Nat.add_zero] at hst
  refine ⟨cs, hl, h1, ?_⟩
  obtain ⟨m, rfl⟩ : ∃ m, n = m + 1 := ⟨n - 1, by omega⟩
  have hu : Tryz.prog.underlying 65 = some (.slice 85) := Tryz.underlying65
  simp [Builtin.clear_, run_underlying hu, hv]
  rw [show (Builtin.zeroCells (Value.agg #[.int .i64 0, .int .i64 0]).cells (m + 1)).toList = cs from rfl, hst]
  rfl
theorem own_cut {w : World} {base G cap n i : Nat} {lv : List (Int × Int)} {cs : List Value} (h : OwnG w base (.slice (some ⟨G, 0, none⟩) n cap) lv) (hi : i ≤ n) (hl : cs.length = (n - i) * 2) (h1 : ∀ v ∈ cs, v.oneCell' = true) :
    OwnG (w.setCells G (i * 2) cs) base (.slice (some ⟨G, 0, none⟩) i cap) (lv.take i) ∧ w.grownBy (w.setCells G (i * 2) cs) (some G) := by
  obtain ⟨cur, hh, hsz, hn, hgb, hcm, htk, rfl⟩ := ownC_row h
  have hlm : lv.length * 2 ≤ cap * 2 := Nat.mul_le_mul_right 2 hn
  have er := setCells_row w G (i * 2) _ cs cur hh (by rw [hl, hsz]; omega) h1
  rw [er]
  have hcl : cur.toList.length = cap * 2 := by simpa using hsz
  have hti : (lv.take i).length = i := by rw [List.length_take]; omega
  refine ⟨⟨by rw [flatC_len cellsG_len], Or.inr ⟨G, cap, _, by rw [hti], hgb, setRow_heap w G cur _ _ (0, 0) hh, by rw [hti]; omega, hcm, ?_, ?_⟩⟩, ⟨rfl, rfl, rfl, by simp, fun j hj hne => setRow_other w G j _ (fun e => hne (by rw [e]))⟩⟩
  · simp only [List.size_toArray, List.length_append, List.length_take, List.length_drop, Array.length_toList, hl, hsz]
    omega
  · rw [hti]
    show ((cur.toList.take (i * 2) ++ cs) ++ cur.toList.drop (i * 2 + cs.length)).take (i * 2) = _
    rw [List.append_assoc, List.take_append, List.take_take, Nat.min_self, List.length_take, Nat.min_eq_left (by omega), Nat.sub_self, List.take_zero, List.append_nil]
    have e1 : cur.toList.take (i * 2) = (cur.toList.take (lv.length * 2)).take (i * 2) := by rw [List.take_take, Nat.min_eq_left (by omega)]
    rw [e1, htk]
    have e2 : lv.flatMap cellsG = (lv.take i).flatMap cellsG ++ (lv.drop i).flatMap cellsG := by rw [← List.flatMap_append, List.take_append_drop]
    have e3 : ((lv.take i).flatMap cellsG).length = i * 2 := by rw [flatC_len cellsG_len, hti]
    rw [e2, List.take_append, List.take_of_length_le (by omega), e3, Nat.sub_self, List.take_zero, List.append_nil]

end Go.Proofs.YtlamhfbdeinkkaeGreat.St
