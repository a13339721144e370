/- Package sell: unused, offers, Offers. -/
import Derived.Test.YtlamhfbdeinkkaeGreatSeGr
namespace Go.Proofs.YtlamhfbdeinkkaeGreat.St
open Go.RowKit Bk
set_option linter.unusedSimpArgs false
set_option linter.unusedVariables false
set_option maxRecDepth 10000

/-- The least number that is not there. -/
structure LeastIs (l : List Bkg) (n : Int) : Prop where
  pos : 1 ≤ n
  all : ∀ m, 1 ≤ m → m < n → P.isIn m l = true
  out : P.isIn n l = false
theorem LeastIs.one {l : List Bkg} {n m : Int} (h : LeastIs l n) (k : LeastIs l m) : n = m := by
  rcases Int.lt_trichotomy n m with hlt | rfl | hlt
  · have := k.all n h.pos hlt
    rw [h.out] at this
    cases this
  · rfl
  · have := h.all m k.pos hlt
    rw [k.out] at this
    cases this
theorem isIn_snoc (m : Int) (l : List Bkg) (y : Bkg) : P.isIn m (l ++ [y]) = (P.isIn m l || decide (y.id = m)) := by
  simp [P.isIn, List.any_append]

set_option maxHeartbeats 2000000 in
theorem unused_any (x : Sail) (a : SailA) (w : World) (hs : SailAt w x a) (h16 : x.bks.length ≤ 1000) (hr : x.bks.Pairwise (fun a b => a.id < b.id)) :
    Calls Tryz.prog 62 #[V.sail x a] w fun e w' => ∃ n : Int, e = .returned (.int .i64 n) ∧ LeastIs x.bks n ∧ Below w.heap.size w w' := by
  have hle := hs.bks.le
  have hmx := hs.bks.max
  unfold maxLen at hmx
  have hb0 := sel_below w x a
  have hbx : SBox (W.sel w x a) w.heap.size x a := SRow.box (sel_row w x a)
  obtain ⟨d0, d1, d2, d3, d4, d5, d6, d7, d8, d9, d10, d11, d12⟩ := hbx
  have HR : Aside (x.bks.Pairwise (fun a b => a.id < b.id)) := hr
  clear hr
  go_enter Tryz.func62, Tryz.ntmps62
  go_wp2
  clear d0 d1 d2 d3 d4 d5 d6 d7 d8 d9 d10 d11 d12
  go_loopg [3, 10] x.bks.length (fun g nv iv wr => ∃ (k : Nat) (n : Nat), k ≤ x.bks.length ∧ g = x.bks.length - k ∧ iv = .int .i64 k ∧ nv = .int .i64 n ∧ n ≤ k + 1 ∧ Aside (LeastIs (x.bks.take k) n) ∧ Below w.heap.size w wr)
  case atStart => exact ⟨0, 1, Nat.zero_le _, rfl, rfl, rfl, by omega, ⟨by decide, fun m h1 h2 => by have h2 : m < 1 := h2; omega, rfl⟩, hb0⟩
  case round =>
    clear hb0
    obtain ⟨k, n, hk, rfl, rfl, rfl, hnk, HL, hB⟩ := hrel
    by_cases hlt : k < x.bks.length
    · obtain ⟨b, off, y, fo, fc, hao, hbw, hd, ⟨y0, y1, y2, y3, y4, y5, y6, y7, y8, y9, y10⟩, hfy⟩ := BksAt.get hs.bks hB k hlt
      have HAO : Aside (a.ao = some ⟨b, off, none⟩) := hao
      rw [hao]
      have hkl : (k : Int) < x.bks.length := by omega
      have ht : x.bks.take (k + 1) = x.bks.take k ++ [y] := take_snoc' hlt hd
      have hba := bk_below wr y fo fc
      cases hy : (y.id == (n : Int))
      · have HL2 : Aside (LeastIs (x.bks.take (k + 1)) n) := by
          have hne : y.id ≠ (n : Int) := by simpa using hy
          obtain ⟨h1, h2, h3⟩ := HL.out
          rw [ht]
          exact ⟨h1, fun m hm1 hm2 => by rw [isIn_snoc, h2 m hm1 hm2]; rfl, by rw [isIn_snoc, h3]; simp [hne]⟩
        clear HL ht hd hao hfy
        go_wp2
        rw [← HAO.out]
        go_roundg (x.bks.length - (k + 1))
        case measure => omega
        case rel => exact ⟨k + 1, n, by omega, rfl, by go_num, rfl, by omega, HL2, bvia hB hba⟩
      · have HL2 : Aside (LeastIs (x.bks.take (k + 1)) ((n + 1 : Nat) : Int)) := by
          have he : y.id = (n : Int) := by simpa using hy
          obtain ⟨h1, h2, h3⟩ := HL.out
          have hlow : ∀ z ∈ x.bks.take k, z.id < (n : Int) := fun z hz => by
            have hr := HR.out
            rw [← List.take_append_drop k x.bks, List.pairwise_append, hd] at hr
            have := hr.2.2 z hz y (by simp)
            omega
          rw [ht]
          refine ⟨by omega, fun m hm1 hm2 => ?_, ?_⟩
          · rw [isIn_snoc]
            rcases Int.lt_or_le m n with h | h
            · rw [h2 m hm1 h]; rfl
            · have : m = (n : Int) := by omega
              simp [he, this]
          · rw [isIn_snoc]
            have : P.isIn ((n + 1 : Nat) : Int) (x.bks.take k) = false := List.any_eq_false.2 (fun z hz => by have := hlow z hz; simp; omega)
            rw [this]
            simp [he]
            omega
        clear HL ht hd hao hfy
        go_wp2
        rw [← HAO.out]
        go_roundg (x.bks.length - (k + 1))
        case measure => omega
        case rel => exact ⟨k + 1, n + 1, by omega, rfl, by go_num, by go_num, by omega, HL2, bvia hB hba⟩
    · obtain rfl : k = x.bks.length := by omega
      have HL2 : Aside (LeastIs x.bks n) := by
        have := HL.out
        rwa [List.take_of_length_le (Nat.le_refl _)] at this
      go_wp2
      go_ret
      exact ⟨n, rfl, HL2.out, hB⟩

/-- In another cabin. -/
def P.setC (b : Bkg) (c : Int) : Bkg := ⟨b.id, b.kind, b.state, b.guests, b.level, c, b.cat, b.frm, b.to, b.til, b.fol⟩
/-- I2: the cabins, of the first n, that would be sold. -/
structure OffIs (x : Sail) (b : Bkg) (n : Nat) (l : List Int) : Prop where
  up : l.Pairwise (· < ·)
  lo : ∀ z ∈ l, 0 ≤ z ∧ z < n
  iff : ∀ c : Nat, c < n → ((c : Int) ∈ l ↔ ∃ y, P.Sells 1 x (P.setC b c) 0 y)
theorem OffIs.nil (x : Sail) (b : Bkg) : OffIs x b 0 [] := ⟨by simp, by simp, fun c hc => by omega⟩
theorem OffIs.hit {x : Sail} {b : Bkg} {n : Nat} {l : List Int} {y : Sail} (h : OffIs x b n l) (hy : P.Sells 1 x (P.setC b n) 0 y) : OffIs x b (n + 1) (l ++ [(n : Int)]) := by
  refine ⟨List.pairwise_append.2 ⟨h.up, by simp, fun a ha c hc => ?_⟩, fun z hz => ?_, fun c hc => ?_⟩
  · simp at hc
    subst hc
    exact (h.lo a ha).2
  · rcases List.mem_append.1 hz with hz | hz
    · have := h.lo z hz; omega
    · simp at hz; omega
  · rw [List.mem_append]
    rcases Nat.lt_or_ge c n with h1 | h1
    · rw [h.iff c h1]
      constructor
      · rintro (h2 | h2)
        · exact h2
        · simp at h2; omega
      · exact .inl
    · obtain rfl : c = n := by omega
      exact ⟨fun _ => ⟨y, hy⟩, fun _ => .inr (by simp)⟩
theorem OffIs.miss {x : Sail} {b : Bkg} {n : Nat} {l : List Int} {r : Int} {y : Sail} (h : OffIs x b n l) (hy : P.Sells 1 x (P.setC b n) r y) (hr : ¬ r = 0) : OffIs x b (n + 1) l := by
  refine ⟨h.up, fun z hz => ?_, fun c hc => ?_⟩
  · have := h.lo z hz; omega
  · rcases Nat.lt_or_ge c n with h1 | h1
    · exact h.iff c h1
    · obtain rfl : c = n := by omega
      refine ⟨fun h2 => ?_, fun ⟨y', h2⟩ => ?_⟩
      · have := (h.lo _ h2).2; omega
      · exact absurd (Sells.one hy h2).1 hr
theorem sorted_ext {a b : List Int} (ha : a.Pairwise (· < ·)) (hb : b.Pairwise (· < ·)) (h : ∀ z, z ∈ a ↔ z ∈ b) : a = b := by
  induction a generalizing b with
  | nil =>
    cases b with
    | nil => rfl
    | cons y t => exact absurd ((h y).2 (by simp)) (by simp)
  | cons x s ih =>
    cases b with
    | nil => exact absurd ((h x).1 (by simp)) (by simp)
    | cons y t =>
      obtain ⟨a1, a2⟩ := List.pairwise_cons.1 ha
      obtain ⟨b1, b2⟩ := List.pairwise_cons.1 hb
      have hxy : x = y := by
        rcases List.mem_cons.1 ((h x).1 (by simp)) with e | hx
        · exact e
        · rcases List.mem_cons.1 ((h y).2 (by simp)) with e | hy
          · exact e.symm
          · have := a1 y hy; have := b1 x hx; omega
      subst hxy
      congr 1
      refine ih a2 b2 (fun z => ?_)
      have hz := h z
      simp only [List.mem_cons] at hz
      constructor
      · intro hs
        rcases hz.1 (.inr hs) with e | ht
        · have := a1 z hs; omega
        · exact ht
      · intro ht
        rcases hz.2 (.inr ht) with e | hs
        · have := b1 z ht; omega
        · exact hs
theorem OffIs.one {x : Sail} {b : Bkg} {n : Nat} {l l' : List Int} (h : OffIs x b n l) (h' : OffIs x b n l') : l = l' := by
  refine sorted_ext h.up h'.up (fun z => ?_)
  constructor
  · intro hz
    have hb := h.lo z hz
    obtain ⟨c, rfl⟩ : ∃ c : Nat, z = c := ⟨z.toNat, by omega⟩
    exact (h'.iff c (by omega)).2 ((h.iff c (by omega)).1 hz)
  · intro hz
    have hb := h'.lo z hz
    obtain ⟨c, rfl⟩ : ∃ c : Nat, z = c := ⟨z.toNat, by omega⟩
    exact (h.iff c (by omega)).2 ((h'.iff c (by omega)).1 hz)
theorem OffIs.len {x : Sail} {b : Bkg} {n : Nat} {l : List Int} (h : OffIs x b n l) : l.length ≤ n := by
  have hnd : l.Nodup := by
    rw [List.nodup_iff_pairwise_ne]
    exact (List.pairwise_iff_getElem.2 fun i j hi hj hij => by have := List.pairwise_iff_getElem.1 h.up i j hi hj hij; omega)
  exact Ma.pigeon n l hnd (fun z hz => h.lo z hz)

set_option maxHeartbeats 8000000 in
theorem offers_own (x : Sail) (a : SailA) (b : Bkg) (fo : Option Addr) (fc : Nat) (w : World) (hs : SailAt w x a) (hE : P.SailE x 0) (hf : Fo.EntsAt w fo fc b.fol) :
    Calls Tryz.prog 61 #[V.sail x a, V.bk b fo fc] w fun e w' => ∃ v l, e = .returned v ∧ OwnJ w' w.heap.size v l ∧ OffIs x b x.s.bs.length l ∧ Below w.heap.size w w' := by
  obtain ⟨_, _, h0, _⟩ := sail_ok hE
  have hbs := (shp_size h0).2.2.2.2.2.2.2
  have HS : Aside (SailAt w x a) := hs
  have HE : Aside (P.SailE x 0) := hE
  have HF : Aside (Fo.EntsAt w fo fc b.fol) := hf
  have hb0 : Below w.heap.size w (W.bk (W.sel w x a) b fo fc) := bvia (sel_below w x a) (bk_below _ b fo fc)
  have HX0 : Aside (SRow (W.bk (W.sel w x a) b fo fc) w.heap.size x a) := (sel_row w x a).below (bk_below _ b fo fc)
  have HY0 : Aside (RowIs (W.bk (W.sel w x a) b fo fc) (w.heap.size + 1) (C.bk (P.setC b b.cabin) fo fc)) := by
    have := RowIs.new (W.sel w x a) (C.bk b fo fc) 37
    rwa [World.size_alloc] at this
  clear hs hE hf h0
  obtain ⟨d0, d1, d2, d3, d4, d5, d6, d7, d8, d9, d10, d11, d12⟩ := SRow.box HX0.out
  go_enter Tryz.func61, Tryz.ntmps61
  go_wp2
  clear d0 d1 d2 d3 d4 d5 d6 d7 d8 d9 d10 d11 d12
  go_loopg [5, 14] x.s.bs.length (fun g v iv wr => ∃ (k : Nat) (l : List Int) (c0 : Int), k ≤ x.s.bs.length ∧ g = x.s.bs.length - k ∧ iv = .int .i64 k ∧ OwnJ wr (w.heap.size + 1 + 1) v l ∧ Aside (OffIs x b k l) ∧ SRow wr w.heap.size x a ∧ RowIs wr (w.heap.size + 1) (C.bk (P.setC b c0) fo fc) ∧ Below w.heap.size w wr)
  case atStart => exact ⟨0, [], b.cabin, Nat.zero_le _, rfl, rfl, OwnC.nil _ _, OffIs.nil x b, HX0.out, HY0.out, hb0⟩
  case round =>
    clear HX0 HY0 hb0
    obtain ⟨k, l, c0, hk, rfl, rfl, hown, HOF, hX, hY, hB⟩ := hrel
    by_cases hlt : k < x.s.bs.length
    · have hkl : (k : Int) < x.s.bs.length := by omega
      have hX5 := hX.lt
      have hYl := hY.lt
      have hg := grown_st wr (w.heap.size + 1) 5 (.int .i64 (k : Int))
      have hX1 : SRow (wr.setCell ⟨w.heap.size + 1, 5, none⟩ (.int .i64 (k : Int))) w.heap.size x a := hX.gr hg (by simp)
      have hY1 : RowIs (wr.setCell ⟨w.heap.size + 1, 5, none⟩ (.int .i64 (k : Int))) (w.heap.size + 1) (C.bk (P.setC b k) fo fc) := hY.set (k := 5) _
      have hB1 : Below w.heap.size w (wr.setCell ⟨w.heap.size + 1, 5, none⟩ (.int .i64 (k : Int))) := below_gr hB hB.size hg (by omega)
      have HO1 : Aside (OwnJ (wr.setCell ⟨w.heap.size + 1, 5, none⟩ (.int .i64 (k : Int))) (w.heap.size + 1 + 1) _ l) := OwnC.apart hown hg (fun r e hv => by cases e; have := (hown.lt _ hv).1; omega)
      have HX1 : Aside (SRow (wr.setCell ⟨w.heap.size + 1, 5, none⟩ (.int .i64 (k : Int))) w.heap.size x a) := hX1
      have HY1 : Aside (RowIs (wr.setCell ⟨w.heap.size + 1, 5, none⟩ (.int .i64 (k : Int))) (w.heap.size + 1) (C.bk (P.setC b k) fo fc)) := hY1
      obtain ⟨d0, d1, d2, d3, d4, d5, d6, d7, d8, d9, d10, d11, d12⟩ := SRow.box hX
      obtain ⟨z0, z1, z2, z3, z4, z5, z6, z7, z8, z9, z10⟩ := hY.bbox
      have f5 := hY.free 5
      clear hX hY hown hg hX1 hY1 hB
      go_wp2_with fail
      refine (named_sells x a (P.setC b k) fo fc _ (HS.out.below hB1) HE.out (SlAt.below Fo.REnt.mono HF.out hB1)).mono ?_
      rintro e w1 ⟨r, y, a1, rfl, hS1, hU1, hb1⟩
      have hbs1 : Below w1.heap.size w1 (W.sail w1 y a1) := sail_below w1 y a1
      have hb2 := bvia hb1 hbs1
      have hX2 : SRow (W.sail w1 y a1) w.heap.size x a := HX1.out.below hb2
      have hY2 : RowIs (W.sail w1 y a1) (w.heap.size + 1) (C.bk (P.setC b k) fo fc) := HY1.out.below hb2
      have HO2 : Aside (OwnJ (W.sail w1 y a1) (w.heap.size + 1 + 1) _ l) := OwnC.below HO1.out hb2
      have hB2 := bvia hB1 hb2
      have HS1 : Aside (P.Sells 1 x (P.setC b k) r y) := hS1
      have hl16 : l.length ≤ 1000 := by have := HOF.out.len; omega
      have hz2 : w.heap.size + 1 + 1 ≤ (W.sail w1 y a1).heap.size := hY2.lt
      clear d0 d1 d2 d3 d4 d5 d6 d7 d8 d9 d10 d11 d12 z0 z1 z2 z3 z4 z5 z6 z7 z8 z9 z10 f5 hS1 hU1 hb1 HX1 HY1 HO1
      cases hr : (r == 0)
      · have HOF2 : Aside (OffIs x b (k + 1) l) := HOF.out.miss HS1.out (by simpa using hr)
        clear HOF
        go_wp2
        go_roundg (x.s.bs.length - (k + 1))
        case measure => omega
        case rel => exact ⟨k + 1, l, k, by omega, rfl, by go_num, HO2.out, HOF2, hX2, hY2, hB2⟩
      · obtain rfl : r = 0 := by simpa using hr
        have HOF2 : Aside (OffIs x b (k + 1) (l ++ [(k : Int)])) := HOF.out.hit HS1.out
        clear HOF
        go_wp2_with (at_builtin; refine wpList_app_int rfl _ _ (by rfl) (w.heap.size + 1 + 1) _ l (k : Int) (by rfl) HO2.out (w1.heap.size + 1) (by simp) (by rfl) hz2 (by omega) ?_; intro v3 w3 own3 gr3)
        have hX3 : SRow w3 w.heap.size x a := hX2.gr gr3 (fun e => by have := (HO2.out.lt _ e.symm).1; omega)
        have hY3 : RowIs w3 (w.heap.size + 1) (C.bk (P.setC b k) fo fc) := hY2.gr gr3 (fun e => by have := (HO2.out.lt _ e.symm).1; omega)
        have hB3 : Below w.heap.size w w3 := hB2.grown gr3 hB2.size (fun j hj => by have := (HO2.out.lt _ hj).1; omega)
        clear HO2
        go_wp2
        go_roundg (x.s.bs.length - (k + 1))
        case measure => omega
        case rel => exact ⟨k + 1, l ++ [(k : Int)], k, by omega, rfl, by go_num, own3, HOF2, hX3, hY3, hB3⟩
    · obtain rfl : k = x.s.bs.length := by omega
      have HOW : Aside (OwnJ wr (w.heap.size + 1 + 1) _ l) := hown
      clear hown
      go_wp2
      go_ret
      exact ⟨_, l, rfl, OwnC.ahead HOW.out (by omega), HOF.out, hB⟩

/-- I2: what is wrong. -/
def P.offE (x : Sail) (g f t : Int) : Int := if P.btw g 1 4 = true then (if P.chk f t x.s.legs = 0 then (if x.lvs ≤ x.day then 4 else if 16 ≤ x.bks.length then 2 else 0) else P.chk f t x.s.legs) else 3
/-- Whom they are offered to. -/
def P.who (n g : Int) (lv : Bool) (f t : Int) : Bkg := ⟨n, 1, 2, g, lv, 0, 0, f, t, 0, []⟩
/-- I2: the errno, and the cabins. -/
def P.Offs (x : Sail) (g : Int) (lv : Bool) (f t r : Int) (l : List Int) : Prop := r = P.offE x g f t ∧ (¬ r = 0 → l = []) ∧ (r = 0 → ∃ n, LeastIs x.bks n ∧ OffIs x (P.who n g lv f t) x.s.bs.length l)
def P.OffS (x : Sail) (g : Int) (lv : Bool) (f t r : Int) (l : List Int) : Prop := (∃ q, P.SailE x q ∧ ¬ q = 0 ∧ r = q ∧ l = []) ∨ (P.SailE x 0 ∧ P.Offs x g lv f t r l)
theorem Offs.one {x : Sail} {g : Int} {lv : Bool} {f t r r' : Int} {l l' : List Int} (h : P.Offs x g lv f t r l) (h' : P.Offs x g lv f t r' l') : r = r' ∧ l = l' := by
  obtain ⟨rfl, h1, h2⟩ := h
  obtain ⟨rfl, k1, k2⟩ := h'
  refine ⟨rfl, ?_⟩
  by_cases h0 : P.offE x g f t = 0
  · obtain ⟨n, a1, a2⟩ := h2 h0
    obtain ⟨m, b1, b2⟩ := k2 h0
    obtain rfl := LeastIs.one a1 b1
    exact OffIs.one a2 b2
  · rw [h1 h0, k1 h0]
theorem OffS.one {x : Sail} {g : Int} {lv : Bool} {f t r r' : Int} {l l' : List Int} (h : P.OffS x g lv f t r l) (h' : P.OffS x g lv f t r' l') : r = r' ∧ l = l' := by
  rcases h with ⟨q, a1, a2, rfl, rfl⟩ | ⟨a1, a2⟩ <;> rcases h' with ⟨q', b1, b2, rfl, rfl⟩ | ⟨b1, b2⟩
  · exact ⟨SailE.one a1 b1, rfl⟩
  · exact absurd (SailE.one a1 b1) a2
  · exact absurd (SailE.one b1 a1) b2
  · exact Offs.one a2 b2
theorem off_range {x : Sail} {g f t : Int} (h : P.btw g 1 4 = false) : P.offE x g f t = 3 := by rw [P.offE, if_neg (by rw [h]; decide)]
theorem off_span {x : Sail} {g f t : Int} (h : P.btw g 1 4 = true) (h1 : ¬ P.chk f t x.s.legs = 0) : P.offE x g f t = P.chk f t x.s.legs := by rw [P.offE, if_pos h, if_neg h1]
theorem off_left {x : Sail} {g f t : Int} (h : P.btw g 1 4 = true) (h1 : P.chk f t x.s.legs = 0) (h2 : x.lvs ≤ x.day) : P.offE x g f t = 4 := by rw [P.offE, if_pos h, if_pos h1, if_pos h2]
theorem off_full {x : Sail} {g f t : Int} (h : P.btw g 1 4 = true) (h1 : P.chk f t x.s.legs = 0) (h2 : ¬ x.lvs ≤ x.day) (h3 : 16 ≤ x.bks.length) : P.offE x g f t = 2 := by rw [P.offE, if_pos h, if_pos h1, if_neg h2, if_pos h3]
theorem off_ok {x : Sail} {g f t : Int} (h : P.btw g 1 4 = true) (h1 : P.chk f t x.s.legs = 0) (h2 : ¬ x.lvs ≤ x.day) (h3 : ¬ 16 ≤ x.bks.length) : P.offE x g f t = 0 := by rw [P.offE, if_pos h, if_pos h1, if_neg h2, if_neg h3]

end Go.Proofs.YtlamhfbdeinkkaeGreat.St
