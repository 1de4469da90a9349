/- The model's evaluation with series along a line: the series of a line, copies, columns. The model's evaluation with series: a function, series as arguments, copies of the outputs. The code for a place and a direction, by the model. Directional, plainly, and by series of two. -/
import Derived.IntWalk
import Derived.Test.YtoedccgiahegnaaGreatFe
import Derived.Test.YtoedccgiahegnaaGreatFg
import Derived.Test.YtoedccgiahegnaaGreatDw
namespace Go.Proofs.YtoedccgiahegnaaGreat
open Go.RowKit
set_option linter.unusedVariables false

/-- the series of a value and a slope -/
def rowL (x y : Int) (n : Nat) : List Int := (cstl x n).set 1 y
theorem rowL_len (x y : Int) (n : Nat) : (rowL x y n).length = n := by simp [rowL, cstl_len]
theorem rowL_nums {x y : Int} {n : Nat} (hx : 0 ≤ x ∧ x < 1000003) (hy : 0 ≤ y ∧ y < 1000003) : Nums (rowL x y n) := by
  intro z hz
  unfold rowL at hz
  rcases List.mem_or_eq_of_mem_set hz with hz | rfl
  · exact cstl_numsE hx z hz
  · exact hy
/-- the series of the first i arguments -/
def lnT (args dir : List Int) (n i : Nat) : List (List Int) := (List.range i).map fun k => rowL (args.getD k 0) (dir.getD k 0) n
theorem lnT_succ (args dir : List Int) (n i : Nat) : lnT args dir n (i + 1) = lnT args dir n i ++ [rowL (args.getD i 0) (dir.getD i 0) n] := by simp [lnT, List.range_succ]
theorem lnT_len (args dir : List Int) (n i : Nat) : (lnT args dir n i).length = i := by simp [lnT]
theorem lnT_at (args dir : List Int) {n i k : Nat} (h : k < i) : (lnT args dir n i).getD k [] = rowL (args.getD k 0) (dir.getD k 0) n := by
  unfold lnT
  rw [List.getD_eq_getElem?_getD, List.getElem?_map, List.getElem?_range h]; rfl
theorem rowsKept {w w' : World} {L g k kg : Nat} {vs : List Value} (h : w.ownsRow L 25 1 (.slice (some ⟨g, 0, none⟩) k kg) k vs) (hb : Below w.heap.size w w') : w'.ownsRow L 25 1 (.slice (some ⟨g, 0, none⟩) k kg) k vs :=
  World.ownsRow.kept h (below_grownBy hb) (.inr (by simp [Value.ownBlock]))
theorem eo_start (w : World) (br n : Nat) (R : Nat → Prop) : Eo (w.alloc (.cells #[] 25)) w.heap.size br R n w.heap.size 0 0 [] :=
  ⟨⟨[], World.ownsRow_made w #[] 0 (Nat.le_refl _) (by unfold maxLen; omega) rfl, fun i h => absurd h (Nat.not_lt_zero _)⟩, rfl, fun i h => absurd h (Nat.not_lt_zero _), fun i h => absurd h (Nat.not_lt_zero _)⟩
theorem sConstN (x : Int) (n : Nat) (hn : n ≤ 1048576) (w : World) :
    Calls Tryz.prog 98 #[.int .i64 x, .int .i64 n] w fun e w' => ∃ g c, e = .returned (.slice (some ⟨g, 0, none⟩) n c) ∧ Own w.heap.size w' g c (cstl x n) ∧ Below w.heap.size w w' := by
  refine (sConst x n w hn).mono ?_
  rintro e w' ⟨g, c, rfl, h1, h2⟩
  exact ⟨g, c, by rw [cstl_len], h1, h2⟩

set_option maxRecDepth 100000 in
set_option maxHeartbeats 6400000 in
theorem sLine (n : Nat) (hn1 : 1 ≤ n) (hn13 : n ≤ 13) (o : Int) (ho : o + 1 = (n : Int)) (bp : Nat) (aa da : Option Addr) (ca cd : Nat) (args dir : List Int) (w : World) (hbp : bp < w.heap.size) (hA : At w aa args) (hD : At w da dir) (hl : dir.length = args.length) (hal : args.length ≤ 12) (hN : Nums args) (hM : Nums dir) :
    Calls Tryz.prog 78 #[.slice aa args.length ca, .slice da dir.length cd, .int .i64 o] w fun e w' => ∃ g kg, e = .returned (.slice (some ⟨g, 0, none⟩) args.length kg) ∧ Eo w' w.heap.size bp (fun _ => False) n g kg args.length (lnT args dir n args.length) ∧ Below w.heap.size w w' := by
  obtain ⟨i1, hj1, hy0, hy1, hy2⟩ := info_parts infoRowE
  have HO0 : Hid (Eo (w.alloc (.cells #[] 25)) w.heap.size bp (fun _ => False) n w.heap.size 0 0 (lnT args dir n 0)) := eo_start w bp n _
  have HB0 : Hid (Below w.heap.size w (w.alloc (.cells #[] 25))) := (Below.refl _ _).alloc (Nat.le_refl _) _
  have HA := Lib.hid hA
  have HD := Lib.hid hD
  have HN := Lib.hid hN
  have HM := Lib.hid hM
  have HLE := Lib.hid hl
  clear hA hD hN hM hl
  go_enter Tryz.func78, Tryz.ntmps78
  go_wp2_with fail
  go_loopw [7, 8] (fun lv x wr => ∃ (i g kg : Nat), i ≤ args.length ∧ x = .int .i64 i ∧ lv = .slice (some ⟨g, 0, none⟩) i kg ∧ Hid (Eo wr w.heap.size bp (fun _ => False) n g kg i (lnT args dir n i)) ∧ Hid (Below w.heap.size w wr)) (fun _ x _ => args.length - (intOf x).toNat)
  case atStart => exact ⟨0, w.heap.size, 0, Nat.zero_le _, rfl, rfl, HO0.out, HB0.out⟩
  case round =>
    obtain ⟨i, g, kg, hi2, rfl, rfl, HO, HB⟩ := hrel
    clear HO0 HB0
    have hgb := HO.out.base
    have hzr := HB.out.size
    by_cases hlt : i < args.length
    · have hii : (i : Int) < (args.length : Int) := by omega
      have hid : (i : Int) < (dir.length : Int) := by rw [HLE.out]; exact hii
      obtain ⟨b7, o7, rfl, hb7, hc7⟩ := (HA.out.below HB.out (Nat.le_refl _)).resolve_left (by intro e; rw [e] at hlt; simp at hlt)
      obtain ⟨b8, o8, rfl, hb8, hc8⟩ := (HD.out.below HB.out (Nat.le_refl _)).resolve_left (by intro e; have := HLE.out; rw [e] at this; simp at this; omega)
      have hx := hc7 i hlt
      have hy := hc8 i (by rw [HLE.out]; exact hlt)
      have HX := Lib.hid (HN.out.at i)
      have HY := Lib.hid (HM.out.at i)
      have HTK : Hid (lnT args dir n (i + 1) = lnT args dir n i ++ [rowL (args.getD i 0) (dir.getD i 0) n]) := lnT_succ args dir n i
      obtain ⟨us, hu1, hu2⟩ := HO.out.top
      have hul : us.length = i := by have := hu1.1; omega
      have HU1 := Lib.hid hu1
      have HU2 := Lib.hid hu2
      have HOL := Lib.hid (And.intro HO.out.vl (And.intro HO.out.len HO.out.nums))
      have HSC := fun (x : Int) (W : World) => Lib.hid (sConstN x n (by omega) W)
      clear hu1 hu2 HO hc7 hc8
      generalize args.getD i 0 = x at *
      generalize dir.getD i 0 = y at *
      have hi9 : IntKind.i64.wrap (o + 1) = o + 1 := IntWalk.i64_in _ (by omega)
      go_wp2_with fail
      refine (HSC _ _).out.mono ?_; rintro e w2 ⟨g2, c2, rfl, ho2, hb2⟩
      have hg2 := ho2.base
      have hy2' := (hb2.cell (p := ⟨b8, o8 + i, none⟩) (by show b8 < _; omega)).trans hy
      have HB2 := Lib.hid hb2
      have HO2 := Lib.hid ho2
      clear HSC
      by_cases hpos : (0 : Int) < o
      · have h1n : (1 : Int) < (n : Int) := by omega
        have hcs := ho2.cellAt 1 (by rw [cstl_len]; omega)
        have hfr := ho2.frz 1
        have HO3 : Hid (Own wr.heap.size (w2.setCell ⟨g2, 1, none⟩ (.int .i64 y)) g2 c2 (rowL x y n)) := ho2.set 1 y
        have HB3 : Hid (Below wr.heap.size wr (w2.setCell ⟨g2, 1, none⟩ (.int .i64 y))) := hb2.setCell (p := ⟨g2, 1, none⟩) hg2.1 _
        clear ho2 hb2
        generalize (cstl x n).getD 1 0 = z at hcs
        have hsz : (w2.setCell ⟨g2, 1, none⟩ (.int .i64 y)).heap.size = w2.heap.size := by simp
        have hz3 := HB3.out.size
        have hu1A := rowsKept HU1.out HB3.out
        have HU2A : Hid (∀ k, k < i → ∃ ai ci, us[k]? = some (.slice ai n ci) ∧ Ls (w2.setCell ⟨g2, 1, none⟩ (.int .i64 y)) bp ai ((lnT args dir n i).getD k []) ∧ ∀ gb, blk ai ((lnT args dir n i).getD k []) = some gb → gb ≠ g ∧ (False ∨ w.heap.size ≤ gb)) := by
          show ∀ k, _
          intro k hk
          obtain ⟨ai, ci, h1, h2, h3⟩ := HU2.out k hk
          exact ⟨ai, ci, h1, h2.next HB3.out, h3⟩
        clear HU1 HU2 hx hy HB2 HO2
        go_wp2_with (at_builtin; refine wpList_append_lies _ rfl _ _ _ rfl w.heap.size 25 i1 _ 1 24 Tryz.underlying47 hj1 hy0 hy1 hy2 rfl (by omega) (.slice (some ⟨g, 0, none⟩) i kg) i us rfl (hu1A.alloc _) ⟨w2.heap.size, 0, none⟩ 1 1 [.slice (some ⟨g2, 0, none⟩) n c2] rfl rfl (by have h9 := World.news_of_block (cs := #[.slice (some ⟨g2, 0, none⟩) n c2]) (t := 25) (fr := (0, 0)) (heap_alloc_new (w2.setCell ⟨g2, 1, none⟩ (.int .i64 y)) _); rw [hsz] at h9; exact h9) (by simp [Value.oneCell']) (by omega) (by unfold maxLen; omega) (by omega) (by simp; omega) (w2.heap.size + 1) (by simp) ?_; intro gg cg w4 hown4 hgrow hat hlt4)
        have hba : Below (w2.setCell ⟨g2, 1, none⟩ (.int .i64 y)).heap.size (w2.setCell ⟨g2, 1, none⟩ (.int .i64 y)) ((w2.setCell ⟨g2, 1, none⟩ (.int .i64 y)).alloc (.cells #[.slice (some ⟨g2, 0, none⟩) n c2] 25)) := (Below.refl _ _).alloc (Nat.le_refl _) _
        have hgg : gg = g ∨ (w2.setCell ⟨g2, 1, none⟩ (.int .i64 y)).heap.size ≤ gg := by rw [hsz]; exact gg_at hat rfl
        have HN4 := Lib.hid (eo_push (R := fun _ => False) HOL.out.1 HOL.out.2.1 HOL.out.2.2 hul HU2A.out hba hown4 hgrow hgg (HO3.out.ls (bv := bp) (by omega)) (rowL_len x y n) (rowL_nums HX.out HY.out) (fun gb hg => by have := blk_eqE hg; have := HO3.out.base; exact ⟨by omega, .inr (by omega)⟩))
        rw [← HTK.out] at HN4
        have HBN := Lib.hid (below_grownE (g := g) ((HB.out.trans (HB3.out.mono hzr)).trans (hba.mono (by omega))) hgrow (Nat.le_refl _) hgb.1)
        clear hown4 hgrow hat hu1A HOL HU2A HO3 HB3
        go_wp2_with fail
        go_roundw
        case rel => exact ⟨i + 1, gg, cg, by omega, by go_num, rfl, HN4.out, HBN.out⟩
        case measure => simp [intOf]; omega
      · have e1 : rowL x y n = cstl x n := by
          unfold rowL
          exact List.set_eq_of_length_le (by rw [cstl_len]; omega)
        obtain ⟨w3, rfl⟩ : ∃ w3, w3 = w2 := ⟨_, rfl⟩
        have HO3 : Hid (Own wr.heap.size w3 g2 c2 (rowL x y n)) := by show Own _ _ _ _ _; rw [e1]; exact ho2
        have HB3 : Hid (Below wr.heap.size wr w3) := hb2
        have hz3 := HB3.out.size
        have hu1A := rowsKept HU1.out HB3.out
        have HU2A : Hid (∀ k, k < i → ∃ ai ci, us[k]? = some (.slice ai n ci) ∧ Ls w3 bp ai ((lnT args dir n i).getD k []) ∧ ∀ gb, blk ai ((lnT args dir n i).getD k []) = some gb → gb ≠ g ∧ (False ∨ w.heap.size ≤ gb)) := by
          show ∀ k, _
          intro k hk
          obtain ⟨ai, ci, h1, h2, h3⟩ := HU2.out k hk
          exact ⟨ai, ci, h1, h2.next HB3.out, h3⟩
        clear HU1 HU2 hx hy hy2' HB2 HO2 ho2 hb2 e1
        go_wp2_with (at_builtin; refine wpList_append_lies _ rfl _ _ _ rfl w.heap.size 25 i1 _ 1 24 Tryz.underlying47 hj1 hy0 hy1 hy2 rfl (by omega) (.slice (some ⟨g, 0, none⟩) i kg) i us rfl (hu1A.alloc _) ⟨w3.heap.size, 0, none⟩ 1 1 [.slice (some ⟨g2, 0, none⟩) n c2] rfl rfl (World.news_of_block (cs := #[.slice (some ⟨g2, 0, none⟩) n c2]) (t := 25) (fr := (0, 0)) (heap_alloc_new w3 _)) (by simp [Value.oneCell']) (by omega) (by unfold maxLen; omega) (by omega) (by simp; omega) (w3.heap.size + 1) (by simp) ?_; intro gg cg w4 hown4 hgrow hat hlt4)
        have hba : Below w3.heap.size w3 (w3.alloc (.cells #[.slice (some ⟨g2, 0, none⟩) n c2] 25)) := (Below.refl _ _).alloc (Nat.le_refl _) _
        have hgg : gg = g ∨ w3.heap.size ≤ gg := gg_at hat rfl
        have HN4 := Lib.hid (eo_push (R := fun _ => False) HOL.out.1 HOL.out.2.1 HOL.out.2.2 hul HU2A.out hba hown4 hgrow hgg (HO3.out.ls (bv := bp) (by omega)) (rowL_len x y n) (rowL_nums HX.out HY.out) (fun gb hg => by have := blk_eqE hg; have := HO3.out.base; exact ⟨by omega, .inr (by omega)⟩))
        rw [← HTK.out] at HN4
        have HBN := Lib.hid (below_grownE (g := g) ((HB.out.trans (HB3.out.mono hzr)).trans (hba.mono (by omega))) hgrow (Nat.le_refl _) hgb.1)
        clear hown4 hgrow hat hu1A HOL HU2A HO3 HB3
        go_wp2_with fail
        go_roundw
        case rel => exact ⟨i + 1, gg, cg, by omega, by go_num, rfl, HN4.out, HBN.out⟩
        case measure => simp [intOf]; omega
    · have hii : ¬ (i : Int) < (args.length : Int) := by omega
      obtain rfl : i = args.length := by omega
      go_wp2_with fail
      go_ret
      exact ⟨g, kg, rfl, HO.out, HB.out⟩

theorem At.oldsE {w : World} {a : Option Addr} {l : List Int} (h : At w a l) : ∀ b, a = some b → ∀ j u, (l.map (Value.int .i64))[j]? = some u → w.cell? (b.add j) = some u := by
  intro b hb j u hj
  rw [List.getElem?_map] at hj
  by_cases hl : l = []
  · rw [hl] at hj; simp at hj
  · obtain ⟨bb, off, h1, _, hc⟩ := h.resolve_left hl
    rw [h1] at hb; cases hb
    by_cases hjl : j < l.length
    · rw [List.getElem?_eq_getElem hjl] at hj
      simp at hj
      rw [Addr.add_lit, hc j hjl, List.getD_eq_getElem?_getD, List.getElem?_eq_getElem hjl]
      simp [hj]
    · rw [List.getElem?_eq_none (by omega)] at hj; simp at hj
set_option maxRecDepth 100000 in
set_option maxHeartbeats 1600000 in
theorem sOwnE (a : Option Addr) (ca n : Nat) (l : List Int) (w : World) (ha : At w a l) (hn : l.length = n) (h1 : 1 ≤ n) (h2 : n ≤ 1048576) :
    Calls Tryz.prog 53 #[.slice a n ca] w fun e w' => ∃ g c, e = .returned (.slice (some ⟨g, 0, none⟩) n c) ∧ Own w.heap.size w' g c l ∧ Below w.heap.size w w' := by
  subst hn
  obtain ⟨i0, hi, hz0, hz1, hz2⟩ := info_parts info64
  obtain ⟨b1, o1, rfl, hbl1, hc1⟩ := (ha.resolve_left (by intro e; rw [e] at h1; simp at h1))
  have hB0 := (Below.refl w.heap.size w).alloc (Nat.le_refl _) (.cells #[] 2)
  have hO0 := own_none w w.heap.size (Nat.le_refl _)
  have HN := Lib.hid (At.oldsE (w := w.alloc (.cells #[] 2)) (a := some ⟨b1, o1, none⟩) (l := l) (.inr ⟨b1, o1, rfl, Nat.lt_of_lt_of_le hbl1 hB0.size, fun k hk => (hB0.cell (p := ⟨b1, o1 + k, none⟩) hbl1).trans (hc1 k hk)⟩) _ rfl)
  have hone : Hid (∀ u ∈ l.map (Value.int .i64), u.oneCell' = true) := by
    show ∀ u ∈ _, _
    intro u hu
    obtain ⟨x, _, rfl⟩ := List.mem_map.1 hu
    rfl
  clear hc1 ha
  go_enter Tryz.func53, Tryz.ntmps53
  go_wp2_with (at_builtin; refine wpList_append_lies _ rfl _ _ _ rfl w.heap.size 2 i0 _ 1 8 Tryz.underlying25 hi hz0 hz1 hz2 rfl (by omega) (.slice (some ⟨w.heap.size, 0, none⟩) 0 0) 0 [] rfl hO0 ⟨b1, o1, none⟩ l.length ca (l.map (Value.int .i64)) rfl (by rw [List.length_map, Nat.mul_one]) HN.out hone.out (by omega) (by unfold maxLen; omega) (by omega) (by simp) (w.heap.size + 1) (by simp) ?_; intro g cc w1 hown1 hgrow hat hlt1)
  have hw2 : Below w.heap.size w w1 := hB0.grown hgrow (by simp) (by intro q hq; simp [Value.ownBlock] at hq; omega)
  have ho3 : Own w.heap.size w1 g cc l := by unfold Own; simpa using hown1
  clear hown1 hgrow hat
  go_wp2_with fail
  go_ret
  exact ⟨g, cc, by simp, ho3, hw2⟩

/-- column k of rows -/
def colL (k : Nat) (l : List (List Int)) : List Int := l.map fun v => v.getD k 0
theorem colL_take {k : Nat} {l : List (List Int)} {i : Nat} (h : i < l.length) : colL k (l.take (i + 1)) = colL k (l.take i) ++ [(l.getD i []).getD k 0] := by
  unfold colL
  rw [take_snocE h, List.map_append]; rfl
theorem colL_len (k : Nat) (l : List (List Int)) : (colL k l).length = l.length := by simp [colL]

set_option maxRecDepth 100000 in
set_option maxHeartbeats 3200000 in
theorem sColumnE (k n : Nat) (hk : k < n) (br : Nat) (R : Nat → Prop) (ae : Option Addr) (ce : Nat) (vs : List (List Int)) (w : World) (hE : En w br R n ae vs) (hvl : vs.length ≤ 1048576) :
    Calls Tryz.prog 45 #[.slice ae vs.length ce, .int .i64 k] w fun e w' => ∃ g cap, e = .returned (.slice (some ⟨g, 0, none⟩) vs.length cap) ∧ Own w.heap.size w' g cap (colL k vs) ∧ Below w.heap.size w w' := by
  obtain ⟨i0, hi, hz0, hz1, hz2⟩ := info_parts info64
  have hO0 := own_none w w.heap.size (Nat.le_refl _)
  have HOW0 : Hid (Own w.heap.size (w.alloc (.cells #[] 2)) w.heap.size 0 (colL k (vs.take 0))) := hO0
  have HBW0 : Hid (Below w.heap.size w (w.alloc (.cells #[] 2))) := (Below.refl _ _).alloc (Nat.le_refl _) _
  have HEN := Lib.hid hE
  clear hO0 hE
  go_enter Tryz.func45, Tryz.ntmps45
  go_wp2_with fail
  go_loopw [5, 6] (fun lv x wr => ∃ (i g cap : Nat), i ≤ vs.length ∧ x = .int .i64 i ∧ lv = .slice (some ⟨g, 0, none⟩) i cap ∧ Hid (Own w.heap.size wr g cap (colL k (vs.take i))) ∧ Hid (Below w.heap.size w wr)) (fun _ x _ => vs.length - (intOf x).toNat)
  case atStart => exact ⟨0, w.heap.size, 0, Nat.zero_le _, rfl, rfl, HOW0.out, HBW0.out⟩
  case round =>
    obtain ⟨i, g, cap, hi2, rfl, rfl, HOW, HBW⟩ := hrel
    clear HOW0 HBW0
    have hgb := HOW.out.base
    have hzr3 := HBW.out.size
    by_cases hlt : i < vs.length
    · have hii : (i : Int) < (vs.length : Int) := by omega
      have hkn : (k : Int) < (n : Int) := by omega
      obtain ⟨b7, o7, rfl, hbn7, hbw7, hall7⟩ := (HEN.out.next HBW.out).rows.resolve_left (by intro e; rw [e] at hlt; simp at hlt)
      obtain ⟨ai, ci, hcell, hls, _⟩ := hall7 i hlt
      have hl1 := HEN.out.len i hlt
      obtain ⟨b8, o8, rfl, hb8, hc8⟩ := hls.at_.resolve_left (by intro e; rw [e] at hl1; simp at hl1; omega)
      have hx := hc8 k (by omega)
      have HTK : Hid (colL k (vs.take (i + 1)) = colL k (vs.take i) ++ [(vs.getD i []).getD k 0]) := colL_take hlt
      have HXL : Hid ((colL k (vs.take i)).length = i) := by show _ = _; rw [colL_len, List.length_take]; omega
      have ho2 : wr.ownsRow w.heap.size 2 1 (.slice (some ⟨g, 0, none⟩) i cap) i ((colL k (vs.take i)).map (Value.int .i64)) := by
        have := HOW.out
        unfold Own at this
        rw [HXL.out] at this
        exact this
      clear hall7 hls hl1 hc8 HOW
      generalize (vs.getD i []).getD k 0 = x at *
      generalize colL k (vs.take i) = xs at *
      go_wp2_with (at_builtin; refine wpList_append_lies _ rfl _ _ _ rfl w.heap.size 2 i0 _ 1 8 Tryz.underlying25 hi hz0 hz1 hz2 rfl (by omega) (.slice (some ⟨g, 0, none⟩) i cap) i (xs.map (Value.int .i64)) rfl (ho2.alloc _) ⟨wr.heap.size, 0, none⟩ 1 1 [.int .i64 x] rfl rfl (World.news_of_block (cs := #[.int .i64 x]) (t := 2) (fr := (0, 0)) (heap_alloc_new wr _)) (by simp [Value.oneCell']) (by omega) (by unfold maxLen; omega) (by omega) (by simp; omega) (wr.heap.size + 1) (by simp) ?_; intro gg cc w4 hown4 hgrow hat hlt4)
      have hw4 : Below w.heap.size w w4 := below_grownE (g := g) (HBW.out.alloc hzr3 _) hgrow (Nat.le_refl _) hgb.1
      have HO4 : Hid (Own w.heap.size w4 gg cc (xs ++ [x])) := own_appended (by rw [HXL.out]; exact hown4)
      rw [← HTK.out] at HO4
      have HB4 := Lib.hid hw4
      clear hown4 hgrow hat ho2 hw4
      go_wp2_with fail
      go_roundw
      case rel => exact ⟨i + 1, gg, cc, by omega, by go_num, rfl, HO4.out, HB4.out⟩
      case measure => simp [intOf]; omega
    · have hii : ¬ (i : Int) < (vs.length : Int) := by omega
      obtain rfl : i = vs.length := by omega
      rw [List.take_length] at HOW
      go_wp2_with fail
      go_ret
      exact ⟨g, cap, rfl, HOW.out, HBW.out⟩

end Go.Proofs.YtoedccgiahegnaaGreat

namespace Go.Proofs.YtoedccgiahegnaaGreat
open Go.RowKit
set_option linter.unusedVariables false

/-- the rows lie where the run does not -/
theorem En.re {w : World} {br n : Nat} {R : Nat → Prop} {a : Option Addr} {vars : List (List Int)} (h : En w br R n a vars) {br' : Nat} (hb : w.heap.size ≤ br') : En w br' R n a vars := by
  refine ⟨?_, h.len, h.nums⟩
  rcases h.rows with h0 | ⟨b, off, h1, h2, h3, h4⟩
  · exact .inl h0
  · refine .inr ⟨b, off, h1, by omega, h3, fun i hi => ?_⟩
    obtain ⟨ai, ci, h5, h6, h7⟩ := h4 i hi
    exact ⟨ai, ci, h5, ⟨h6.at_, fun g hg => by have := h6.lt g hg; omega⟩, h7⟩
theorem Eo.lower {W : World} {L L' br n g kg k : Nat} {R : Nat → Prop} {vars : List (List Int)} (h : Eo W L' br R n g kg k vars) (hL : L ≤ L') : Eo W L br R n g kg k vars := by
  obtain ⟨vs, ⟨h0, h1⟩, h2⟩ := h.top
  refine ⟨⟨vs, ⟨h0, ?_⟩, fun i hi => ?_⟩, h.vl, h.len, h.nums⟩
  · rcases h1 with h1 | ⟨g', cap', cur, hv, hg, r⟩
    · exact .inl h1
    · exact .inr ⟨g', cap', cur, hv, by omega, r⟩
  · obtain ⟨ai, ci, h3, h4, h5⟩ := h2 i hi
    exact ⟨ai, ci, h3, h4, fun gb hg => ⟨(h5 gb hg).1, (h5 gb hg).2.imp id fun e => by omega⟩⟩
/-- what the model answers for series -/
def EvS (n m : Nat) (w : World) (r : Rl (List Int)) (e : Ending) (w' : World) : Prop :=
  Below w.heap.size w w' ∧ ((r.c = 0 ∧ ∃ g kg L br, e = .returned (.tuple #[.slice (some ⟨g, 0, none⟩) m kg, .int .i64 0]) ∧ w.heap.size ≤ br ∧ br < L ∧ Eo w' L br (fun _ => False) n g kg m r.l) ∨ (¬ r.c = 0 ∧ ∃ g, e = .returned (.tuple #[.slice (some ⟨g, 0, none⟩) 0 0, .int .i64 r.c])))

set_option maxRecDepth 100000 in
set_option maxHeartbeats 12800000 in
theorem sEval3 (n : Nat) (hn1 : 1 ≤ n) (hn13 : n ≤ 13) (fs : List Fn) (bp op : Nat) (ap : Option Addr) (capp : Nat) (j : Nat) (br0 : Nat) (R : Nat → Prop) (ae : Option Addr) (ce : Nat) (vars : List (List Int)) (w : World)
    (hp : w.cell? ⟨bp, op, none⟩ = some (.slice ap fs.length capp)) (hpb : progB fs = true) (hj : j < fs.length) (hfl : fs.length ≤ 1048576) (hP : Pat w 0 w.heap.size fs ap) (hE : En w br0 R n ae vars) (hRb : ∀ g, R g → g < w.heap.size) (hal : (vars.length : Int) = (fs.getD j noFn).params) :
    Calls Tryz.prog 77 #[.pointer (some ⟨bp, op, none⟩), .int .i64 j, .slice ae vars.length ce, .int .i64 n] w (EvS n (fs.getD j noFn).outs.len w (lisE (sA n) (evE (sA n) fs 3001) (fs.getD j noFn).outs vars 0 (fs.getD j noFn).outs.len)) := by
  obtain ⟨g1, g2, g3⟩ := fn_parts (progB_fn hpb hj)
  obtain ⟨i1, hj1, hy0, hy1, hy2⟩ := info_parts infoRowE
  have hbpw := cell_lt hp
  have hji : (j : Int) < (fs.length : Int) := by omega
  have hargs : vars.length ≤ 12 := by omega
  obtain ⟨wR, hwR⟩ : ∃ wR, w.alloc (.cells #[.pointer (some ⟨bp, op, none⟩), .int .i64 n, .int .i64 0, .int .i64 0] 101) = wR := ⟨_, rfl⟩
  have zR : wR.heap.size = w.heap.size + 1 := by rw [← hwR]; simp
  have bR : Below w.heap.size w wR := by rw [← hwR]; exact (Below.refl _ _).alloc (Nat.le_refl _) _
  have RR : RnAt wR w.heap.size bp op n 0 0 := ⟨by rw [← hwR]; simp [go_sem], by rw [← hwR]; simp [go_sem], by rw [← hwR]; simp [go_sem], by rw [← hwR]; simp [go_sem], fun o => by rw [← hwR]; simp [go_sem]⟩
  obtain ⟨bf, of, rfl, hbB, hall⟩ := hP.resolve_left (by intro e; rw [e] at hj; simp at hj)
  obtain ⟨hrr, af, cf, f0, f1, f2, hFo⟩ := hall j hj
  have hER := (hE.re (br' := w.heap.size) (Nat.le_refl _)).next bR
  have hpR := (bR.cell (p := ⟨bp, op, none⟩) hbpw).trans hp
  have f2R := (bR.cell (p := ⟨bf, of + j * 3 + 2, none⟩) (by show bf < _; omega)).trans f2
  have HC := Lib.hid ((sEvals (n := n) (ap := some ⟨bf, of, none⟩) (capp := capp) (br := w.heap.size) (bp := bp) (op := op) (B := w.heap.size) (Nat.le_refl _) hbpw hn1 hn13 (fun i hi => progB_fn hpb hi) hfl 3001).2 R j (fs.getD j noFn).outs af cf bf (of + j * 3) ae ce vars 0 0 wR (by omega) (by omega) (by omega) (by rw [hal]; exact g3) RR hpR (hP.below bR) f2R hbB.2 (hFo.agree (fun k _ h2 => bR.block k h2)) (by omega) hER (fun q hq => Nat.lt_of_lt_of_le (hRb q hq) bR.size) (by omega))
  rw [lisX_zero] at HC
  have HOL12 : Hid ((fs.getD j noFn).outs.len ≤ 12) := g2.2
  clear hall hrr f0 f1 f2 hFo hP hE hER f2R g1 g2 g3 RR hal
  generalize (fs.getD j noFn).outs = O at *
  have HLE : Hid ((lisE (sA n) (evE (sA n) fs 3001) O vars 0 O.len).c = 0 → (lisE (sA n) (evE (sA n) fs 3001) O vars 0 O.len).l.length = O.len) := lisE_len O.len
  generalize lisE (sA n) (evE (sA n) fs 3001) O vars 0 O.len = X at *
  have HZR := Lib.hid zR
  clear zR
  go_enter Tryz.func77, Tryz.ntmps77
  go_wp2_with fail
  clear hwR hpR
  refine HC.out.mono ?_; rintro e w2 ⟨k2, r2, g2, kg2, vs, rfl, ho2, hv2⟩
  have zR := HZR.out
  have c3 := r2.c3
  have z2 := k2.size
  have HE2 := Lib.hid ho2
  have HV2 := Lib.hid hv2
  have HB2 : Hid (Below w.heap.size w w2) := bR.trans (b := wR) ⟨k2.os, k2.tape, k2.output, k2.size, fun q hq => k2.block q (by omega) (by omega)⟩
  clear HC ho2 hv2 k2
  by_cases hc : X.c = 0
  rotate_left
  · have hcb : (X.c != 0) = true := by simp [hc]
    have HNC : Hid (¬ X.c = 0) := hc
    clear hc
    go_wp2_with fail
    go_region_held3 (fun w' => w'.cell? ⟨w.heap.size, 3, none⟩ = some (.int .i64 X.c)) (first | with_reducible exact c3 | go_keep) (fail)
    all_goals
      go_wp2_with fail
      go_ret2
      exact ⟨HB2.out.trans (b := w2) (by first | exact (((Below.refl w2.heap.size w2).drew).alloc (Nat.le_refl _) _).mono (by omega) | exact (((Below.refl w2.heap.size w2).alloc (Nat.le_refl _) _).drew).mono (by omega)), .inr ⟨HNC.out, _, rfl⟩⟩
  · have hcb : (X.c != 0) = false := by rw [hc]; rfl
    have hvl := HE2.out.vl
    have HVL := Lib.hid hvl
    have HEN := Lib.hid (HE2.out.en (by omega))
    have HO0 : Hid (Eo (w2.alloc (.cells #[] 25)) w2.heap.size w.heap.size (fun _ => False) n w2.heap.size 0 0 (vs.take 0)) := eo_start w2 _ n _
    have HB0 : Hid (Below w2.heap.size w2 (w2.alloc (.cells #[] 25))) := (Below.refl _ _).alloc (Nat.le_refl _) _
    have HX0 := Lib.hid hc
    have hol := HOL12.out
    clear HE2 hc hvl
    go_wp2_with fail
    obtain ⟨wB, rfl⟩ : ∃ wB, wB = wR := ⟨_, rfl⟩
    go_loopw [12, 13] (fun lv x wr => ∃ (i g kg : Nat), i ≤ O.len ∧ x = .int .i64 i ∧ lv = .slice (some ⟨g, 0, none⟩) i kg ∧ Hid (Eo wr w2.heap.size w.heap.size (fun _ => False) n g kg i (vs.take i)) ∧ Hid (Below w2.heap.size w2 wr)) (fun _ x _ => O.len - (intOf x).toNat)
    case atStart => exact ⟨0, w2.heap.size, 0, Nat.zero_le _, rfl, rfl, HO0.out, HB0.out⟩
    case round =>
      obtain ⟨i, g, kg, hi2, rfl, rfl, HO, HB⟩ := hrel
      clear HO0 HB0
      have hgb := HO.out.base
      have hzr := HB.out.size
      by_cases hlt : i < O.len
      · have hii : (i : Int) < (O.len : Int) := by omega
        have hiv : i < vs.length := by rw [HVL.out]; exact hlt
        obtain ⟨b7, o7, e7, hbn7, hbw7, hall7⟩ := (HEN.out.next HB.out).rows.resolve_left (by intro e; rw [e] at hiv; simp at hiv)
        cases e7
        obtain ⟨ai, ci, hcell, hls, _⟩ := hall7 i hiv
        rw [Nat.zero_add] at hcell
        have hl1 := HEN.out.len i hiv
        have HSO := Lib.hid (sOwnE ai ci n (vs.getD i []) wr hls.at_ hl1 hn1 (by omega))
        have HRN := Lib.hid (HEN.out.nums i hiv)
        have HTK : Hid (vs.take (i + 1) = vs.take i ++ [vs.getD i []]) := take_snocE hiv
        obtain ⟨us, hu1, hu2⟩ := HO.out.top
        have hul : us.length = i := by have := hu1.1; omega
        have HU1 := Lib.hid hu1
        have HU2 := Lib.hid hu2
        have HOL := Lib.hid (And.intro HO.out.vl (And.intro HO.out.len HO.out.nums))
        have HL1 := Lib.hid hl1
        clear hu1 hu2 HO hall7 hls hl1
        generalize vs.getD i [] = row at *
        go_wp2_with fail
        refine HSO.out.mono ?_; rintro e w3 ⟨g3, c3, rfl, ho3, hb3⟩
        have hg3 := ho3.base
        have HO3 := Lib.hid ho3
        have HB3 := Lib.hid hb3
        have hz3 := hb3.size
        have hu1A := rowsKept HU1.out hb3
        have HU2A : Hid (∀ k, k < i → ∃ ai ci, us[k]? = some (.slice ai n ci) ∧ Ls w3 w.heap.size ai ((vs.take i).getD k []) ∧ ∀ gb, blk ai ((vs.take i).getD k []) = some gb → gb ≠ g ∧ (False ∨ w2.heap.size ≤ gb)) := by
          show ∀ k, _
          intro k hk
          obtain ⟨ai, ci, h1, h2, h3⟩ := HU2.out k hk
          exact ⟨ai, ci, h1, h2.next hb3, h3⟩
        clear HU1 HU2 ho3 hb3 hcell HSO
        go_wp2_with (at_builtin; refine wpList_append_lies _ rfl _ _ _ rfl w2.heap.size 25 i1 _ 1 24 Tryz.underlying47 hj1 hy0 hy1 hy2 rfl (by omega) (.slice (some ⟨g, 0, none⟩) i kg) i us rfl (hu1A.alloc _) ⟨w3.heap.size, 0, none⟩ 1 1 [.slice (some ⟨g3, 0, none⟩) n c3] rfl rfl (World.news_of_block (cs := #[.slice (some ⟨g3, 0, none⟩) n c3]) (t := 25) (fr := (0, 0)) (heap_alloc_new w3 _)) (by simp [Value.oneCell']) (by omega) (by unfold maxLen; omega) (by omega) (by simp; omega) (w3.heap.size + 1) (by simp) ?_; intro gg cg w4 hown4 hgrow hat hlt4)
        have hba : Below w3.heap.size w3 (w3.alloc (.cells #[.slice (some ⟨g3, 0, none⟩) n c3] 25)) := (Below.refl _ _).alloc (Nat.le_refl _) _
        have hgg : gg = g ∨ w3.heap.size ≤ gg := gg_at hat rfl
        have HN4 := Lib.hid (eo_push (R := fun _ => False) HOL.out.1 HOL.out.2.1 HOL.out.2.2 hul HU2A.out hba hown4 hgrow hgg (HO3.out.ls (bv := w.heap.size) (by omega)) HL1.out HRN.out (fun gb hg => by have := blk_eqE hg; exact ⟨by omega, .inr (by omega)⟩))
        rw [← HTK.out] at HN4
        have HBN := Lib.hid (below_grownE (g := g) ((HB.out.trans (HB3.out.mono hzr)).trans (hba.mono (by omega))) hgrow (Nat.le_refl _) hgb.1)
        clear hown4 hgrow hat hu1A HOL HU2A HO3 HB3
        go_wp2_with fail
        go_roundw
        case rel => exact ⟨i + 1, gg, cg, by omega, by go_num, rfl, HN4.out, HBN.out⟩
        case measure => simp [intOf]; omega
      · have hii : ¬ (i : Int) < (O.len : Int) := by omega
        obtain rfl : i = O.len := by omega
        have HF : Hid (Eo wr w2.heap.size w.heap.size (fun _ => False) n g kg O.len X.l) := by
          have := HO.out
          rw [List.take_of_length_le (by rw [HVL.out]; exact Nat.le_refl _), HV2.out HX0.out] at this
          exact this
        clear HO
        go_wp2_with fail
        go_ret2
        have hz2 := HB2.out.size
        exact ⟨HB2.out.trans (b := w2) (HB.out.mono hz2), .inl ⟨HX0.out, g, kg, w2.heap.size, w.heap.size, rfl, Nat.le_refl _, by omega, HF.out⟩⟩

end Go.Proofs.YtoedccgiahegnaaGreat

namespace Go.Proofs.YtoedccgiahegnaaGreat
open Go.RowKit
set_option linter.unusedVariables false

/-- the code for a place and a direction -/
def drC (fs : List Fn) (f : Int) (args dir : List Int) : Int := if plC fs f args = 0 then (if areB dir (fs.getD f.toNat noFn).params = true then 0 else 2) else plC fs f args
/-- what one knows of a place -/
theorem plC_known {fs : List Fn} {f : Int} {args : List Int} (hc : plC fs f args = 0) : progB fs = true ∧ (0 ≤ f ∧ f < (fs.length : Int)) ∧ areB args (fs.getD f.toNat noFn).params = true := by
  unfold plC at hc
  by_cases hpb : progB fs = true
  · rw [if_pos hpb] at hc
    by_cases h2 : 0 ≤ f ∧ f < (fs.length : Int)
    · rw [if_pos h2] at hc
      by_cases h3 : areB args (fs.getD f.toNat noFn).params = true
      · exact ⟨hpb, h2, h3⟩
      · rw [if_neg h3] at hc; cases hc
    · rw [if_neg h2] at hc; cases hc
  · rw [if_neg hpb] at hc; cases hc
theorem areB_ln {l : List Int} {n : Int} (h : areB l n = true) : (l.length : Int) = n := by unfold areB at h; rw [Bool.and_eq_true] at h; exact of_decide_eq_true h.1
theorem areB_nm {l : List Int} {n : Int} (h : areB l n = true) : Nums l := by unfold areB at h; rw [Bool.and_eq_true] at h; exact okNums_nums h.2
set_option maxRecDepth 100000 in
set_option maxHeartbeats 3200000 in
theorem sAsked3 (fs : List Fn) (bp op : Nat) (ap : Option Addr) (capp : Nat) (f : Int) (aa da : Option Addr) (ca cd : Nat) (args dir : List Int) (w : World)
    (hp : w.cell? ⟨bp, op, none⟩ = some (.slice ap fs.length capp)) (hP : Pat w 0 w.heap.size fs ap) (hsz : pgSize fs ≤ 1048576) (hA : At w aa args) (hal : args.length ≤ 1048576) (hD : At w da dir) (hdl : dir.length ≤ 1048576) :
    Calls Tryz.prog 43 #[.pointer (some ⟨bp, op, none⟩), .int .i64 f, .slice aa args.length ca, .slice da dir.length cd] w (Quiet (.int .i64 (drC fs f args dir)) w) := by
  have HA := Lib.hid (sArgs fs bp op ap capp f aa ca args w hp hP hsz hA hal)
  have HN := fun q => Lib.hid (sNumbers da cd dir (w.drewN q) (hD.drewN q) (by omega))
  by_cases h0 : plC fs f args = 0
  · obtain ⟨k1, k2, k3⟩ := plC_known h0
    have HDR : Hid (drC fs f args dir = if areB dir (fs.getD f.toNat noFn).params = true then 0 else 2) := if_pos h0
    rw [h0] at HA
    have hal2 := areB_ln k3
    generalize drC fs f args dir = pc at *
    generalize (fs.getD f.toNat noFn).params = pm at *
    clear k1 k2 k3 hP hA hD h0
    by_cases hl : (dir.length : Int) = (args.length : Int)
    · have hlb : ((dir.length : Int) != (args.length : Int)) = false := by rw [hl]; simp
      have HAR : Hid (areB dir pm = okNums dir) := areB_of (by omega)
      clear hl hal2
      cases hn : okNums dir with
      | true =>
        rw [hn] at HN HAR
        have HP0 : Hid (pc = 0) := by show _ = _; rw [HDR.out, HAR.out]; rfl
        clear HDR HAR
        go_enter Tryz.func43, Tryz.ntmps43
        go_wp2_with fail
        refine HA.out.mono ?_; rintro e w1 ⟨rfl, q, rfl⟩
        go_wp2_with fail
        refine (HN q).out.mono ?_; rintro e w1 ⟨rfl, rfl⟩
        go_wp2_with fail
        go_ret
        exact ⟨ret_int HP0.out.symm, q, rfl⟩
      | false =>
        rw [hn] at HN HAR
        have HP0 : Hid (pc = 2) := by show _ = _; rw [HDR.out, HAR.out]; rfl
        clear HDR HAR
        go_enter Tryz.func43, Tryz.ntmps43
        go_wp2_with fail
        refine HA.out.mono ?_; rintro e w1 ⟨rfl, q, rfl⟩
        go_wp2_with fail
        refine (HN q).out.mono ?_; rintro e w1 ⟨rfl, rfl⟩
        go_wp2_with fail
        go_ret
        exact ⟨ret_int HP0.out.symm, q, rfl⟩
    · have hlb : ((dir.length : Int) != (args.length : Int)) = true := by simp [hl]
      have HP0 : Hid (pc = 2) := by
        show _ = _
        rw [HDR.out]
        have : ¬ areB dir pm = true := fun h => by have := areB_ln h; omega
        rw [if_neg this]
      clear HDR HN hl hal2
      go_enter Tryz.func43, Tryz.ntmps43
      go_wp2_with fail
      refine HA.out.mono ?_; rintro e w1 ⟨rfl, q, rfl⟩
      go_wp2_with fail
      go_ret
      exact ⟨ret_int HP0.out.symm, q, rfl⟩
  · have HDR : Hid (drC fs f args dir = plC fs f args) := if_neg h0
    have hbf : (plC fs f args == 0) = false := by simp [h0]
    rw [← HDR.out] at HA hbf
    clear HDR HN
    generalize drC fs f args dir = pc at *
    go_enter Tryz.func43, Tryz.ntmps43
    go_wp2_with fail
    refine HA.out.mono ?_; rintro e w1 ⟨rfl, q, rfl⟩
    go_wp2_with fail
    go_ret
    exact ⟨rfl, q, rfl⟩

theorem drC_known {fs : List Fn} {f : Int} {args dir : List Int} (h : drC fs f args dir = 0) : plC fs f args = 0 ∧ areB dir (fs.getD f.toNat noFn).params = true := by
  unfold drC at h
  by_cases h0 : plC fs f args = 0
  · rw [if_pos h0] at h
    by_cases h1 : areB dir (fs.getD f.toNat noFn).params = true
    · exact ⟨h0, h1⟩
    · rw [if_neg h1] at h; cases h
  · rw [if_neg h0] at h; exact absurd h h0

end Go.Proofs.YtoedccgiahegnaaGreat

namespace Go.Proofs.YtoedccgiahegnaaGreat
open Go.RowKit
set_option linter.unusedVariables false

/-- what Directional answers: values with slopes -/
def drL (fs : List Fn) (f : Int) (args dir : List Int) : Rl IP := if drC fs f args dir = 0 then lisE pA (evE pA fs 3001) (fs.getD f.toNat noFn).outs (args.zip dir) 0 (fs.getD f.toNat noFn).outs.len else ⟨[], 0, drC fs f args dir⟩
theorem drL_no {fs : List Fn} {f : Int} {args dir : List Int} (h : ¬ drC fs f args dir = 0) : drL fs f args dir = ⟨[], 0, drC fs f args dir⟩ := if_neg h
theorem drL_yes {fs : List Fn} {f : Int} {args dir : List Int} (h : drC fs f args dir = 0) : drL fs f args dir = lisE pA (evE pA fs 3001) (fs.getD f.toNat noFn).outs (args.zip dir) 0 (fs.getD f.toNat noFn).outs.len := if_pos h
theorem zip_at {l m : List Int} (hl : m.length = l.length) {i : Nat} (hi : i < l.length) : (l.zip m).getD i (0, 0) = (l.getD i 0, m.getD i 0) := by
  have hm : i < m.length := by omega
  have hz : i < (l.zip m).length := by simp; omega
  rw [List.getD_eq_getElem?_getD, List.getD_eq_getElem?_getD, List.getD_eq_getElem?_getD, List.getElem?_eq_getElem hz, List.getElem?_eq_getElem hi, List.getElem?_eq_getElem hm]
  simp
theorem zip_nums {l m : List Int} (hl : m.length = l.length) (h1 : Nums l) (h2 : Nums m) : Pr.Nums (l.zip m) := by
  intro x hx
  obtain ⟨i, hi, rfl⟩ := List.getElem_of_mem hx
  have hi1 : i < l.length := by simp at hi; omega
  have hi2 : i < m.length := by omega
  rw [List.getElem_zip]
  exact ⟨h1 _ (List.getElem_mem hi1), h2 _ (List.getElem_mem hi2)⟩
/-- values and slopes against series of two -/
theorem pairs_rel {fs : List Fn} {j : Nat} {args dir : List Int} (hpb : progB fs = true) (hj : j < fs.length) (hN : Nums args) (hM : Nums dir) (hl : dir.length = args.length) (hal : (args.length : Int) = (fs.getD j noFn).params) :
    Rll pA (sA 2) Two2 (lisE pA (evE pA fs 3001) (fs.getD j noFn).outs (args.zip dir) 0 (fs.getD j noFn).outs.len) (lisE (sA 2) (evE (sA 2) fs 3001) (fs.getD j noFn).outs (lnT args dir 2 args.length) 0 (fs.getD j noFn).outs.len) := by
  obtain ⟨g1, g2, g3⟩ := fn_parts (progB_fn hpb hj)
  have hzl : (args.zip dir).length = args.length := by simp; omega
  refine lisE_rel (evE_rel (fun i hi => progB_fn hpb hi) alike2 3001) (fi := j) (by omega) (q := 0) (by decide) (by rw [hzl, hal]; exact g3) ?_ _ (Nat.le_refl _)
  refine ⟨by rw [hzl, lnT_len], fun i hi => ?_⟩
  rw [hzl] at hi
  have e1 : (lnT args dir 2 args.length).getD i ((sA 2).cst 0) = [args.getD i 0, dir.getD i 0] := by
    have := lnT_at args dir (n := 2) hi
    rw [List.getD_eq_getElem?_getD] at this ⊢
    rw [List.getElem?_eq_getElem (by rw [lnT_len]; exact hi)] at this ⊢
    exact this
  have e2 : (args.zip dir).getD i (pA.cst 0) = (args.getD i 0, dir.getD i 0) := zip_at hl hi
  rw [e1, e2]
  exact ⟨rfl, hN.at i, hM.at i⟩
theorem cols_rel {l : List IP} {m : List (List Int)} (h : Rls pA (sA 2) Two2 l m) : colL 0 m = l.map Prod.fst ∧ colL 1 m = l.map Prod.snd ∧ Pr.Nums l := by
  have key : ∀ i (hi : i < l.length) (hm : i < m.length), m[i] = [l[i].1, l[i].2] ∧ Num2 l[i] := by
    intro i hi hm
    have := h.at_ i hi
    rw [List.getD_eq_getElem?_getD, List.getD_eq_getElem?_getD, List.getElem?_eq_getElem hi, List.getElem?_eq_getElem hm] at this
    exact this
  refine ⟨List.ext_getElem (by simp [colL, h.len]) fun i h1 h2 => ?_, List.ext_getElem (by simp [colL, h.len]) fun i h1 h2 => ?_, fun y hy => ?_⟩
  · have hl : i < l.length := by simpa using h2
    have hm : i < m.length := by rw [← h.len]; exact hl
    have e : (colL 0 m)[i] = (m[i]).getD 0 0 := by simp [colL]
    rw [e, (key i hl hm).1]; simp
  · have hl : i < l.length := by simpa using h2
    have hm : i < m.length := by rw [← h.len]; exact hl
    have e : (colL 1 m)[i] = (m[i]).getD 1 0 := by simp [colL]
    rw [e, (key i hl hm).1]; simp
  · obtain ⟨i, hi, rfl⟩ := List.getElem_of_mem hy
    exact (key i hi (by rw [← h.len]; exact hi)).2
/-- two lists and a code are answered, each list in a block of its own -/
def drA (r : Rl IP) : List Int := if r.c = 0 then r.l.map Prod.fst else []
def drB (r : Rl IP) : List Int := if r.c = 0 then r.l.map Prod.snd else []
def DrRes (w : World) (r : Rl IP) (e : Ending) (w' : World) : Prop :=
  ∃ a ca b cb, e = .returned (.tuple #[.slice a (drA r).length ca, .slice b (drB r).length cb, .int .i64 r.c]) ∧ OwnA w.heap.size w' a ca (drA r) ∧ OwnA w.heap.size w' b cb (drB r) ∧ (∀ g h, blk a (drA r) = some g → blk b (drB r) = some h → g ≠ h) ∧ Below w.heap.size w w'
theorem DrRes.from {w w1 : World} {r : Rl IP} {e : Ending} {w' : World} (h : DrRes w1 r e w') (hb : Below w.heap.size w w1) : DrRes w r e w' := by
  obtain ⟨a, ca, b, cb, rfl, h1, h2, h3, h4⟩ := h
  have hz := hb.size
  exact ⟨a, ca, b, cb, rfl, h1.imp id (fun ⟨g, e, o⟩ => ⟨g, e, o.mono hz⟩), h2.imp id (fun ⟨g, e, o⟩ => ⟨g, e, o.mono hz⟩), h3, hb.trans (h4.mono hz)⟩
theorem drA_no {r : Rl IP} (h : ¬ r.c = 0) : drA r = [] := if_neg h
theorem drB_no {r : Rl IP} (h : ¬ r.c = 0) : drB r = [] := if_neg h
theorem DrRes.fail {w w' : World} {r : Rl IP} {a b : Option Addr} {ca cb : Nat} (h : ¬ r.c = 0) (hb : Below w.heap.size w w') : DrRes w r (.returned (.tuple #[.slice a 0 ca, .slice b 0 cb, .int .i64 r.c])) w' := by
  refine ⟨a, ca, b, cb, by rw [drA_no h, drB_no h]; rfl, .inl (drA_no h), .inl (drB_no h), ?_, hb⟩
  intro g h' hg
  rw [drA_no h] at hg
  simp [blk] at hg
theorem DrRes.good {w w' : World} {r : Rl IP} {ga gb ca cb n : Nat} (h : r.c = 0) (hn : r.l.length = n) (h1 : Own w.heap.size w' ga ca (r.l.map Prod.fst)) (h2 : Own w.heap.size w' gb cb (r.l.map Prod.snd)) (hne : ga ≠ gb) (hb : Below w.heap.size w w') : DrRes w r (.returned (.tuple #[.slice (some ⟨ga, 0, none⟩) n ca, .slice (some ⟨gb, 0, none⟩) n cb, .int .i64 0])) w' := by
  have ea : drA r = r.l.map Prod.fst := if_pos h
  have eb : drB r = r.l.map Prod.snd := if_pos h
  refine ⟨some ⟨ga, 0, none⟩, ca, some ⟨gb, 0, none⟩, cb, by rw [ea, eb, List.length_map, List.length_map, hn, h], by rw [ea]; exact h1.a, by rw [eb]; exact h2.a, ?_, hb⟩
  intro g h' hg hh
  have e1 := blk_eqE hg
  have e2 := blk_eqE hh
  omega

end Go.Proofs.YtoedccgiahegnaaGreat
