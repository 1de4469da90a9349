/- The model's evaluation: the whole answer. -/
import Derived.Test.YtoedccgiahegnaaGreatFe
import Derived.Test.YtoedccgiahegnaaGreatFg
import Derived.Test.YtoedccgiahegnaaGreatEt
namespace Go.Proofs.YtoedccgiahegnaaGreat
open Go.RowKit
set_option linter.unusedVariables false

/-- numbers as lists of one -/
def onesE (l : List Int) : List (List Int) := l.map fun x => [x]
theorem onesE_len (l : List Int) : (onesE l).length = l.length := by simp [onesE]
theorem onesE_take {l : List Int} {i : Nat} (h : i < l.length) : onesE (l.take (i + 1)) = onesE (l.take i) ++ [[l.getD i 0]] := by
  unfold onesE
  rw [List.take_add_one, List.map_append, List.getD_eq_getElem?_getD, List.getElem?_eq_getElem h]; simp
/-- the first coefficients -/
def heads (l : List (List Int)) : List Int := l.map fun v => v.getD 0 0
theorem heads_take {l : List (List Int)} {i : Nat} (h : i < l.length) : heads (l.take (i + 1)) = heads (l.take i) ++ [(l.getD i []).getD 0 0] := by
  unfold heads
  rw [take_snocE h, List.map_append]; rfl
theorem heads_len (l : List (List Int)) : (heads l).length = l.length := by simp [heads]
theorem Eo.len_le {W : World} {L br n g kg k : Nat} {R : Nat → Prop} {vars : List (List Int)} (h : Eo W L br R n g kg k vars) : kg ≤ 9223372036854775807 := by
  obtain ⟨vs, h1, _⟩ := h.top
  exact row_cap h1
theorem evals_rel {fs : List Fn} {j : Nat} {args : List Int} (hpb : progB fs = true) (hj : j < fs.length) (hN : Nums args) (hal : (args.length : Int) = (fs.getD j noFn).params) :
    Rll nA (sA 1) One1 (lisE nA (evE nA fs 3001) (fs.getD j noFn).outs args 0 (fs.getD j noFn).outs.len) (lisE (sA 1) (evE (sA 1) fs 3001) (fs.getD j noFn).outs (onesE args) 0 (fs.getD j noFn).outs.len) := by
  obtain ⟨g1, g2, g3⟩ := fn_parts (progB_fn hpb hj)
  refine lisE_rel (evE_rel (fun i hi => progB_fn hpb hi) alike1 3001) (fi := j) (by omega) (q := 0) (by decide) (by rw [hal]; exact g3) ?_ _ (Nat.le_refl _)
  refine ⟨(onesE_len args).symm, fun i hi => ?_⟩
  have e : (onesE args).getD i ((sA 1).cst 0) = [args.getD i 0] := by
    unfold onesE
    rw [List.getD_eq_getElem?_getD, List.getElem?_map, List.getD_eq_getElem?_getD, List.getElem?_eq_getElem hi]; rfl
  rw [e]
  exact ⟨rfl, hN.at i⟩
theorem heads_rel {l : List Int} {m : List (List Int)} (h : Rls nA (sA 1) One1 l m) : heads m = l ∧ Nums l := by
  have key : ∀ i (hi : i < l.length) (hm : i < m.length), m[i] = [l[i]] ∧ 0 ≤ l[i] ∧ l[i] < 1000003 := by
    intro i hi hm
    have := h.at_ i hi
    rw [List.getD_eq_getElem?_getD, List.getD_eq_getElem?_getD, List.getElem?_eq_getElem hi, List.getElem?_eq_getElem hm] at this
    exact this
  refine ⟨List.ext_getElem (by rw [heads_len, h.len]) fun i h1 h2 => ?_, fun y hy => ?_⟩
  · have hm : i < m.length := by rw [← h.len]; exact h2
    have e : (heads m)[i] = (m[i]).getD 0 0 := by simp [heads]
    rw [e, (key i h2 hm).1]; rfl
  · obtain ⟨i, hi, rfl⟩ := List.getElem_of_mem hy
    exact (key i hi (by rw [← h.len]; exact hi)).2
/-- what the model answers -/
def EvM (w : World) (r : Rl Int) (e : Ending) (w' : World) : Prop :=
  Below w.heap.size w w' ∧ ((r.c = 0 ∧ ∃ g cap, e = .returned (.tuple #[.slice (some ⟨g, 0, none⟩) r.l.length cap, .int .i64 r.s, .int .i64 0]) ∧ Own w.heap.size w' g cap r.l ∧ Nums r.l) ∨ (¬ r.c = 0 ∧ ∃ g, e = .returned (.tuple #[.slice (some ⟨g, 0, none⟩) 0 0, .int .i64 0, .int .i64 r.c])))

set_option maxRecDepth 100000 in
set_option maxHeartbeats 12800000 in
theorem sEval (fs : List Fn) (bp op : Nat) (ap : Option Addr) (capp : Nat) (j : Nat) (aa : Option Addr) (ca : Nat) (args : List Int) (w : World)
    (hp : w.cell? ⟨bp, op, none⟩ = some (.slice ap fs.length capp)) (hpb : progB fs = true) (hj : j < fs.length) (hfl : fs.length ≤ 1048576) (hP : Pat w 0 w.heap.size fs ap) (hA : At w aa args) (hN : Nums args) (hal : (args.length : Int) = (fs.getD j noFn).params) :
    Calls Tryz.prog 37 #[.pointer (some ⟨bp, op, none⟩), .int .i64 j, .slice aa args.length ca] w (EvM w (lisE nA (evE nA fs 3001) (fs.getD j noFn).outs args 0 (fs.getD j noFn).outs.len)) := by
  obtain ⟨g1, g2, g3⟩ := fn_parts (progB_fn hpb hj)
  obtain ⟨i1, hj1, hy0, hy1, hy2⟩ := info_parts infoRowE
  obtain ⟨i0, hi, hz0, hz1, hz2⟩ := info_parts info64
  have hbpw := cell_lt hp
  have hji : (j : Int) < (fs.length : Int) := by omega
  have hargs : args.length ≤ 12 := by omega
  obtain ⟨wR, hwR⟩ : ∃ wR, w.alloc (.cells #[.pointer (some ⟨bp, op, none⟩), .int .i64 1, .int .i64 0, .int .i64 0] 101) = wR := ⟨_, rfl⟩
  have zR : wR.heap.size = w.heap.size + 1 := by rw [← hwR]; simp
  have bR : Below w.heap.size w wR := by rw [← hwR]; exact (Below.refl _ _).alloc (Nat.le_refl _) _
  have RR : RnAt wR w.heap.size bp op 1 0 0 := ⟨by rw [← hwR]; simp [go_sem], by rw [← hwR]; simp [go_sem], by rw [← hwR]; simp [go_sem], by rw [← hwR]; simp [go_sem], fun o => by rw [← hwR]; simp [go_sem]⟩
  obtain ⟨wO, hwO⟩ : ∃ wO, wR.alloc (.cells #[] 25) = wO := ⟨_, rfl⟩
  have bO : Below wR.heap.size wR wO := by rw [← hwO]; exact (Below.refl _ _).alloc (Nat.le_refl _) _
  have HO0 : Hid (Eo wO wR.heap.size w.heap.size (fun _ => False) 1 wR.heap.size 0 0 (onesE (args.take 0))) := by
    rw [← hwO]
    exact ⟨⟨[], World.ownsRow_made wR #[] 0 (Nat.le_refl _) (by unfold maxLen; omega) rfl, fun i h => absurd h (Nat.not_lt_zero _)⟩, rfl, fun i h => absurd h (Nat.not_lt_zero _), fun i h => absurd h (Nat.not_lt_zero _)⟩
  have HB0 : Hid (Below wR.heap.size wR wO) := bO
  obtain ⟨bf, of, rfl, hbB, hall⟩ := hP.resolve_left (by intro e; rw [e] at hj; simp at hj)
  obtain ⟨hrr, af, cf, f0, f1, f2, hFo⟩ := hall j hj
  have HAL := Lib.hid hal
  have HP := Lib.hid hP
  have HFO := Lib.hid hFo
  have HA := Lib.hid hA
  have HNS := Lib.hid hN
  have hS : Hid (PSO fs (some ⟨bf, of, none⟩) capp w.heap.size bp op 1 w.heap.size 3001) := (sEvals (Nat.le_refl _) hbpw (Nat.le_refl _) (by omega) (fun i hi => progB_fn hpb hi) hfl 3001).2
  have HREL := Lib.hid (evals_rel hpb hj hN hal)
  have HOL12 : Hid ((fs.getD j noFn).outs.len ≤ 12) := g2.2
  have HG3 := Lib.hid g3
  have HZR := Lib.hid zR
  clear hall hrr f0 f1 hFo hP hA hN g1 g2 g3 hal zR
  generalize (fs.getD j noFn).params = pm at *
  generalize (fs.getD j noFn).outs = O at *
  go_enter Tryz.func37, Tryz.ntmps37
  go_wp2_with fail
  go_loopw [10, 11] (fun lv x wr => ∃ (i g kg : Nat), i ≤ args.length ∧ x = .int .i64 i ∧ lv = .slice (some ⟨g, 0, none⟩) i kg ∧ Hid (Eo wr wR.heap.size w.heap.size (fun _ => False) 1 g kg i (onesE (args.take i))) ∧ Hid (Below wR.heap.size wR wr)) (fun _ x _ => args.length - (intOf x).toNat)
  case atStart => exact ⟨0, wR.heap.size, 0, Nat.zero_le _, rfl, rfl, HO0.out, HB0.out⟩
  case round =>
    obtain ⟨i, g, kg, hi2, rfl, rfl, HO, HB⟩ := hrel
    clear HO0 HB0 hwR hwO
    have zR := HZR.out
    have hgb := HO.out.base
    have hzr := HB.out.size
    by_cases hlt : i < args.length
    · have hii : (i : Int) < (args.length : Int) := by omega
      obtain ⟨b7, o7, rfl, hb7, hc7⟩ := ((HA.out.below bR (Nat.le_refl _)).below HB.out (by omega)).resolve_left (by intro e; rw [e] at hlt; simp at hlt)
      have hx := hc7 i hlt
      have HX := Lib.hid (HNS.out.at i)
      have HTK : Hid (onesE (args.take (i + 1)) = onesE (args.take i) ++ [[args.getD i 0]]) := onesE_take hlt
      obtain ⟨us, hu1, hu2⟩ := HO.out.top
      have hul : us.length = i := by have := hu1.1; omega
      have HU2 := Lib.hid hu2
      have HOL := Lib.hid (And.intro HO.out.vl (And.intro HO.out.len HO.out.nums))
      clear hu2 HO hc7
      generalize args.getD i 0 = x at *
      obtain ⟨wA, hwA⟩ : ∃ wA, wr.alloc (.cells #[.int .i64 x] 2) = wA := ⟨_, rfl⟩
      have hbA : Below wr.heap.size wr wA := by rw [← hwA]; exact (Below.refl _ _).alloc (Nat.le_refl _) _
      have zA : wA.heap.size = wr.heap.size + 1 := by rw [← hwA]; simp
      have HLS : Hid (Ls wA w.heap.size (some ⟨wr.heap.size, 0, none⟩) [x]) := by
        rw [← hwA]
        refine ⟨.inr ⟨wr.heap.size, 0, rfl, by simp, ?_⟩, fun g hg => by have := blk_eqE hg; omega⟩
        intro i hi
        obtain rfl : i = 0 := by simpa using hi
        simp [go_sem]
      have hu1A : wA.ownsRow wR.heap.size 25 1 (.slice (some ⟨g, 0, none⟩) i kg) i us := by rw [← hwA]; exact hu1.alloc _
      have HU2A : Hid (∀ k, k < i → ∃ ai ci, us[k]? = some (.slice ai 1 ci) ∧ Ls wA w.heap.size ai ((onesE (args.take i)).getD k []) ∧ ∀ gb, blk ai ((onesE (args.take i)).getD k []) = some gb → gb ≠ g ∧ (False ∨ wR.heap.size ≤ gb)) := by
        show ∀ k, _
        intro k hk
        obtain ⟨ai, ci, h1, h2, h3⟩ := HU2.out k hk
        exact ⟨ai, ci, h1, h2.next hbA, h3⟩
      have HZA := Lib.hid zA
      have hzA : wr.heap.size < wA.heap.size := by omega
      clear HU2 hu1 zR zA
      go_wp2_with (at_builtin; refine wpList_append_lies _ rfl _ _ _ rfl wR.heap.size 25 i1 _ 1 24 Tryz.underlying47 hj1 hy0 hy1 hy2 rfl (by omega) (.slice (some ⟨g, 0, none⟩) i kg) i us rfl (hu1A.alloc _) ⟨wA.heap.size, 0, none⟩ 1 1 [.slice (some ⟨wr.heap.size, 0, none⟩) 1 1] rfl rfl (World.news_of_block (cs := #[.slice (some ⟨wr.heap.size, 0, none⟩) 1 1]) (t := 25) (fr := (0, 0)) (heap_alloc_new wA _)) (by simp [Value.oneCell']) (by omega) (by unfold maxLen; omega) (by omega) (by simp; omega) (wA.heap.size + 1) (by simp) ?_; intro gg cg w4 hown4 hgrow hat hlt4)
      have zR := HZR.out
      have zA := HZA.out
      have hba : Below wA.heap.size wA (wA.alloc (.cells #[.slice (some ⟨wr.heap.size, 0, none⟩) 1 1] 25)) := (Below.refl _ _).alloc (Nat.le_refl _) _
      have hgg : gg = g ∨ wA.heap.size ≤ gg := gg_at hat rfl
      have HN := Lib.hid (eo_push (R := fun _ => False) HOL.out.1 HOL.out.2.1 HOL.out.2.2 hul HU2A.out hba hown4 hgrow hgg HLS.out rfl (by intro y hy; simp at hy; rw [hy]; exact HX.out) (fun gb hg => by have := blk_eqE hg; exact ⟨by omega, .inr (by omega)⟩))
      rw [← HTK.out] at HN
      have HBN := Lib.hid (below_grownE (g := g) ((HB.out.trans (hbA.mono hzr)).trans (hba.mono (by omega))) hgrow (Nat.le_refl _) hgb.1)
      clear hown4 hgrow hat hu1A HOL HU2A HLS hwA zR zA
      go_wp2_with fail
      go_roundw
      case rel => exact ⟨i + 1, gg, cg, by omega, by go_num, rfl, HN.out, HBN.out⟩
      case measure => simp [intOf]; omega
    · have hii : ¬ (i : Int) < (args.length : Int) := by omega
      obtain rfl : i = args.length := by omega
      rw [List.take_length] at HO
      have hvl := HO.out.vl
      have hcw := (bR.cell (p := ⟨bp, op, none⟩) hbpw).trans hp
      have hp2 := (HB.out.cell (p := ⟨bp, op, none⟩) (by show bp < _; omega)).trans hcw
      have hPw : Pat wr 0 w.heap.size fs (some ⟨bf, of, none⟩) := (HP.out.below bR).below (HB.out.mono (by omega))
      have hFw : Fat wr 0 w.heap.size O af := HFO.out.agree (fun k _ h2 => (HB.out.block k (by omega)).trans (bR.block k h2))
      have f2w := (HB.out.cell (p := ⟨bf, of + j * 3 + 2, none⟩) (by show bf < _; omega)).trans ((bR.cell (p := ⟨bf, of + j * 3 + 2, none⟩) (by show bf < _; omega)).trans f2)
      have HC := Lib.hid (hS.out (fun q => False ∨ wR.heap.size ≤ q ∧ q < wr.heap.size) j O af cf bf (of + j * 3) (some ⟨g, 0, none⟩) kg (onesE args) 0 0 wr (by omega) (by omega) (by omega) (by rw [hvl, HAL.out]; exact HG3.out) (RR.next HB.out) hp2 hPw f2w hbB.2 hFw (by have := HOL12.out; omega) (HO.out.en (by omega)) (fun q hq => by rcases hq with hq | hq; cases hq; exact hq.2) (by omega))
      rw [hvl, lisX_zero] at HC
      have HLE : Hid ((lisE nA (evE nA fs 3001) O args 0 O.len).c = 0 → (lisE nA (evE nA fs 3001) O args 0 O.len).l.length = O.len) := lisE_len O.len
      generalize lisE (sA 1) (evE (sA 1) fs 3001) O (onesE args) 0 O.len = X at *
      generalize lisE nA (evE nA fs 3001) O args 0 O.len = Y at *
      have hBw : Below w.heap.size w wr := bR.trans (HB.out.mono (by omega))
      clear hPw hFw f2w HO hvl HG3 hS HFO HP zR
      go_wp2_with fail
      have zR := HZR.out
      refine HC.out.mono ?_; rintro e w2 ⟨k2, r2, g2, kg2, vs, rfl, ho2, hv2⟩
      have c3 := r2.c3
      have c2 := r2.c2
      have z2 := k2.size
      have HE2 := Lib.hid ho2
      have HV2 := Lib.hid hv2
      have HB2 : Hid (Below w.heap.size w w2) := hBw.trans (b := wr) ⟨k2.os, k2.tape, k2.output, k2.size, fun q hq => k2.block q (by omega) (by omega)⟩
      clear HC ho2 hv2 k2
      have HEC : Hid (Y.c = X.c) := HREL.out.c
      by_cases hc : X.c = 0
      rotate_left
      · have hcb : (X.c != 0) = true := by simp [hc]
        have HNC : Hid (¬ Y.c = 0) := by show ¬ _; rw [HEC.out]; exact hc
        clear hc c2
        go_wp2_with fail
        go_region_held3 (fun w' => w'.cell? ⟨w.heap.size, 3, none⟩ = some (.int .i64 X.c)) (first | with_reducible exact c3 | go_keep) (fail)
        all_goals
          go_wp2_with fail
          go_ret3
          exact ⟨HB2.out.trans (b := w2) (by first | exact (((Below.refl w2.heap.size w2).drew).alloc (Nat.le_refl _) _).mono (by omega) | exact (((Below.refl w2.heap.size w2).alloc (Nat.le_refl _) _).drew).mono (by omega)), .inr ⟨HNC.out, _, by rw [HEC.out]; rfl⟩⟩
      · have hcb : (X.c != 0) = false := by rw [hc]; rfl
        have HES : Hid (Y.s = X.s) := HREL.out.s
        have HY0 : Hid (Y.c = 0) := HEC.out.trans hc
        obtain ⟨hh1, hh2⟩ := heads_rel (HREL.out.l HY0.out)
        rw [← HV2.out hc] at hh1
        have HH1 := Lib.hid hh1
        have HH2 := Lib.hid hh2
        have HVL := Lib.hid HE2.out.vl
        have HEN := Lib.hid (HE2.out.en (by omega))
        have hO0 := own_none w2 w2.heap.size (Nat.le_refl _)
        have HOW0 : Hid (Own w2.heap.size (w2.alloc (.cells #[] 2)) w2.heap.size 0 (heads (vs.take 0))) := hO0
        have HBW0 : Hid (Below w2.heap.size w2 (w2.alloc (.cells #[] 2))) := (Below.refl _ _).alloc (Nat.le_refl _) _
        have HX0 := Lib.hid hc
        clear HE2 hh1 hh2 hO0 hc HREL
        go_wp2_with fail
        obtain ⟨wB, rfl⟩ : ∃ wB, wB = wr := ⟨_, rfl⟩
        go_loopw [13, 14] (fun lv x wr => ∃ (i g cap : Nat), i ≤ O.len ∧ x = .int .i64 i ∧ lv = .slice (some ⟨g, 0, none⟩) i cap ∧ Hid (Own w2.heap.size wr g cap (heads (vs.take i))) ∧ Hid (Below w2.heap.size w2 wr)) (fun _ x _ => O.len - (intOf x).toNat)
        case atStart => exact ⟨0, w2.heap.size, 0, Nat.zero_le _, rfl, rfl, HOW0.out, HBW0.out⟩
        case round =>
          obtain ⟨i, g, cap, hi2, rfl, rfl, HOW, HBW⟩ := hrel
          clear HOW0 HBW0
          have hgb := HOW.out.base
          have hzr3 := HBW.out.size
          by_cases hlt : i < O.len
          · have hii : (i : Int) < (O.len : Int) := by omega
            obtain ⟨b7, o7, e7, hbn7, hbw7, hall7⟩ := (HEN.out.next HBW.out).rows.resolve_left (by intro e; have := HVL.out; rw [e] at this; simp at this; omega)
            cases e7
            obtain ⟨ai, ci, hcell, hls, _⟩ := hall7 i (by rw [HVL.out]; exact hlt)
            rw [Nat.zero_add] at hcell
            have hl1 := HEN.out.len i (by rw [HVL.out]; exact hlt)
            obtain ⟨b8, o8, rfl, hb8, hc8⟩ := hls.at_.resolve_left (by intro e; rw [e] at hl1; simp at hl1)
            have hx := hc8 0 (by omega)
            rw [Nat.add_zero] at hx
            have HTK : Hid (heads (vs.take (i + 1)) = heads (vs.take i) ++ [(vs.getD i []).getD 0 0]) := heads_take (by rw [HVL.out]; exact hlt)
            have HXL : Hid ((heads (vs.take i)).length = i) := by show _ = _; rw [heads_len, List.length_take, HVL.out]; omega
            have ho2 : wr.ownsRow w2.heap.size 2 1 (.slice (some ⟨g, 0, none⟩) i cap) i ((heads (vs.take i)).map (Value.int .i64)) := by
              have := HOW.out
              unfold Own at this
              rw [HXL.out] at this
              exact this
            have hol := HOL12.out
            clear hall7 hls hl1 hc8 HOW
            generalize (vs.getD i []).getD 0 0 = x at *
            generalize heads (vs.take i) = xs at *
            go_wp2_with (at_builtin; refine wpList_append_lies _ rfl _ _ _ rfl w2.heap.size 2 i0 _ 1 8 Tryz.underlying25 ‹Tryz.prog.info? 2 = some i0› hz0 hz1 hz2 rfl (by omega) (.slice (some ⟨g, 0, none⟩) i cap) i (xs.map (Value.int .i64)) rfl (ho2.alloc _) ⟨wr.heap.size, 0, none⟩ 1 1 [.int .i64 x] rfl rfl (World.news_of_block (cs := #[.int .i64 x]) (t := 2) (fr := (0, 0)) (heap_alloc_new wr _)) (by simp [Value.oneCell']) (by omega) (by unfold maxLen; omega) (by omega) (by simp; omega) (wr.heap.size + 1) (by simp) ?_; intro gg cc w4 hown4 hgrow hat hlt4)
            have hw4 : Below w2.heap.size w2 w4 := below_grownE (g := g) (HBW.out.alloc hzr3 _) hgrow (Nat.le_refl _) hgb.1
            have HO4 : Hid (Own w2.heap.size w4 gg cc (xs ++ [x])) := own_appended (by rw [HXL.out]; exact hown4)
            rw [← HTK.out] at HO4
            have HB4 := Lib.hid hw4
            clear hown4 hgrow hat ho2 hw4
            go_wp2_with fail
            go_roundw
            case rel => exact ⟨i + 1, gg, cc, by omega, by go_num, rfl, HO4.out, HB4.out⟩
            case measure => simp [intOf]; omega
          · have hii : ¬ (i : Int) < (O.len : Int) := by omega
            obtain rfl : i = O.len := by omega
            have c2' := (HBW.out.cell (p := ⟨w.heap.size, 2, none⟩) (by show w.heap.size < _; omega)).trans c2
            clear c2
            go_wp2_with fail
            go_region
            go_wp2_with fail
            go_ret3
            rw [List.take_of_length_le (by rw [HVL.out]; exact Nat.le_refl _), HH1.out] at HOW
            exact ⟨HB2.out.trans (b := w2) ((HBW.out.mono (by omega)).drew), .inl ⟨HY0.out, g, cap, by rw [HLE.out HY0.out, HES.out]; rfl, HOW.out.mono (by omega), HH2.out⟩⟩

theorem EvM.from {w w1 : World} {r : Rl Int} {e : Ending} {w' : World} (h : EvM w1 r e w') (hb : Below w.heap.size w w1) : EvM w r e w' := by
  have hz := hb.size
  refine ⟨hb.trans (h.1.mono hz), h.2.imp (fun ⟨h1, g, cap, h2, h3, h4⟩ => ⟨h1, g, cap, h2, h3.mono hz, h4⟩) id⟩
set_option maxRecDepth 100000 in
set_option maxHeartbeats 6400000 in
theorem sEvaluate (fs : List Fn) (ap : Option Addr) (capp : Nat) (f : Int) (aa : Option Addr) (ca : Nat) (args : List Int) (w : World) (hP : Pat w 0 w.heap.size fs ap) (hsz : pgSize fs ≤ 1048576) (hA : At w aa args) (hal : args.length ≤ 1048576) :
    Calls Tryz.prog 11 #[.agg #[.slice ap fs.length capp], .int .i64 f, .slice aa args.length ca] w (EvM w (evL fs f args)) := by
  have hfl : fs.length ≤ 1048576 := by unfold pgSize at hsz; omega
  obtain ⟨w0, hw0⟩ : ∃ w0, w.alloc (.cells #[.slice ap fs.length capp] 31) = w0 := ⟨_, rfl⟩
  have hb0 : Below w.heap.size w w0 := by rw [← hw0]; exact (Below.refl _ _).alloc (Nat.le_refl _) _
  have P0 := (hP.below hb0).mono (Nat.le_refl _) hb0.size
  have A0 := hA.below hb0 (Nat.le_refl _)
  have c0 : w0.cell? ⟨w.heap.size, 0, none⟩ = some (.slice ap fs.length capp) := by rw [← hw0]; simp [go_sem]
  have HS := Lib.hid (sArgs fs w.heap.size 0 ap capp f aa ca args w0 c0 P0 hsz A0 hal)
  by_cases hc : plC fs f args = 0
  · have hk : progB fs = true ∧ (0 ≤ f ∧ f < (fs.length : Int)) ∧ areB args (fs.getD f.toNat noFn).params = true := by
      unfold plC at hc
      by_cases hpb : progB fs = true
      · rw [if_pos hpb] at hc
        by_cases h2 : 0 ≤ f ∧ f < (fs.length : Int)
        · rw [if_pos h2] at hc
          by_cases h3 : areB args (fs.getD f.toNat noFn).params = true
          · exact ⟨hpb, h2, h3⟩
          · rw [if_neg h3] at hc; cases hc
        · rw [if_neg h2] at hc; cases hc
      · rw [if_neg hpb] at hc; cases hc
    have HEV : Hid (evL fs f args = lisE nA (evE nA fs 3001) (fs.getD f.toNat noFn).outs args 0 (fs.getD f.toNat noFn).outs.len) := evL_yes hc
    obtain ⟨j, rfl⟩ := Int.eq_ofNat_of_zero_le hk.2.1.1
    have hj : j < fs.length := by omega
    have hlen : (args.length : Int) = (fs.getD j noFn).params := by
      by_cases h : (args.length : Int) = (fs.getD j noFn).params
      · exact h
      · have := hk.2.2; rw [show (j : Int).toNat = j from rfl, areB_len h] at this; cases this
    have hnm : Nums args := by
      have := hk.2.2; rw [show (j : Int).toNat = j from rfl, areB_of hlen] at this; exact okNums_nums this
    have HE := fun q => Lib.hid (sEval fs w.heap.size 0 ap capp j aa ca args (w0.drewN q) c0 hk.1 hj hfl (P0.below (below_drewN (Below.refl _ _) q)) (A0.drewN q) hnm hlen)
    rw [hc] at HS
    generalize evL fs (j : Int) args = r at HEV ⊢
    have HB0 := Lib.hid hb0
    clear hk hlen hP hA P0 A0 hc hb0
    go_enter Tryz.func11, Tryz.ntmps11
    go_wp2_with fail
    refine HS.out.mono ?_; rintro e w1 ⟨rfl, q, rfl⟩
    go_wp2_with fail
    refine (HE q).out.mono ?_; rintro e w2 h2
    rw [show lisE nA (evE nA fs 3001) (fs.getD j noFn).outs args 0 (fs.getD j noFn).outs.len = r from HEV.out.symm] at h2
    have h3 := h2.from (HB0.out.trans ((below_drewN (Below.refl _ _) q).mono (by have := HB0.out.size; omega)))
    obtain ⟨hbw, ⟨h4, g, cap, rfl, h5, h6⟩ | ⟨h4, g, rfl⟩⟩ := h3
    · go_wp2_with fail
      go_ret3
      exact ⟨hbw, .inl ⟨h4, g, cap, rfl, h5, h6⟩⟩
    · go_wp2_with fail
      go_ret3
      exact ⟨hbw, .inr ⟨h4, g, rfl⟩⟩
  · have HEV : Hid (evL fs f args = ⟨[], 0, plC fs f args⟩) := evL_no hc
    have hcb : (plC fs f args != 0) = true := by simp [hc]
    have HNC := Lib.hid hc
    have HB0 := Lib.hid hb0
    generalize evL fs f args = r at HEV ⊢
    generalize plC fs f args = pc at *
    clear hc hP hA P0 A0 hb0
    go_enter Tryz.func11, Tryz.ntmps11
    go_wp2_with fail
    refine HS.out.mono ?_; rintro e w1 ⟨rfl, q, rfl⟩
    go_wp2_with fail
    go_ret3
    have hz0 := HB0.out.size
    exact ⟨(HB0.out.trans ((below_drewN (Below.refl _ _) q).mono hz0)).alloc (by show w.heap.size ≤ w0.heap.size; exact hz0) _, .inr ⟨by rw [HEV.out]; exact HNC.out, _, by rw [HEV.out]; rfl⟩⟩

end Go.Proofs.YtoedccgiahegnaaGreat
