/- EvaluateSeries by the program: series that come in. EvaluateSeries by the program. EvaluateSeries by the model. PathDerivative by the program. PathDerivative by the model. The law on derivatives along a path. -/
import Derived.Deep.RegionHeld3
import Derived.BigQuiet
import Derived.Test.YtldbhhocoolloaaGreatUl
import Derived.Test.YtldbhhocoolloaaGreatMt
import Derived.Test.YtldbhhocoolloaaGreatOne
namespace Go.Proofs.YtldbhhocoolloaaGreat
open Go.RowKit
set_option linter.unusedVariables false

/-- a row is a series as long as the first row -/
def osR (args : List (List Int)) (i : Nat) : Bool := okS (args.getD i []) && decide ((args.getD i []).length = (args.getD 0 []).length)
def osB (args : List (List Int)) : Bool := (List.range args.length).all (osR args)
theorem osB_t {args : List (List Int)} (h : osB args = true) {i : Nat} (hi : i < args.length) : okS (args.getD i []) = true ∧ (args.getD i []).length = (args.getD 0 []).length := by
  unfold osB at h
  have := List.all_eq_true.1 h i (List.mem_range.2 hi)
  unfold osR at this
  rw [Bool.and_eq_true] at this
  exact ⟨this.1, of_decide_eq_true this.2⟩
theorem osB_f {args : List (List Int)} {i : Nat} (hi : i < args.length) (h : osR args i = false) : osB args = false := by
  cases hb : osB args with
  | false => rfl
  | true =>
    unfold osB at hb
    have := List.all_eq_true.1 hb i (List.mem_range.2 hi)
    rw [h] at this; cases this
theorem osB_all {args : List (List Int)} (h : ∀ i, i < args.length → osR args i = true) : osB args = true := by
  unfold osB
  exact List.all_eq_true.2 fun i hi => h i (List.mem_range.1 hi)
/-- how many coefficients the series have -/
def esN (args : List (List Int)) : Nat := if args.length = 0 then 1 else (args.getD 0 []).length
theorem esN_row {args : List (List Int)} (h : osB args = true) {i : Nat} (hi : i < args.length) : (args.getD i []).length = esN args ∧ Nums (args.getD i []) := by
  obtain ⟨h1, h2⟩ := osB_t h hi
  unfold esN
  rw [if_neg (by omega)]
  exact ⟨h2, (okS_t h1).2.2⟩
theorem esN_bd {args : List (List Int)} (h : osB args = true) : 1 ≤ esN args ∧ esN args ≤ 13 := by
  unfold esN
  by_cases h0 : args.length = 0
  · rw [if_pos h0]; omega
  · rw [if_neg h0]
    have h1 := okS_t (osB_t h (i := 0) (by omega)).1
    exact ⟨h1.1, h1.2.1⟩

namespace Sr
set_option maxRecDepth 100000 in
set_option maxHeartbeats 3200000 in
theorem iHave (a : Option Addr) (ca : Nat) (args : List (List Int)) (w : World) (hM : Mat w a args) (hs : mSz args ≤ 1048576) :
    Calls Tryz.prog 53 #[.slice a args.length ca] w fun e w' => e = .returned (.bool (osB args)) ∧ w = w' := by
  have hll : args.length ≤ 1048576 := by unfold mSz at hs; omega
  have HR := fun i => Lib.hid (mSz_row (i := i) hs)
  have HM := Lib.hid hM
  clear hM hs
  go_enter Tryz.func53, Tryz.ntmps53
  go_wp2_with fail
  go_loopw [4, 7] (fun _ x wr => ∃ i : Nat, i ≤ args.length ∧ x = .int .i64 i ∧ Hid (∀ k, k < i → osR args k = true) ∧ w = wr) (fun _ x _ => args.length - (intOf x).toNat)
  case atStart => exact ⟨0, Nat.zero_le _, rfl, fun k hk => absurd hk (Nat.not_lt_zero _), rfl⟩
  case round =>
    obtain ⟨i, hi, rfl, HI, rfl⟩ := hrel
    by_cases hlt : i < args.length
    · have hii : (i : Int) < (args.length : Int) := by omega
      have h0i : (0 : Int) < (args.length : Int) := by omega
      obtain ⟨b, off, rfl, hb, hall⟩ := HM.out.resolve_left (by intro e; rw [e] at hlt; simp at hlt)
      obtain ⟨ai, ci, hx, hAi⟩ := hall i hlt
      obtain ⟨a0, c0, hx0, _⟩ := hall 0 (by omega)
      rw [Nat.add_zero] at hx0
      have HV := Lib.hid (iValid ai ci (args.getD i []) w hAi (by have := (HR i).out; omega))
      have HRI : Hid (osR args i = (okS (args.getD i []) && decide ((args.getD i []).length = (args.getD 0 []).length))) := rfl
      have HBF : Hid (osR args i = false → osB args = false) := osB_f hlt
      have HNX : Hid (osR args i = true → ∀ k, k < i + 1 → osR args k = true) := fun h k hk => by
        by_cases e : k < i
        · exact HI.out k e
        · obtain rfl : k = i := by omega
          exact h
      clear hall hAi HI
      generalize args.getD i [] = row at *
      generalize args.getD 0 [] = row0 at *
      generalize osR args i = bb at *
      cases hok : okS row with
      | false =>
        rw [hok] at HV HRI
        have HF : Hid (osB args = false) := HBF.out (by rw [HRI.out]; rfl)
        clear HBF HNX HRI hok
        go_wp2_with fail
        refine HV.out.mono ?_; rintro e w' ⟨rfl, rfl⟩
        go_wp2_with fail
        go_ret
        exact ⟨by rw [HF.out]; rfl, rfl⟩
      | true =>
        rw [hok] at HV HRI
        by_cases hle : row.length = row0.length
        · have hlb : ((row.length : Int) != (row0.length : Int)) = false := by rw [hle]; simp
          have HN2 := Lib.hid (HNX.out (by rw [HRI.out, decide_eq_true hle]; rfl))
          clear HBF HNX HRI hok hle
          go_wp2_with fail
          refine HV.out.mono ?_; rintro e w' ⟨rfl, rfl⟩
          go_wp2_with fail
          go_roundw
          case rel => exact ⟨i + 1, by omega, by go_num, HN2.out, by first | rfl | trivial⟩
          case measure => simp [intOf]; omega
        · have hlb : ((row.length : Int) != (row0.length : Int)) = true := by simp; omega
          have HF : Hid (osB args = false) := HBF.out (by rw [HRI.out, decide_eq_false hle]; rfl)
          clear HBF HNX HRI hok hle
          go_wp2_with fail
          refine HV.out.mono ?_; rintro e w' ⟨rfl, rfl⟩
          go_wp2_with fail
          go_ret
          exact ⟨by rw [HF.out]; rfl, rfl⟩
    · have hii : ¬ (i : Int) < (args.length : Int) := by omega
      obtain rfl : i = args.length := by omega
      have HT : Hid (osB args = true) := osB_all HI.out
      go_wp2_with fail
      go_ret
      exact ⟨by rw [HT.out]; rfl, rfl⟩

set_option maxRecDepth 100000 in
set_option maxHeartbeats 1600000 in
theorem iOrderOf (a : Option Addr) (ca : Nat) (args : List (List Int)) (w : World) (hM : Mat w a args) (hl : (args.getD 0 []).length ≤ 1048576) (hl2 : args.length ≤ 1048576) :
    Calls Tryz.prog 54 #[.slice a args.length ca] w fun e w' => e = .returned (.int .i64 ((esN args : Int) - 1)) ∧ w = w' := by
  by_cases h0 : args.length = 0
  · have HE : Hid ((esN args : Int) - 1 = 0) := by show _ = _; unfold esN; rw [if_pos h0]; rfl
    rw [h0]
    clear hM
    go_enter Tryz.func54, Tryz.ntmps54
    go_wp2_with fail
    go_ret
    exact ⟨by rw [HE.out]; rfl, rfl⟩
  · have HE : Hid (esN args = (args.getD 0 []).length) := if_neg h0
    obtain ⟨b, off, rfl, hb, hall⟩ := hM.resolve_left (by intro e; rw [e] at h0; simp at h0)
    obtain ⟨a0, c0, hx0, _⟩ := hall 0 (by omega)
    rw [Nat.add_zero] at hx0
    have hbz : ((args.length : Int) == 0) = false := ne_beq (by omega)
    have h0i : (0 : Int) < (args.length : Int) := by omega
    clear hall h0
    generalize (args.getD 0 []).length = m at *
    go_enter Tryz.func54, Tryz.ntmps54
    go_wp2_with fail
    go_ret
    exact ⟨by rw [HE.out]; rfl, rfl⟩

set_option maxRecDepth 100000 in
set_option maxHeartbeats 3200000 in
theorem iSeriesOf (N : Nat) (a : Option Addr) (ca : Nat) (args : List (List Int)) (w : World) (hM : Mat w a args) (hN : ∀ i, i < args.length → (args.getD i []).length = N ∧ Nums (args.getD i [])) (hl2 : args.length ≤ 1048576) :
    Calls Tryz.prog 55 #[.slice a args.length ca] w fun e w' => ∃ g, e = .returned (.slice (some ⟨g, 0, none⟩) args.length args.length) ∧ En w' (w.heap.size + 1) (fun _ => True) N (some ⟨g, 0, none⟩) args ∧ Below w.heap.size w w' := by
  obtain ⟨i0, hi, hz0, hz1, hz2⟩ := info_parts infoS
  have HM := Lib.hid hM
  have HN := Lib.hid hN
  clear hM hN
  go_enter Tryz.func55, Tryz.ntmps55
  go_wp2_with (refine wpList_make_full _ rfl _ _ 87 rfl w.heap.size 98 i0 (.slice none 0 0) 1 Tryz.underlying87 hi hz0 hz1 .i64 .i64 _ _ args.length rfl rfl rfl rfl ?c2 ?c3 (Nat.le_refl _) ?_)
  case c2 => rw [hz2]; omega
  case c3 => unfold maxLen; omega
  intro w1 ho1 hg1
  have hb1 := (Below.refl w.heap.size w).grown hg1 (Nat.le_refl _) (by intro k hk; cases hk)
  have HO0 : Hid (Apart w1 w.heap.size w.heap.size (w.heap.size + 1) N args.length 0 (args.take 0)) := Apart.start (by simpa using ho1)
  have HB0 : Hid (Below w.heap.size w w1) := hb1
  clear ho1 hg1 hi hz0 hz1 hz2 hb1
  go_wp2_with fail
  go_loopw [4, 5, 11] (fun _ _ x wr => ∃ i : Nat, i ≤ args.length ∧ x = .int .i64 i ∧ Hid (Apart wr w.heap.size w.heap.size (w.heap.size + 1) N args.length i (args.take i)) ∧ Hid (Below w.heap.size w wr)) (fun _ _ x _ => args.length - (intOf x).toNat)
  case atStart => exact ⟨0, Nat.zero_le _, rfl, HO0.out, HB0.out⟩
  case round =>
    obtain ⟨i, hi2, rfl, HO, HB⟩ := hrel
    clear HO0 HB0
    by_cases hlt : i < args.length
    · have hii : (i : Int) < (args.length : Int) := by omega
      obtain ⟨b, off, rfl, hb, hall⟩ := HM.out.resolve_left (by intro e; rw [e] at hlt; simp at hlt)
      obtain ⟨ai, ci, hx', hAi⟩ := hall i hlt
      have hln := (HN.out i hlt).1
      have hx := (HB.out.cell (p := ⟨b, off + i, none⟩) hb).trans hx'
      rw [hln] at hx
      have hls : Ls wr (w.heap.size + 1) ai (args.getD i []) := ⟨hAi.below HB.out (Nat.le_refl _), fun g hg => by
        by_cases hl : args.getD i [] = []
        · rw [hl] at hg; simp [blk] at hg
        · obtain ⟨bb, oo, rfl, hbb, _⟩ := hAi.resolve_left hl
          simp [blk] at hg
          omega⟩
      obtain ⟨y, hcs⟩ := HO.out.cell hlt
      have hfr := HO.out.frz i
      have HP : Hid (Apart (wr.setCell ⟨w.heap.size, i, none⟩ (.slice ai N ci)) w.heap.size w.heap.size (w.heap.size + 1) N args.length (i + 1) (args.take (i + 1))) := by
        show Apart _ _ _ _ _ _ _ _
        rw [take_snocE hlt]
        exact HO.out.push hlt (by rw [List.length_take]; omega) hls hln (HN.out i hlt).2
      have HBF : Hid (Below w.heap.size w (wr.setCell ⟨w.heap.size, i, none⟩ (.slice ai N ci))) := HB.out.setCell (p := ⟨w.heap.size, i, none⟩) (Nat.le_refl _) _
      clear hall hx' hAi hls HO
      go_wp2_with fail
      go_roundw
      case rel => exact ⟨i + 1, by omega, by go_num, HP.out, HBF.out⟩
      case measure => simp [intOf]; omega
    · have hii : ¬ (i : Int) < (args.length : Int) := by omega
      obtain rfl : i = args.length := by omega
      rw [List.take_length] at HO
      go_wp2_with fail
      go_ret
      exact ⟨w.heap.size, rfl, HO.out.en rfl (by omega), HB.out⟩
end Sr

/-- the code for a function and series as its arguments -/
def esC (fs : List Fn) (f : Int) (args : List (List Int)) : Int := if progB fs = true then (if 0 ≤ f ∧ f < (fs.length : Int) then (if (args.length : Int) = (fs.getD f.toNat noFn).params ∧ osB args = true then 0 else 2) else 2) else 1
def esL (fs : List Fn) (f : Int) (args : List (List Int)) : Rl (List Int) := if esC fs f args = 0 then lisE (sA (esN args)) (evE (sA (esN args)) fs 3001) (fs.getD f.toNat noFn).outs args 0 (fs.getD f.toNat noFn).outs.len else ⟨[], 0, esC fs f args⟩
theorem esL_no {fs : List Fn} {f : Int} {args : List (List Int)} (h : ¬ esC fs f args = 0) : esL fs f args = ⟨[], 0, esC fs f args⟩ := if_neg h
theorem esL_yes {fs : List Fn} {f : Int} {args : List (List Int)} (h : esC fs f args = 0) : esL fs f args = lisE (sA (esN args)) (evE (sA (esN args)) fs 3001) (fs.getD f.toNat noFn).outs args 0 (fs.getD f.toNat noFn).outs.len := if_pos h
theorem esC_no {fs : List Fn} {f : Int} {args : List (List Int)} (h : ¬ FnAt fs f) : esC fs f args = if progB fs = true then 2 else 1 := by
  unfold esC
  by_cases hp : progB fs = true
  · rw [if_pos hp, if_pos hp, if_neg (fun h2 => h ⟨hp, h2⟩)]
  · rw [if_neg hp, if_neg hp]
theorem esC_yes {fs : List Fn} {f : Int} {args : List (List Int)} (h : FnAt fs f) : esC fs f args = if (args.length : Int) = (fs.getD f.toNat noFn).params ∧ osB args = true then 0 else 2 := by
  unfold esC
  rw [if_pos h.1, if_pos h.2]
theorem esC_ne {fs : List Fn} {f : Int} {args : List (List Int)} (h : ¬ FnAt fs f) : ¬ esC fs f args = 0 := by
  rw [esC_no h]; split <;> decide

end Go.Proofs.YtldbhhocoolloaaGreat

namespace Go.Proofs.YtldbhhocoolloaaGreat
open Go.RowKit
set_option linter.unusedVariables false

namespace Sr
theorem Ev2.open {N : Nat} {w : World} {r : Rl (List Int)} {e : Ending} {w' : World} (h : Ev2 N w r e w') : ∃ lv, e = .returned (.tuple #[lv, .int .i64 r.c]) ∧ ((r.c = 0 ∧ ∃ g br, lv = .slice (some ⟨g, 0, none⟩) r.l.length r.l.length ∧ En w' br (fun _ => True) N (some ⟨g, 0, none⟩) r.l) ∨ (¬ r.c = 0 ∧ lv = .slice none 0 0)) := by
  rcases h.2 with ⟨hc, g, br, he, hen⟩ | ⟨hc, he⟩
  · exact ⟨_, by rw [hc]; exact he, .inl ⟨hc, g, br, rfl, hen⟩⟩
  · exact ⟨_, he, .inr ⟨hc, rfl⟩⟩
set_option maxRecDepth 100000 in
set_option maxHeartbeats 6400000 in
theorem iEvalSeries (fs : List Fn) (ap : Option Addr) (capp : Nat) (f : Int) (a : Option Addr) (ca : Nat) (args : List (List Int)) (w : World) (hP : Pat w 0 w.heap.size fs ap) (hsz : pgSize fs ≤ 1048576) (hcap : fs.length ≤ capp) (hcm : capp ≤ 1048576) (hA : Mat w a args) (hs : mSz args ≤ 1048576) :
    Calls Tryz.prog 24 #[.agg #[.slice ap fs.length capp], .int .i64 f, .slice a args.length ca] w (TaRes w (esL fs f args)) := by
  have hfl : fs.length ≤ 1048576 := by unfold pgSize at hsz; omega
  obtain ⟨w0, hw0⟩ : ∃ w0, w0 = w.alloc (.cells #[.slice ap fs.length capp] 31) := ⟨_, rfl⟩
  have hb0 : Below w.heap.size w w0 := by rw [hw0]; exact (Below.refl _ _).alloc (Nat.le_refl _) _
  have z0 : w0.heap.size = w.heap.size + 1 := by rw [hw0]; simp
  have c0 : w0.cell? ⟨w.heap.size, 0, none⟩ = some (.slice ap fs.length capp) := by rw [hw0]; simp [go_sem]
  have P0 := (hP.below hb0).mono (Nat.le_refl _) hb0.size
  have HF := Lib.hid (iFunctionOfF fs ap capp f w0 w0.heap.size (Nat.le_refl _) P0 hsz hcap hcm)
  have HP := Lib.hid P0
  have HA := Lib.hid (hA.below hb0 (Nat.le_refl _))
  have HS := Lib.hid hs
  clear hP hA P0 hs
  go_enter Tryz.func24, Tryz.ntmps24
  go_wp2_with fail
  rw [← hw0]
  clear hw0
  refine HF.out.mono ?_; rintro e w1 ⟨hb1, ⟨hn, rfl⟩ | ⟨hy, af, cf, rfl, hFo⟩⟩
  · have hB1 := hb0.trans (hb1.mono hb0.size)
    have HC : Hid (esC fs f args = if progB fs = true then 2 else 1) := esC_no hn
    have HN := Lib.hid (esC_ne (args := args) hn)
    have HX := Lib.hid (esL_no (args := args) (esC_ne hn))
    rw [← HC.out]
    have hbf : (esC fs f args != 0) = true := by simp [HN.out]
    have hs1 := hB1.size
    clear HF HP HA hn HC
    generalize esC fs f args = pc at *
    go_wp2_with fail
    go_ret2
    rw [HX.out]
    exact TaRes.fail HN.out (hB1.alloc hs1 _)
  · have hB1 := hb0.trans (hb1.mono hb0.size)
    have HC := Lib.hid (esC_yes (args := args) hy)
    obtain ⟨hp1, hf1, hf2⟩ := hy
    obtain ⟨j, rfl⟩ := Int.eq_ofNat_of_zero_le hf1
    have ej : (j : Int).toNat = j := rfl
    rw [ej] at hFo HC ⊢
    have hj : j < fs.length := by omega
    have hs1 := hb1.size
    have c1 := (hb1.cell (p := ⟨w.heap.size, 0, none⟩) (cell_lt c0)).trans c0
    obtain ⟨w2, hw2⟩ : ∃ w2, w2 = w1.alloc (.cells #[.string (fs.getD j noFn).name, .int .i64 (fs.getD j noFn).params, .slice af (fs.getD j noFn).outs.len cf] 69) := ⟨_, rfl⟩
    have b2 : Below w1.heap.size w1 w2 := by rw [hw2]; exact (Below.refl _ _).alloc (Nat.le_refl _) _
    have z2 : w2.heap.size = w1.heap.size + 1 := by rw [hw2]; simp
    have q0 : w2.cell? ⟨w1.heap.size, 0, none⟩ = some (.string (fs.getD j noFn).name) := by rw [hw2]; simp [go_sem]
    have q1 : w2.cell? ⟨w1.heap.size, 1, none⟩ = some (.int .i64 (fs.getD j noFn).params) := by rw [hw2]; simp [go_sem]
    have q2 : w2.cell? ⟨w1.heap.size, 2, none⟩ = some (.slice af (fs.getD j noFn).outs.len cf) := by rw [hw2]; simp [go_sem]
    have c2 := (b2.cell (p := ⟨w.heap.size, 0, none⟩) (cell_lt c1)).trans c1
    have hb12 := hb1.trans (b2.mono hs1)
    have hB2 := hB1.trans (b2.mono hB1.size)
    have M2 := HA.out.below hb12 (Nat.le_refl _)
    have hol := (fn_parts (progB_fn hp1 hj)).2.1.2
    have hpm := (fn_parts (progB_fn hp1 hj)).1
    have HHA := Lib.hid (iHave a ca args w2 M2 HS.out)
    have HBAD : Hid (¬ ((args.length : Int) = (fs.getD j noFn).params ∧ osB args = true) → esL fs (j : Int) args = ⟨[], 0, 2⟩) := fun h => by
      have e : esC fs (j : Int) args = 2 := by rw [HC.out, if_neg h]
      rw [esL_no (by rw [e]; decide), e]
    have HGOOD : Hid ((args.length : Int) = (fs.getD j noFn).params ∧ osB args = true → esL fs (j : Int) args = lisE (sA (esN args)) (evE (sA (esN args)) fs 3001) (fs.getD j noFn).outs args 0 (fs.getD j noFn).outs.len) := fun h => by
      rw [esL_yes (by rw [HC.out, if_pos h])]
      rfl
    have HLEN : Hid ((args.length : Int) = (fs.getD j noFn).params ∧ osB args = true → (esL fs (j : Int) args).c = 0 → (esL fs (j : Int) args).l.length ≤ 12) := fun h hc => by
      rw [HGOOD.out h] at hc ⊢
      rw [lisE_len _ hc]
      exact hol
    have HOD := fun (W : World) (hW : Below w2.heap.size w2 W) => Lib.hid (iOrderOf a ca args W (M2.below hW (Nat.le_refl _)) (mSz_row HS.out) (by have := HS.out; unfold mSz at this; omega))
    have HSE := fun (h : osB args = true) (W : World) (hW : Below w2.heap.size w2 W) => Lib.hid (iSeriesOf (esN args) a ca args W (M2.below hW (Nat.le_refl _)) (fun i hi => esN_row h hi) (by have := HS.out; unfold mSz at this; omega))
    have HPT := fun (h : (args.length : Int) = (fs.getD j noFn).params ∧ osB args = true) (g br : Nat) (W : World) (hW : Below w2.heap.size w2 W) (hE : En W br (fun _ => True) (esN args) (some ⟨g, 0, none⟩) args) => Lib.hid (show Calls Tryz.prog 56 #[.agg #[(ofS ((esN args : Int) - 1)), .slice ap fs.length capp, .string (fs.getD j noFn).name, .int .i64 (fs.getD j noFn).params, .slice af (fs.getD j noFn).outs.len cf, .slice (some ⟨g, 0, none⟩) args.length args.length]] W (Ev2 (esN args) W (esL fs (j : Int) args)) from by
      have hbW : Below w0.heap.size w0 W := hb12.trans (hW.mono hb12.size)
      rw [HGOOD.out h]
      exact iPointS ((esN args : Int) - 1) (esN args) (by omega) (esN_bd h.2).1 (esN_bd h.2).2 fs ap capp j af cf br (some ⟨g, 0, none⟩) args.length args W hp1 hj hfl ((HP.out.below hbW).mono (Nat.le_refl _) hbW.size) ((hFo.agree (fun i _ h2 => hbW.block i h2)).mono (Nat.le_refl _) hbW.size) hE h.1 (Nat.le_refl _) (by omega))
    have LT0 : Hid (w.heap.size < w2.heap.size) := cell_lt c2
    have LT1 : Hid (w1.heap.size < w2.heap.size) := cell_lt q0
    have HN13 := Lib.hid (fun h => esN_bd (args := args) h)
    clear HF HP HA HC HGOOD hFo hp1 hf1 hf2 hb12 hb1 hol c0 c1 M2 z0 hpm
    obtain ⟨R, hR⟩ : ∃ R, esL fs (j : Int) args = R := ⟨_, rfl⟩
    rw [hR] at HBAD HPT HLEN
    have HRQ := Lib.hid hR
    clear hR
    generalize (fs.getD j noFn).name = nm at *
    generalize (fs.getD j noFn).params = pa at *
    generalize (fs.getD j noFn).outs.len = mo at *
    have HY0 : Hid (w2.cell? ⟨w.heap.size, 0, none⟩ = some (.slice ap fs.length capp) ∧ w2.cell? ⟨w1.heap.size, 0, none⟩ = some (.string nm) ∧ w2.cell? ⟨w1.heap.size, 1, none⟩ = some (.int .i64 pa) ∧ w2.cell? ⟨w1.heap.size, 2, none⟩ = some (.slice af mo cf)) := ⟨c2, q0, q1, q2⟩
    by_cases hl : (args.length : Int) = pa
    rotate_left
    · have hlb : ((args.length : Int) != pa) = true := by simp [hl]
      have HX := Lib.hid (HBAD.out (fun h => hl h.1))
      clear HBAD HPT HLEN hl HOD HSE HHA HN13
      go_wp2_with fail
      go_ret2
      rw [HRQ.out, HX.out]
      exact TaRes.fail (show ¬ (2 : Int) = 0 by decide) (by rw [← hw2]; exact hB2)
    have hlb : ((args.length : Int) != pa) = false := by rw [hl]; simp
    have HL := Lib.hid hl
    clear hl
    cases hos : osB args with
    | false =>
      rw [hos] at HHA
      have HX := Lib.hid (HBAD.out (fun h => by rw [hos] at h; exact absurd h.2 (by decide)))
      clear HBAD HPT HLEN HOD HSE HN13 hos
      go_wp2_with fail
      rw [← hw2]
      refine HHA.out.mono ?_; rintro e w3 ⟨rfl, rfl⟩
      go_wp2_with fail
      go_ret2
      rw [HRQ.out, HX.out]
      exact TaRes.fail (show ¬ (2 : Int) = 0 by decide) (by rw [hw2] at hB2; exact hB2)
    | true =>
      rw [hos] at HHA
      have HPU := HPT ⟨HL.out, hos⟩
      have HSF := HSE hos
      have HLE := Lib.hid (HLEN.out ⟨HL.out, hos⟩)
      have HNB := Lib.hid (HN13.out hos)
      clear HBAD HPT HLEN HSE HN13 hos
      generalize hEN : esN args = N at *
      clear hEN
      go_wp2_with fail
      rw [← hw2]
      refine HHA.out.mono ?_; rintro e w3 ⟨rfl, rfl⟩
      clear HHA hw2
      go_wp2_with fail
      go_region_held3 (fun w' => w'.cell? ⟨w.heap.size, 0, none⟩ = some (.slice ap fs.length capp) ∧ w'.cell? ⟨w1.heap.size, 0, none⟩ = some (.string nm) ∧ w'.cell? ⟨w1.heap.size, 1, none⟩ = some (.int .i64 pa) ∧ w'.cell? ⟨w1.heap.size, 2, none⟩ = some (.slice af mo cf))
        (first
          | with_reducible exact HY0.out
          | with_reducible exact Y1.out
          | with_reducible exact Y2.out
          | go_keep)
        (first
          | (go_at_call 54; refine (HOD _ (by first | exact Below.refl _ _ | exact (Below.refl _ _).drew)).out.mono ?_; rintro e w' ⟨rfl, rfl⟩)
          | (go_at_call 55; refine (HSF _ (by first | exact Below.refl _ _ | exact (Below.refl _ _).drew)).out.mono ?_; rintro e v1 ⟨g1, rfl, hE1, d1'⟩; have d1 : Below w2.heap.size w2 v1 := ⟨d1'.os, d1'.tape, d1'.output, d1'.size, d1'.block⟩; have Y1 : Hid (v1.cell? ⟨w.heap.size, 0, none⟩ = some (.slice ap fs.length capp) ∧ v1.cell? ⟨w1.heap.size, 0, none⟩ = some (.string nm) ∧ v1.cell? ⟨w1.heap.size, 1, none⟩ = some (.int .i64 pa) ∧ v1.cell? ⟨w1.heap.size, 2, none⟩ = some (.slice af mo cf)) := ⟨(d1.cell (p := ⟨w.heap.size, 0, none⟩) (by show w.heap.size < _; have := LT0.out; omega)).trans (HY0.out.1), (d1.cell (p := ⟨w1.heap.size, 0, none⟩) (by show w1.heap.size < _; have := LT1.out; omega)).trans (HY0.out.2.1), (d1.cell (p := ⟨w1.heap.size, 1, none⟩) (by show w1.heap.size < _; have := LT1.out; omega)).trans (HY0.out.2.2.1), (d1.cell (p := ⟨w1.heap.size, 2, none⟩) (by show w1.heap.size < _; have := LT1.out; omega)).trans (HY0.out.2.2.2)⟩)
          | (go_at_call 56; refine (HPU _ _ _ d1 hE1).out.mono ?_; intro e v2 h2; have d2 : Below w2.heap.size w2 v2 := d1.trans (h2.1.mono d1.size); have Y2 : Hid (v2.cell? ⟨w.heap.size, 0, none⟩ = some (.slice ap fs.length capp) ∧ v2.cell? ⟨w1.heap.size, 0, none⟩ = some (.string nm) ∧ v2.cell? ⟨w1.heap.size, 1, none⟩ = some (.int .i64 pa) ∧ v2.cell? ⟨w1.heap.size, 2, none⟩ = some (.slice af mo cf)) := ⟨(d2.cell (p := ⟨w.heap.size, 0, none⟩) (by show w.heap.size < _; have := LT0.out; omega)).trans (HY0.out.1), (d2.cell (p := ⟨w1.heap.size, 0, none⟩) (by show w1.heap.size < _; have := LT1.out; omega)).trans (HY0.out.2.1), (d2.cell (p := ⟨w1.heap.size, 1, none⟩) (by show w1.heap.size < _; have := LT1.out; omega)).trans (HY0.out.2.2.1), (d2.cell (p := ⟨w1.heap.size, 2, none⟩) (by show w1.heap.size < _; have := LT1.out; omega)).trans (HY0.out.2.2.2)⟩; obtain ⟨lv, rfl, hlv⟩ := Ev2.open h2; have hh := Lib.hid hlv))
      all_goals
        rcases hh.out with ⟨hc, g, br, rfl, hen⟩ | ⟨hc, rfl⟩
        · have B6 := hB2.trans (d2.mono hB2.size)
          have hs6 := B6.size
          have HCP := Lib.hid (iCopies N HNB.out.1 HNB.out.2 br (some ⟨g, 0, none⟩) R.l.length R.l v2 hen (HLE.out hc))
          have HCR := Lib.hid hc
          have HSZ : Hid (mSz R.l ≤ 1048576) := mSz_small (HLE.out hc) (fun i hi => by rw [hen.len i hi]; exact HNB.out.2)
          clear hen hc HLE hh hlv
          go_wp2_with fail
          refine HCP.out.mono ?_; rintro e w7 ⟨g7, rfl, ⟨R7, K7, hM⟩, b7⟩
          go_wp2_with fail
          go_ret2
          rw [HRQ.out]
          have eA := taA_yes HCR.out
          exact ⟨some ⟨g7, 0, none⟩, R.l.length, by rw [eA, HCR.out]; rfl, by rw [eA]; exact .inr ⟨g7, R7, K7, rfl, hM.mono hs6⟩, by rw [eA]; exact HSZ.out, B6.trans (b7.mono hs6)⟩
        · have B6 := hB2.trans (d2.mono hB2.size)
          have hs6 := B6.size
          have HCP := Lib.hid (show Calls Tryz.prog 57 #[.slice none 0 0] v2 (fun e w' => ∃ g, e = .returned (.slice (some ⟨g, 0, none⟩) 0 0) ∧ (∃ R K, Mo w' v2.heap.size g 0 0 0 [] R K) ∧ Below v2.heap.size v2 w') from iCopies N HNB.out.1 HNB.out.2 0 none 0 [] v2 ⟨.inl rfl, fun i hi => absurd hi (Nat.not_lt_zero _), fun i hi => absurd hi (Nat.not_lt_zero _)⟩ (Nat.zero_le _))
          have HCR := Lib.hid hc
          clear hc HLE hh hlv
          go_wp2_with fail
          refine HCP.out.mono ?_; rintro e w7 ⟨g7, rfl, _, b7⟩
          go_wp2_with fail
          go_ret2
          rw [HRQ.out]
          exact TaRes.fail HCR.out (B6.trans (b7.mono hs6))

end Sr

end Go.Proofs.YtldbhhocoolloaaGreat

namespace Go.Proofs.YtldbhhocoolloaaGreat
open Go.RowKit
set_option linter.unusedVariables false

set_option maxRecDepth 100000 in
set_option maxHeartbeats 1600000 in
theorem sSize3 (a : Option Addr) (ca : Nat) (args : List (List Int)) (w : World) (hM : Mat w a args) (hl : (args.getD 0 []).length ≤ 1048576) (hl2 : args.length ≤ 1048576) :
    Calls Tryz.prog 51 #[.slice a args.length ca] w fun e w' => e = .returned (.int .i64 (esN args)) ∧ w = w' := by
  by_cases h0 : args.length = 0
  · have HE : Hid (esN args = 1) := by show _ = _; unfold esN; rw [if_pos h0]
    rw [h0]
    clear hM
    go_enter Tryz.func51, Tryz.ntmps51
    go_wp2_with fail
    go_ret
    exact ⟨by rw [HE.out]; rfl, rfl⟩
  · have HE : Hid (esN args = (args.getD 0 []).length) := if_neg h0
    obtain ⟨b, off, rfl, hb, hall⟩ := hM.resolve_left (by intro e; rw [e] at h0; simp at h0)
    obtain ⟨a0, c0, hx0, _⟩ := hall 0 (by omega)
    rw [Nat.add_zero] at hx0
    have hbz : ((args.length : Int) == 0) = false := ne_beq (by omega)
    have h0i : (0 : Int) < (args.length : Int) := by omega
    clear hall h0
    generalize (args.getD 0 []).length = m at *
    go_enter Tryz.func51, Tryz.ntmps51
    go_wp2_with fail
    go_ret
    exact ⟨by rw [HE.out]; rfl, rfl⟩

set_option maxRecDepth 100000 in
set_option maxHeartbeats 3200000 in
theorem sPath (fs : List Fn) (bp op : Nat) (ap : Option Addr) (capp : Nat) (f : Int) (a : Option Addr) (ca : Nat) (args : List (List Int)) (w : World)
    (hp : w.cell? ⟨bp, op, none⟩ = some (.slice ap fs.length capp)) (hP : Pat w 0 w.heap.size fs ap) (hsz : pgSize fs ≤ 1048576) (hM : Mat w a args) (hs : mSz args ≤ 1048576) :
    Calls Tryz.prog 49 #[.pointer (some ⟨bp, op, none⟩), .int .i64 f, .slice a args.length ca] w (Quiet (.int .i64 (esC fs f args)) w) := by
  have HA := Lib.hid (sAskedE fs bp op ap capp f w hp hP hsz)
  by_cases h0 : cCodE fs f = 0
  · have hk : progB fs = true ∧ (0 ≤ f ∧ f < (fs.length : Int)) := by
      unfold cCodE at h0
      by_cases hpb : progB fs = true
      · rw [if_pos hpb] at h0
        by_cases h2 : 0 ≤ f ∧ f < (fs.length : Int)
        · exact ⟨hpb, h2⟩
        · rw [if_neg h2] at h0; cases h0
      · rw [if_neg hpb] at h0; cases h0
    obtain ⟨j, rfl⟩ := Int.eq_ofNat_of_zero_le hk.2.1
    have hj : j < fs.length := by omega
    obtain ⟨bf, of, rfl, hbB, hall⟩ := hP.resolve_left (by intro e; rw [e] at hj; simp at hj)
    obtain ⟨hr, af, cf, f0, f1, f2, hFo⟩ := hall j hj
    have HES : Hid (esC fs (j : Int) args = if (args.length : Int) = (fs.getD j noFn).params ∧ osB args = true then 0 else 2) := by show _ = _; unfold esC; rw [if_pos hk.1, if_pos hk.2]; rfl
    rw [h0] at HA
    have hji : (j : Int) < (fs.length : Int) := hk.2.2
    have hll : args.length ≤ 1048576 := by unfold mSz at hs; omega
    have HR := fun i => Lib.hid (mSz_row (i := i) hs)
    have HM := fun q => Lib.hid (hM.below (below_drewN (Below.refl w.heap.size w) q) (Nat.le_refl _))
    generalize esC fs (j : Int) args = pc at *
    clear hk hall hr f0 f2 hFo hP hM h0 hs
    generalize (fs.getD j noFn).params = pm at *
    by_cases hl : (args.length : Int) = pm
    rotate_left
    · have hlb : ((args.length : Int) != pm) = true := by simp [hl]
      have HP0 : Hid (pc = 2) := by show _ = _; rw [HES.out, if_neg (fun h => hl h.1)]
      clear hl HES
      go_enter Tryz.func49, Tryz.ntmps49
      go_wp2_with fail
      refine HA.out.mono ?_; rintro e w1 ⟨rfl, q, rfl⟩
      have f1' : (w.drewN q).cell? ⟨bf, of + j * 3 + 1, none⟩ = some (.int .i64 pm) := f1
      have hp' : (w.drewN q).cell? ⟨bp, op, none⟩ = some (.slice (some ⟨bf, of, none⟩) fs.length capp) := hp
      go_wp2_with fail
      go_ret
      exact ⟨ret_int HP0.out.symm, q, rfl⟩
    have hlb : ((args.length : Int) != pm) = false := by rw [hl]; simp
    have HPC : Hid (pc = if osB args = true then 0 else 2) := by
      show _ = _
      rw [HES.out]
      by_cases h : osB args = true
      · rw [if_pos h, if_pos ⟨hl, h⟩]
      · rw [if_neg h, if_neg (fun h2 => h h2.2)]
    clear hl HES
    go_enter Tryz.func49, Tryz.ntmps49
    go_wp2_with fail
    refine HA.out.mono ?_; rintro e w1 ⟨rfl, q, rfl⟩
    have f1' : (w.drewN q).cell? ⟨bf, of + j * 3 + 1, none⟩ = some (.int .i64 pm) := f1
    have hp' : (w.drewN q).cell? ⟨bp, op, none⟩ = some (.slice (some ⟨bf, of, none⟩) fs.length capp) := hp
    have HQ0 : Hid (∃ n, w.drewN q = w.drewN n) := ⟨q, rfl⟩
    clear HA
    go_wp2_with fail
    go_loopw [8] (fun x wr => ∃ i : Nat, i ≤ args.length ∧ x = .int .i64 i ∧ Hid (∀ k, k < i → osR args k = true) ∧ Hid (∃ n, wr = w.drewN n)) (fun x _ => args.length - (intOf x).toNat)
    case atStart => exact ⟨0, Nat.zero_le _, rfl, fun k hk => absurd hk (Nat.not_lt_zero _), HQ0.out⟩
    case round =>
      obtain ⟨i, hi, rfl, HI, HQ⟩ := hrel
      clear HQ0 f1' hp'
      have hMr : Mat wr a args := by obtain ⟨n, hn⟩ := HQ.out; rw [hn]; exact (HM n).out
      have HQM : Hid (∀ m, ∃ k, wr.drewN m = w.drewN k) := fun m => by obtain ⟨n, hn⟩ := HQ.out; exact ⟨n + m, by rw [hn, World.drewN_drewN]⟩
      by_cases hlt : i < args.length
      · have hii : (i : Int) < (args.length : Int) := by omega
        have h0i : (0 : Int) < (args.length : Int) := by omega
        obtain ⟨b, off, rfl, hb, hall⟩ := hMr.resolve_left (by intro e; rw [e] at hlt; simp at hlt)
        obtain ⟨ai, ci, hx, hAi⟩ := hall i hlt
        obtain ⟨a0, c0, hx0, _⟩ := hall 0 (by omega)
        rw [Nat.add_zero] at hx0
        have HV := fun (k : Nat) => Lib.hid (sOk ai ci (args.getD i []) (wr.drewN k) (hAi.drewN k) (by have := (HR i).out; omega))
        have HRI : Hid (osR args i = (okS (args.getD i []) && decide ((args.getD i []).length = (args.getD 0 []).length))) := rfl
        have HBF : Hid (osR args i = false → osB args = false) := osB_f hlt
        have HNX : Hid (osR args i = true → ∀ k, k < i + 1 → osR args k = true) := fun h k hk => by
          by_cases e : k < i
          · exact HI.out k e
          · obtain rfl : k = i := by omega
            exact h
        clear hall hAi HI HM hMr HQ
        generalize args.getD i [] = row at *
        generalize args.getD 0 [] = row0 at *
        generalize osR args i = bb at *
        cases hok : okS row with
        | false =>
          rw [hok] at HV HRI
          have HF : Hid (pc = 2) := by show _ = _; rw [HPC.out, HBF.out (by rw [HRI.out]; rfl)]; rfl
          clear HBF HNX HRI hok HPC
          go_wp2_with fail
          go_quiet ((go_at_call 93; exact quiet_same (HV _).out))
          go_wp2_with fail
          go_ret
          exact ⟨ret_int HF.out.symm, HQM.out _⟩
        | true =>
          rw [hok] at HV HRI
          by_cases hle : row.length = row0.length
          · have hlb : ((row.length : Int) != (row0.length : Int)) = false := by rw [hle]; simp
            have HN2 := Lib.hid (HNX.out (by rw [HRI.out, decide_eq_true hle]; rfl))
            clear HBF HNX HRI hok hle
            go_wp2_with fail
            go_quiet ((go_at_call 93; exact quiet_same (HV _).out))
            go_wp2_with fail
            go_roundw
            case rel => exact ⟨i + 1, by omega, by go_num, HN2.out, HQM.out _⟩
            case measure => simp [intOf]; omega
          · have hlb : ((row.length : Int) != (row0.length : Int)) = true := by simp; omega
            have HF : Hid (pc = 2) := by show _ = _; rw [HPC.out, HBF.out (by rw [HRI.out, decide_eq_false hle]; rfl)]; rfl
            clear HBF HNX HRI hok hle HPC
            go_wp2_with fail
            go_quiet ((go_at_call 93; exact quiet_same (HV _).out))
            go_wp2_with fail
            go_ret
            exact ⟨ret_int HF.out.symm, HQM.out _⟩
      · have hii : ¬ (i : Int) < (args.length : Int) := by omega
        obtain rfl : i = args.length := by omega
        have HT : Hid (pc = 0) := by show _ = _; rw [HPC.out, if_pos (osB_all HI.out)]
        go_wp2_with fail
        go_ret
        exact ⟨ret_int HT.out.symm, HQ.out⟩
  · have HES : Hid (esC fs f args = cCodE fs f) := by
      show _ = _
      unfold esC
      unfold cCodE at h0 ⊢
      by_cases hpb : progB fs = true
      · rw [if_pos hpb] at h0 ⊢
        rw [if_pos hpb]
        by_cases h2 : 0 ≤ f ∧ f < (fs.length : Int)
        · rw [if_pos h2] at h0; exact absurd rfl h0
        · rw [if_neg h2, if_neg h2]
      · rw [if_neg hpb, if_neg hpb]
    have hbf : (cCodE fs f != 0) = true := by simp [h0]
    rw [← HES.out] at HA hbf
    clear HES
    generalize esC fs f args = pc at *
    go_enter Tryz.func49, Tryz.ntmps49
    go_wp2_with fail
    refine HA.out.mono ?_; rintro e w1 ⟨rfl, q, rfl⟩
    go_wp2_with fail
    go_ret
    exact ⟨rfl, q, rfl⟩

theorem Mat.en {w : World} {a : Option Addr} {args : List (List Int)} {N : Nat} (h : Mat w a args) (hN : ∀ i, i < args.length → (args.getD i []).length = N ∧ Nums (args.getD i [])) : En w w.heap.size (fun g => g < w.heap.size) N a args := by
  refine ⟨?_, fun i hi => (hN i hi).1, fun i hi => (hN i hi).2⟩
  rcases h with h | ⟨b, off, h1, h2, h3⟩
  · exact .inl h
  · refine .inr ⟨b, off, h1, by omega, h2, fun i hi => ?_⟩
    obtain ⟨ai, ci, h4, h5⟩ := h3 i hi
    have hb : ∀ g, blk ai (args.getD i []) = some g → g < w.heap.size := fun g hg => by
      by_cases hl : args.getD i [] = []
      · rw [hl] at hg; simp [blk] at hg
      · obtain ⟨bb, oo, rfl, hbb, _⟩ := h5.resolve_left hl
        simp [blk] at hg
        omega
    exact ⟨ai, ci, by rw [← (hN i hi).1]; exact h4, ⟨h5, fun g hg => by have := hb g hg; omega⟩, hb⟩
set_option maxRecDepth 100000 in
set_option maxHeartbeats 6400000 in
theorem sEvalSeries (fs : List Fn) (ap : Option Addr) (capp : Nat) (f : Int) (a : Option Addr) (ca : Nat) (args : List (List Int)) (w : World) (hP : Pat w 0 w.heap.size fs ap) (hsz : pgSize fs ≤ 1048576) (hM : Mat w a args) (hs : mSz args ≤ 1048576) :
    Calls Tryz.prog 22 #[.agg #[.slice ap fs.length capp], .int .i64 f, .slice a args.length ca] w (TaM w (esL fs f args)) := by
  have hfl : fs.length ≤ 1048576 := by unfold pgSize at hsz; omega
  obtain ⟨w0, hw0⟩ : ∃ w0, w.alloc (.cells #[.slice ap fs.length capp] 31) = w0 := ⟨_, rfl⟩
  have hb0 : Below w.heap.size w w0 := by rw [← hw0]; exact (Below.refl _ _).alloc (Nat.le_refl _) _
  have P0 := (hP.below hb0).mono (Nat.le_refl _) hb0.size
  have M0 := hM.below hb0 (Nat.le_refl _)
  have c0 : w0.cell? ⟨w.heap.size, 0, none⟩ = some (.slice ap fs.length capp) := by rw [← hw0]; simp [go_sem]
  have HS := Lib.hid (sPath fs w.heap.size 0 ap capp f a ca args w0 c0 P0 hsz M0 hs)
  have HQ : Hid (∀ q, Below w.heap.size w (w0.drewN q)) := fun q => hb0.trans ((below_drewN (Below.refl w0.heap.size w0) q).mono hb0.size)
  by_cases hc : esC fs f args = 0
  · have hk : FnAt fs f := by
      refine Classical.byContradiction fun h => ?_
      exact esC_ne h hc
    have hk2 : (args.length : Int) = (fs.getD f.toNat noFn).params ∧ osB args = true := by
      have h := hc
      rw [esC_yes hk] at h
      by_cases h2 : (args.length : Int) = (fs.getD f.toNat noFn).params ∧ osB args = true
      · exact h2
      · rw [if_neg h2] at h; cases h
    rw [hc] at HS
    have HL := Lib.hid (esL_yes hc)
    obtain ⟨k1, k2, k3⟩ := hk
    obtain ⟨j, rfl⟩ := Int.eq_ofNat_of_zero_le k2
    have ej : (j : Int).toNat = j := rfl
    rw [ej] at hk2
    have hj : j < fs.length := by omega
    have hll : args.length ≤ 1048576 := by unfold mSz at hs; omega
    have HL2 : Hid (esL fs (j : Int) args = lisE (sA (esN args)) (evE (sA (esN args)) fs 3001) (fs.getD j noFn).outs args 0 (fs.getD j noFn).outs.len) := HL.out
    have HZ := fun (q : Nat) => Lib.hid (sSize3 a ca args (w0.drewN q) (M0.below (below_drewN (Below.refl _ _) q) (Nat.le_refl _)) (mSz_row hs) hll)
    have HT := fun (q : Nat) => Lib.hid (sEval3 (esN args) (esN_bd hk2.2).1 (esN_bd hk2.2).2 fs w.heap.size 0 ap capp j (w0.drewN q).heap.size (fun g => g < (w0.drewN q).heap.size) a ca args (w0.drewN q) c0 k1 hj hfl (P0.below (below_drewN (Below.refl _ _) q)) ((M0.below (below_drewN (Below.refl w0.heap.size w0) q) (Nat.le_refl _)).en (fun i hi => esN_row hk2.2 hi)) (fun g hg => hg) hk2.1)
    have HLE : Hid ((lisE (sA (esN args)) (evE (sA (esN args)) fs 3001) (fs.getD j noFn).outs args 0 (fs.getD j noFn).outs.len).c = 0 → (lisE (sA (esN args)) (evE (sA (esN args)) fs 3001) (fs.getD j noFn).outs args 0 (fs.getD j noFn).outs.len).l.length = (fs.getD j noFn).outs.len) := lisE_len _
    generalize lisE (sA (esN args)) (evE (sA (esN args)) fs 3001) (fs.getD j noFn).outs args 0 (fs.getD j noFn).outs.len = r at HT HL2 HLE
    generalize (fs.getD j noFn).outs.len = mo at *
    generalize esN args = N at *
    clear HL hc hk2 k1 k2 k3 hP hM P0 M0 c0 ej
    go_enter Tryz.func22, Tryz.ntmps22
    go_wp2_with fail
    clear hw0
    refine HS.out.mono ?_; rintro e w1 ⟨rfl, q, rfl⟩
    have HTQ := HT q
    have HZQ := HZ q
    have HBQ := HQ.out q
    clear HT HS HQ HZ
    go_wp2_with fail
    refine HZQ.out.mono ?_; rintro e w1 ⟨rfl, rfl⟩
    go_wp2_with fail
    refine HTQ.out.mono ?_; rintro e w2 ⟨hb2, ⟨hcr, g, kg, L, br, rfl, hbr, hbL, hO⟩ | ⟨hcr, g, rfl⟩⟩
    · have hM : Mat w2 (some ⟨g, 0, none⟩) r.l := En.mat (hO.en hbL)
      have hlv : r.l.length = mo := HLE.out hcr
      have HRES : Hid (TaM w r (.returned (.tuple #[.slice (some ⟨g, 0, none⟩) mo kg, .int .i64 0])) w2) := ⟨some ⟨g, 0, none⟩, kg, by rw [taA_yes hcr, hlv, hcr], by rw [taA_yes hcr]; exact hM, HBQ.trans (hb2.mono HBQ.size)⟩
      clear HLE hM hO hlv hcr
      go_wp2_with fail
      go_ret2
      rw [HL2.out]
      exact HRES.out
    · have HRES : Hid (TaM w r (.returned (.tuple #[.slice (some ⟨g, 0, none⟩) 0 0, .int .i64 r.c])) w2) := TaM.fail hcr (HBQ.trans (hb2.mono HBQ.size))
      clear HLE hcr
      go_wp2_with fail
      go_ret2
      rw [HL2.out]
      exact HRES.out
  · have HL := Lib.hid (esL_no hc)
    have HNC := Lib.hid hc
    have hbf2 : (esC fs f args != 0) = true := by simp [hc]
    clear hc hP hM P0 M0 c0
    generalize esC fs f args = pc at *
    go_enter Tryz.func22, Tryz.ntmps22
    go_wp2_with fail
    clear hw0
    refine HS.out.mono ?_; rintro e w1 ⟨rfl, q, rfl⟩
    have HBQ := HQ.out q
    clear HS HQ
    have HRES : Hid (∀ W, Below w.heap.size w W → ∀ a, TaM w ⟨[], 0, pc⟩ (.returned (.tuple #[.slice a 0 0, .int .i64 pc])) W) := fun W hW a => TaM.fail HNC.out hW
    have HBA := HBQ.alloc HBQ.size (.cells #[] 25)
    go_wp2_with fail
    go_ret2
    rw [HL.out]
    exact HRES.out _ HBA _

end Go.Proofs.YtldbhhocoolloaaGreat

namespace Go.Proofs.YtldbhhocoolloaaGreat
open Go.RowKit
set_option linter.unusedVariables false

/-- series of one length, again and again -/
def SelfN (N : Nat) (x y : List Int) : Prop := x = y ∧ x.length = N ∧ Nums x
theorem alikeN (N : Nat) : Alike (sA N) (sA N) (SelfN N) where
  cst := fun n h1 h2 => ⟨rfl, cstl_len n N, Sr.cstl_nums ⟨h1, h2⟩⟩
  add := by
    rintro a b a' b' ⟨rfl, h1, h2⟩ ⟨rfl, h3, h4⟩
    exact ⟨rfl, (addl_len _ _).trans h1, Sr.addl_nums _ _⟩
  sub := by
    rintro a b a' b' ⟨rfl, h1, h2⟩ ⟨rfl, h3, h4⟩
    exact ⟨rfl, (addl_len _ _).trans h1, Sr.addl_nums _ _⟩
  mul := by
    rintro a b a' b' ⟨rfl, h1, h2⟩ ⟨rfl, h3, h4⟩
    exact ⟨rfl, (mull_len _ _).trans h1, Sr.mull_nums _ _⟩
  div := by
    rintro a b a' b' ⟨rfl, h1, h2⟩ ⟨rfl, h3, h4⟩ _
    exact ⟨rfl, (divl_len _ _).trans h1, Sr.divl_nums _ _⟩
  neg := by
    rintro a b ⟨rfl, h1, h2⟩
    exact ⟨rfl, (scll_len _ _).trans h1, scll_nums _ _⟩
  zer := by
    rintro a b ⟨rfl, _⟩
    rfl
theorem getD_any {α : Type} {l : List α} {i : Nat} (h : i < l.length) (d e : α) : l.getD i d = l.getD i e := by rw [List.getD_eq_getElem?_getD, List.getD_eq_getElem?_getD, List.getElem?_eq_getElem h]; rfl
theorem esL_rows {fs : List Fn} {f : Int} {args : List (List Int)} (h : esC fs f args = 0) (hc : (esL fs f args).c = 0) : (esL fs f args).l.length = (fs.getD f.toNat noFn).outs.len ∧ ∀ i, i < (esL fs f args).l.length → okS ((esL fs f args).l.getD i []) = true := by
  have hk : FnAt fs f := Classical.byContradiction fun hn => esC_ne hn h
  have hk2 : (args.length : Int) = (fs.getD f.toNat noFn).params ∧ osB args = true := by
    have h2 := h
    rw [esC_yes hk] at h2
    by_cases h3 : (args.length : Int) = (fs.getD f.toNat noFn).params ∧ osB args = true
    · exact h3
    · rw [if_neg h3] at h2; cases h2
  obtain ⟨k1, k2, k3⟩ := hk
  obtain ⟨j, rfl⟩ := Int.eq_ofNat_of_zero_le k2
  have hj : j < fs.length := by omega
  rw [esL_yes h] at hc ⊢
  rw [show (j : Int).toNat = j from rfl] at hk2 hc ⊢
  obtain ⟨g1, g2, g3⟩ := fn_parts (progB_fn k1 hj)
  have hrel : Rll (sA (esN args)) (sA (esN args)) (SelfN (esN args)) (lisE (sA (esN args)) (evE (sA (esN args)) fs 3001) (fs.getD j noFn).outs args 0 (fs.getD j noFn).outs.len) (lisE (sA (esN args)) (evE (sA (esN args)) fs 3001) (fs.getD j noFn).outs args 0 (fs.getD j noFn).outs.len) := by
    refine lisE_rel (evE_rel (fun i hi => progB_fn k1 hi) (alikeN (esN args)) 3001) (fi := j) (by omega) (q := 0) (by decide) (by rw [hk2.1]; exact g3) ?_ _ (Nat.le_refl _)
    refine ⟨rfl, fun i hi => ?_⟩
    have e : args.getD i ((sA (esN args)).cst 0) = args.getD i [] := by rw [List.getD_eq_getElem?_getD, List.getD_eq_getElem?_getD, List.getElem?_eq_getElem hi]; rfl
    rw [e]
    exact ⟨rfl, (esN_row hk2.2 hi).1, (esN_row hk2.2 hi).2⟩
  refine ⟨lisE_len _ hc, fun i hi => ?_⟩
  have hr := (hrel.l hc).at_ i hi
  have e := getD_any hi ((sA (esN args)).cst 0) []
  rw [e] at hr
  exact nums_okS (by rw [hr.2.1]; exact (esN_bd hk2.2).1) (by rw [hr.2.1]; exact (esN_bd hk2.2).2) hr.2.2
/-- the code for an output as well -/
def pdC (fs : List Fn) (f pick : Int) (args : List (List Int)) : Int := if esC fs f args = 0 then (if 0 ≤ pick ∧ pick < ((fs.getD f.toNat noFn).outs.len : Int) then 0 else 2) else esC fs f args
def pdL (fs : List Fn) (f pick : Int) (args : List (List Int)) : Rl (List Int) := if pdC fs f pick args = 0 then esL fs f args else ⟨[], 0, pdC fs f pick args⟩
def pdV (r : Rl (List Int)) (pick : Int) : List Int := if r.c = 0 then dls (r.l.getD pick.toNat []) else []
theorem pdV_no {r : Rl (List Int)} {pick : Int} (h : ¬ r.c = 0) : pdV r pick = [] := if_neg h
theorem pdV_yes {r : Rl (List Int)} {pick : Int} (h : r.c = 0) : pdV r pick = dls (r.l.getD pick.toNat []) := if_pos h
/-- with an output of the function -/
theorem pdL_in {fs : List Fn} {f pick : Int} {args : List (List Int)} (h : 0 ≤ pick ∧ pick < ((fs.getD f.toNat noFn).outs.len : Int)) : pdL fs f pick args = esL fs f args := by
  unfold pdL pdC
  by_cases h0 : esC fs f args = 0
  · rw [if_pos h0, if_pos h, if_pos rfl]
  · rw [if_neg h0, if_neg h0, esL_no h0]
/-- a list and a code are answered -/
def PdRes (w : World) (r : Rl (List Int)) (pick : Int) (e : Ending) (w' : World) : Prop :=
  ∃ a ca, e = .returned (.tuple #[.slice a (pdV r pick).length ca, .int .i64 r.c]) ∧ OwnA w.heap.size w' a ca (pdV r pick) ∧ Below w.heap.size w w'
theorem PdRes.fail {w w' : World} {r : Rl (List Int)} {pick : Int} {a : Option Addr} {ca : Nat} (h : ¬ r.c = 0) (hb : Below w.heap.size w w') : PdRes w r pick (.returned (.tuple #[.slice a 0 ca, .int .i64 r.c])) w' :=
  ⟨a, ca, by rw [pdV_no h]; rfl, .inl (pdV_no h), hb⟩

namespace Sr
set_option maxRecDepth 100000 in
set_option maxHeartbeats 6400000 in
theorem iPathDer (fs : List Fn) (ap : Option Addr) (capp : Nat) (f pick : Int) (a : Option Addr) (ca : Nat) (args : List (List Int)) (w : World) (hP : Pat w 0 w.heap.size fs ap) (hsz : pgSize fs ≤ 1048576) (hcap : fs.length ≤ capp) (hcm : capp ≤ 1048576) (hA : Mat w a args) (hs : mSz args ≤ 1048576) :
    Calls Tryz.prog 37 #[.agg #[.slice ap fs.length capp], .int .i64 f, .int .i64 pick, .slice a args.length ca] w (PdRes w (pdL fs f pick args) pick) := by
  obtain ⟨w0, hw0⟩ : ∃ w0, w0 = w.alloc (.cells #[.slice ap fs.length capp] 31) := ⟨_, rfl⟩
  have hb0 : Below w.heap.size w w0 := by rw [hw0]; exact (Below.refl _ _).alloc (Nat.le_refl _) _
  have z0 : w0.heap.size = w.heap.size + 1 := by rw [hw0]; simp
  have c0 : w0.cell? ⟨w.heap.size, 0, none⟩ = some (.slice ap fs.length capp) := by rw [hw0]; simp [go_sem]
  have P0 := (hP.below hb0).mono (Nat.le_refl _) hb0.size
  have HF := Lib.hid (iFunctionOfF fs ap capp f w0 w0.heap.size (Nat.le_refl _) P0 hsz hcap hcm)
  have HP := Lib.hid P0
  have HA := Lib.hid (hA.below hb0 (Nat.le_refl _))
  have HS := Lib.hid hs
  clear hP hA P0 hs
  go_enter Tryz.func37, Tryz.ntmps37
  go_wp2_with fail
  rw [← hw0]
  clear hw0
  refine HF.out.mono ?_; rintro e w1 ⟨hb1, ⟨hn, rfl⟩ | ⟨hy, af, cf, rfl, hFo⟩⟩
  · have hB1 := hb0.trans (hb1.mono hb0.size)
    have HC : Hid (esC fs f args = if progB fs = true then 2 else 1) := esC_no hn
    have HN := Lib.hid (esC_ne (args := args) hn)
    have HX : Hid (pdL fs f pick args = ⟨[], 0, esC fs f args⟩) := by show _ = _; unfold pdL pdC; rw [if_neg HN.out, if_neg HN.out]
    rw [← HC.out]
    have hbf : (esC fs f args != 0) = true := by simp [HN.out]
    have hs1 := hB1.size
    clear HF HP HA hn HC
    generalize esC fs f args = pc at *
    go_wp2_with fail
    go_ret2
    rw [HX.out]
    exact PdRes.fail HN.out (hB1.alloc hs1 _)
  · have hB1 := hb0.trans (hb1.mono hb0.size)
    have HY := Lib.hid hy
    obtain ⟨hp1, hf1, hf2⟩ := hy
    obtain ⟨j, rfl⟩ := Int.eq_ofNat_of_zero_le hf1
    have ej : (j : Int).toNat = j := rfl
    rw [ej] at hFo ⊢
    have hj : j < fs.length := by omega
    have hs1 := hb1.size
    have c1 := (hb1.cell (p := ⟨w.heap.size, 0, none⟩) (cell_lt c0)).trans c0
    obtain ⟨w2, hw2⟩ : ∃ w2, w2 = w1.alloc (.cells #[.string (fs.getD j noFn).name, .int .i64 (fs.getD j noFn).params, .slice af (fs.getD j noFn).outs.len cf] 69) := ⟨_, rfl⟩
    have b2 : Below w1.heap.size w1 w2 := by rw [hw2]; exact (Below.refl _ _).alloc (Nat.le_refl _) _
    have q2 : w2.cell? ⟨w1.heap.size, 2, none⟩ = some (.slice af (fs.getD j noFn).outs.len cf) := by rw [hw2]; simp [go_sem]
    have c2 := (b2.cell (p := ⟨w.heap.size, 0, none⟩) (cell_lt c1)).trans c1
    have hb12 := hb1.trans (b2.mono hs1)
    have hB2 := hB1.trans (b2.mono hB1.size)
    have HI := fun W => Lib.hid (iIndex pick ((fs.getD j noFn).outs.len : Int) W)
    have HE := Lib.hid (iEvalSeries fs ap capp (j : Int) a ca args w2 ((HP.out.below hb12).mono (Nat.le_refl _) hb12.size) hsz hcap hcm (HA.out.below hb12 (Nat.le_refl _)) HS.out)
    have HBAD : Hid (¬ (0 ≤ pick ∧ pick < ((fs.getD j noFn).outs.len : Int)) → pdL fs (j : Int) pick args = ⟨[], 0, 2⟩) := fun h => by
      have e : pdC fs (j : Int) pick args = 2 := by
        unfold pdC
        rw [ej, if_neg h]
        by_cases h0 : esC fs (j : Int) args = 0
        · rw [if_pos h0]
        · rw [if_neg h0]
          rw [esC_yes HY.out] at h0 ⊢
          by_cases h1 : (args.length : Int) = (fs.getD (j : Int).toNat noFn).params ∧ osB args = true
          · rw [if_pos h1] at h0; exact absurd rfl h0
          · rw [if_neg h1]
      unfold pdL
      rw [e, if_neg (by decide)]
    have HIN : Hid (0 ≤ pick ∧ pick < ((fs.getD j noFn).outs.len : Int) → pdL fs (j : Int) pick args = esL fs (j : Int) args) := fun h => pdL_in h
    have HRW : Hid ((esL fs (j : Int) args).c = 0 → (esL fs (j : Int) args).l.length = (fs.getD j noFn).outs.len ∧ ∀ i, i < (esL fs (j : Int) args).l.length → okS ((esL fs (j : Int) args).l.getD i []) = true) := fun h => by
      have h0 : esC fs (j : Int) args = 0 := Classical.byContradiction fun hn => by rw [esL_no hn] at h; exact hn h
      exact esL_rows h0 h
    clear HF HP HA hFo hp1 hf1 hf2 hb12 hb1 c0 c1 z0 HY HS
    obtain ⟨R, hR⟩ : ∃ R, esL fs (j : Int) args = R := ⟨_, rfl⟩
    rw [hR] at HE HIN HRW
    obtain ⟨S, hS⟩ : ∃ S, pdL fs (j : Int) pick args = S := ⟨_, rfl⟩
    rw [hS] at HBAD HIN
    have HSQ := Lib.hid hS
    clear hR hS
    generalize (fs.getD j noFn).name = nm at *
    generalize (fs.getD j noFn).params = pa at *
    generalize (fs.getD j noFn).outs.len = mo at *
    by_cases h1 : 0 ≤ pick ∧ pick < (mo : Int)
    rotate_left
    · have hd1 : decide (0 ≤ pick ∧ pick < (mo : Int)) = false := decide_eq_false h1
      rw [hd1] at HI
      have HX := Lib.hid (HBAD.out h1)
      clear HBAD HIN HRW HE h1 hd1
      go_wp2_with fail
      rw [← hw2]
      refine (HI _).out.mono ?_; rintro e w3 ⟨rfl, rfl⟩
      go_wp2_with fail
      go_ret2
      rw [HSQ.out, HX.out]
      exact PdRes.fail (show ¬ (2 : Int) = 0 by decide) (by rw [hw2] at hB2; exact hB2)
    have hd1 : decide (0 ≤ pick ∧ pick < (mo : Int)) = true := decide_eq_true h1
    rw [hd1] at HI
    have HX := Lib.hid (HIN.out h1)
    obtain ⟨pk, hpk⟩ := Int.eq_ofNat_of_zero_le h1.1
    have hpm : pk < mo := by omega
    clear HBAD HIN hd1 h1
    subst hpk
    go_wp2_with fail
    rw [← hw2]
    clear hw2
    refine (HI _).out.mono ?_; rintro e w3 ⟨rfl, rfl⟩
    go_wp2_with fail
    refine HE.out.mono ?_; rintro e w4 ⟨a4, c4, rfl, hM4, hz4, hb4⟩
    have B4 := hB2.trans (hb4.mono hB2.size)
    have hs4 := B4.size
    by_cases hc : R.c = 0
    rotate_left
    · have hbf : (R.c != 0) = true := by simp [hc]
      have HNC := Lib.hid hc
      clear HE HRW hM4 hc
      go_wp2_with fail
      go_ret2
      rw [HSQ.out, HX.out]
      exact PdRes.fail HNC.out B4
    have hbf : (R.c != 0) = false := by rw [hc]; rfl
    obtain ⟨hlv, hok⟩ := HRW.out hc
    have eA := taA_yes hc
    rw [eA] at hM4
    have hpl : pk < R.l.length := by omega
    have hpi : (pk : Int) < ((taA R).length : Int) := by rw [eA]; omega
    have hoks := hok pk hpl
    obtain ⟨g, Rr, Kr, rfl, hM⟩ := hM4.resolve_left (by intro e; rw [e] at hpl; simp at hpl)
    have hx := hM.cell (Nat.le_refl _) pk hpl
    have hrow := (hM.row pk hpl).at
    have hnm := okS_t hoks
    have HD := Lib.hid (iDerivativeOf (some ⟨Rr pk, 0, none⟩) (Kr pk) (R.l.getD pk []) w4 hrow (rngs hnm.2.2) (by omega))
    have HAL : Hid (allDerivativeOf (R.l.getD pk []) = dls (R.l.getD pk []) ∧ alcDerivativeOf (R.l.getD pk []) = 0) := by
      unfold allDerivativeOf alcDerivativeOf
      rw [if_pos hoks, if_pos hoks]
      exact ⟨rfl, rfl⟩
    rw [HAL.out.1, HAL.out.2] at HD
    have HV : Hid (pdV R (pk : Int) = dls (R.l.getD pk [])) := pdV_yes hc
    have HCR := Lib.hid hc
    clear HE HRW hM hrow hnm hoks hok hc HAL eA
    generalize (taA R).length = tl at *
    generalize R.l.getD pk [] = row at *
    go_wp2_with fail
    refine HD.out.mono ?_; rintro e w5 ⟨a5, c5, rfl, ho5, hb5⟩
    go_wp2_with fail
    go_ret2
    rw [HSQ.out, HX.out]
    exact ⟨a5, c5, by rw [HV.out, HCR.out]; rfl, by rw [HV.out]; exact ho5.imp id (fun ⟨g, e, o⟩ => ⟨g, e, o.mono hs4⟩), B4.trans (hb5.mono hs4)⟩

end Sr

end Go.Proofs.YtldbhhocoolloaaGreat

namespace Go.Proofs.YtldbhhocoolloaaGreat
open Go.RowKit
set_option linter.unusedVariables false

set_option maxRecDepth 100000 in
set_option maxHeartbeats 6400000 in
theorem sPathDer (fs : List Fn) (ap : Option Addr) (capp : Nat) (f pick : Int) (a : Option Addr) (ca : Nat) (args : List (List Int)) (w : World) (hP : Pat w 0 w.heap.size fs ap) (hsz : pgSize fs ≤ 1048576) (hM : Mat w a args) (hs : mSz args ≤ 1048576) :
    Calls Tryz.prog 36 #[.agg #[.slice ap fs.length capp], .int .i64 f, .int .i64 pick, .slice a args.length ca] w (PdRes w (pdL fs f pick args) pick) := by
  have hfl : fs.length ≤ 1048576 := by unfold pgSize at hsz; omega
  obtain ⟨w0, hw0⟩ : ∃ w0, w.alloc (.cells #[.slice ap fs.length capp] 31) = w0 := ⟨_, rfl⟩
  have hb0 : Below w.heap.size w w0 := by rw [← hw0]; exact (Below.refl _ _).alloc (Nat.le_refl _) _
  have P0 := (hP.below hb0).mono (Nat.le_refl _) hb0.size
  have M0 := hM.below hb0 (Nat.le_refl _)
  have c0 : w0.cell? ⟨w.heap.size, 0, none⟩ = some (.slice ap fs.length capp) := by rw [← hw0]; simp [go_sem]
  have HS := Lib.hid (sPath fs w.heap.size 0 ap capp f a ca args w0 c0 P0 hsz M0 hs)
  have HQ : Hid (∀ q, Below w.heap.size w (w0.drewN q)) := fun q => hb0.trans ((below_drewN (Below.refl w0.heap.size w0) q).mono hb0.size)
  by_cases hc : esC fs f args = 0
  · have hk : FnAt fs f := by
      refine Classical.byContradiction fun h => ?_
      exact esC_ne h hc
    have hk2 : (args.length : Int) = (fs.getD f.toNat noFn).params ∧ osB args = true := by
      have h := hc
      rw [esC_yes hk] at h
      by_cases h2 : (args.length : Int) = (fs.getD f.toNat noFn).params ∧ osB args = true
      · exact h2
      · rw [if_neg h2] at h; cases h
    rw [hc] at HS
    obtain ⟨k1, k2, k3⟩ := hk
    obtain ⟨j, rfl⟩ := Int.eq_ofNat_of_zero_le k2
    have ej : (j : Int).toNat = j := rfl
    rw [ej] at hk2
    have hj : j < fs.length := by omega
    have hji : (j : Int) < (fs.length : Int) := k3
    have hll : args.length ≤ 1048576 := by unfold mSz at hs; omega
    have HL2 : Hid (esL fs (j : Int) args = lisE (sA (esN args)) (evE (sA (esN args)) fs 3001) (fs.getD j noFn).outs args 0 (fs.getD j noFn).outs.len) := esL_yes hc
    have HRW : Hid ((esL fs (j : Int) args).c = 0 → (esL fs (j : Int) args).l.length = (fs.getD j noFn).outs.len ∧ ∀ i, i < (esL fs (j : Int) args).l.length → okS ((esL fs (j : Int) args).l.getD i []) = true) := fun h => esL_rows hc h
    have HIN : Hid (0 ≤ pick ∧ pick < ((fs.getD j noFn).outs.len : Int) → pdL fs (j : Int) pick args = esL fs (j : Int) args) := fun h => pdL_in h
    have HBAD : Hid (¬ (0 ≤ pick ∧ pick < ((fs.getD j noFn).outs.len : Int)) → pdL fs (j : Int) pick args = ⟨[], 0, 2⟩) := fun h => by
      have e : pdC fs (j : Int) pick args = 2 := by unfold pdC; rw [ej, if_neg h, if_pos hc]
      unfold pdL
      rw [e, if_neg (by decide)]
    obtain ⟨bf, of, rfl, hbB, hall⟩ := P0.resolve_left (by intro e; rw [e] at hj; simp at hj)
    obtain ⟨hrr, af, cf, f0, f1, f2, hFo⟩ := hall j hj
    have HI := fun W => Lib.hid (sIn pick 0 (((fs.getD j noFn).outs.len : Int) - 1) W)
    have HZ := fun (q : Nat) => Lib.hid (sSize3 a ca args (w0.drewN q) (M0.below (below_drewN (Below.refl _ _) q) (Nat.le_refl _)) (mSz_row hs) hll)
    have HT := fun (q : Nat) => Lib.hid (show Calls Tryz.prog 50 #[.pointer (some ⟨w.heap.size, 0, none⟩), .int .i64 j, .slice a args.length ca, .int .i64 (esN args)] (w0.drewN q) (EvS (esN args) (fs.getD j noFn).outs.len (w0.drewN q) (esL fs (j : Int) args)) from by rw [HL2.out]; exact sEval3 (esN args) (esN_bd hk2.2).1 (esN_bd hk2.2).2 fs w.heap.size 0 (some ⟨bf, of, none⟩) capp j (w0.drewN q).heap.size (fun g => g < (w0.drewN q).heap.size) a ca args (w0.drewN q) c0 k1 hj hfl (P0.below (below_drewN (Below.refl _ _) q)) ((M0.below (below_drewN (Below.refl w0.heap.size w0) q) (Nat.le_refl _)).en (fun i hi => esN_row hk2.2 hi)) (fun g hg => hg) hk2.1)
    have hol := (fn_parts (progB_fn k1 hj)).2.1.2
    have HNB := esN_bd hk2.2
    obtain ⟨r, hr⟩ : ∃ r, esL fs (j : Int) args = r := ⟨_, rfl⟩
    rw [hr] at HT HRW HIN
    obtain ⟨S, hS⟩ : ∃ S, pdL fs (j : Int) pick args = S := ⟨_, rfl⟩
    rw [hS] at HBAD HIN
    have HSQ := Lib.hid hS
    clear hr hS HL2 hc hk2 k1 k2 k3 hP hM P0 M0 ej hall hrr f0 f1 hFo
    generalize (fs.getD j noFn).outs.len = mo at *
    generalize esN args = N at *
    by_cases h1 : 0 ≤ pick ∧ pick < (mo : Int)
    rotate_left
    · have hi1 : inB pick 0 ((mo : Int) - 1) = false := by
        cases hb : inB pick 0 ((mo : Int) - 1) with
        | false => rfl
        | true => exfalso; apply h1; unfold inB at hb; simp at hb; omega
      rw [hi1] at HI
      have HX := Lib.hid (HBAD.out h1)
      clear HBAD HIN HRW HT HZ h1 hi1 HNB
      go_enter Tryz.func36, Tryz.ntmps36
      go_wp2_with fail
      clear hw0
      refine HS.out.mono ?_; rintro e w1 ⟨rfl, q, rfl⟩
      have f2' : (w0.drewN q).cell? ⟨bf, of + j * 3 + 2, none⟩ = some (.slice af mo cf) := f2
      have c0' : (w0.drewN q).cell? ⟨w.heap.size, 0, none⟩ = some (.slice (some ⟨bf, of, none⟩) fs.length capp) := c0
      have HBQ := HQ.out q
      have HBA := HBQ.alloc HBQ.size (.cells #[] 2)
      have HRES : Hid (∀ W, Below w.heap.size w W → ∀ a, PdRes w ⟨[], 0, 2⟩ pick (.returned (.tuple #[.slice a 0 0, .int .i64 2])) W) := fun W hW a => PdRes.fail (show ¬ (2 : Int) = 0 by decide) hW
      clear HQ HS
      go_wp2_with fail
      refine (HI _).out.mono ?_; rintro e w1 ⟨rfl, rfl⟩
      go_wp2_with fail
      go_ret2
      rw [HSQ.out, HX.out]
      exact HRES.out _ HBA _
    have hi1 : inB pick 0 ((mo : Int) - 1) = true := by unfold inB; simp; omega
    rw [hi1] at HI
    have HX := Lib.hid (HIN.out h1)
    obtain ⟨pk, hpk⟩ := Int.eq_ofNat_of_zero_le h1.1
    have hpm : pk < mo := by omega
    have hpmi : (pk : Int) < (mo : Int) := by omega
    clear HBAD HIN h1 hi1
    subst hpk
    go_enter Tryz.func36, Tryz.ntmps36
    go_wp2_with fail
    clear hw0
    refine HS.out.mono ?_; rintro e w1 ⟨rfl, q, rfl⟩
    have f2' : (w0.drewN q).cell? ⟨bf, of + j * 3 + 2, none⟩ = some (.slice af mo cf) := f2
    have c0' : (w0.drewN q).cell? ⟨w.heap.size, 0, none⟩ = some (.slice (some ⟨bf, of, none⟩) fs.length capp) := c0
    have HBQ := HQ.out q
    have HTQ := HT q
    have HZQ := HZ q
    clear HQ HS HT HZ
    go_wp2_with fail
    refine (HI _).out.mono ?_; rintro e w1 ⟨rfl, rfl⟩
    go_wp2_with fail
    refine HZQ.out.mono ?_; rintro e w1 ⟨rfl, rfl⟩
    go_wp2_with fail
    refine HTQ.out.mono ?_; rintro e w2 ⟨hb2, ⟨hcr, g, kg, L, br, rfl, hbr, hbL, hO⟩ | ⟨hcr, g, rfl⟩⟩
    · have hE := hO.en hbL
      obtain ⟨hlv, hok⟩ := HRW.out hcr
      have hpl : pk < r.l.length := by omega
      obtain ⟨b7, o7, e7, hb7, hlt7, hall⟩ := hE.rows.resolve_left (by intro e; rw [e] at hpl; simp at hpl)
      cases e7
      obtain ⟨a5, c5, hx, hls, _⟩ := hall pk hpl
      rw [Nat.zero_add] at hx
      have hl5 := hE.len pk hpl
      have hnm := hE.nums pk hpl
      have HD := Lib.hid (show Calls Tryz.prog 76 #[.slice a5 N c5] w2 (Fresh w2 (dls (r.l.getD pk []))) from by rw [← hl5]; exact sDer a5 c5 (r.l.getD pk []) w2 hls.at_ (Sr.rngs hnm) (by omega) (by omega))
      have HV : Hid (pdV r (pk : Int) = dls (r.l.getD pk [])) := pdV_yes hcr
      have HCR := Lib.hid hcr
      have B2 : Below w.heap.size w w2 := HBQ.trans (hb2.mono HBQ.size)
      have hs2 := B2.size
      clear HRW hE hO hall hls hl5 hnm hok hcr hlv
      generalize r.l.getD pk [] = row at *
      go_wp2_with fail
      refine HD.out.mono ?_; rintro e w5 ⟨g5, c5', rfl, ho5, hb5⟩
      go_wp2_with fail
      go_ret2
      rw [HSQ.out, HX.out]
      exact ⟨some ⟨g5, 0, none⟩, c5', by rw [HV.out, HCR.out]; rfl, by rw [HV.out]; exact (ho5.mono hs2).a, B2.trans (hb5.mono hs2)⟩
    · have hbf : (r.c != 0) = true := by simp [hcr]
      have HNC := Lib.hid hcr
      have B2 : Below w.heap.size w w2 := HBQ.trans (hb2.mono HBQ.size)
      have HBA := B2.alloc B2.size (.cells #[] 2)
      have HRES : Hid (∀ W, Below w.heap.size w W → ∀ a, PdRes w r (pk : Int) (.returned (.tuple #[.slice a 0 0, .int .i64 r.c])) W) := fun W hW a => PdRes.fail HNC.out hW
      clear HRW hcr
      go_wp2_with fail
      go_ret2
      rw [HSQ.out, HX.out]
      exact HRES.out _ HBA _
  · have HX : Hid (pdL fs f pick args = ⟨[], 0, esC fs f args⟩) := by show _ = _; unfold pdL pdC; rw [if_neg hc, if_neg hc]
    have HNC := Lib.hid hc
    have hbf : (esC fs f args == 0) = false := by simp [hc]
    have hbf2 : (esC fs f args != 0) = true := by simp [hc]
    clear hc hP hM P0 M0 c0
    generalize esC fs f args = pc at *
    go_enter Tryz.func36, Tryz.ntmps36
    go_wp2_with fail
    clear hw0
    refine HS.out.mono ?_; rintro e w1 ⟨rfl, q, rfl⟩
    have HBQ := HQ.out q
    clear HS HQ
    have HRES : Hid (∀ W, Below w.heap.size w W → ∀ a, PdRes w ⟨[], 0, pc⟩ pick (.returned (.tuple #[.slice a 0 0, .int .i64 pc])) W) := fun W hW a => PdRes.fail HNC.out hW
    have HBA := HBQ.alloc HBQ.size (.cells #[] 2)
    go_wp2_with fail
    go_ret2
    rw [HX.out]
    exact HRES.out _ HBA _

end Go.Proofs.YtldbhhocoolloaaGreat

namespace Go.Proofs.YtldbhhocoolloaaGreat
open Go.RowKit
set_option linter.unusedVariables false

theorem Out.below {L B : Nat} {w w' : World} (h : Out L B w w') (hL : L ≤ w.heap.size) : Below L w w' := ⟨h.os, h.tape, h.output, h.size, fun k hk => h.block k (by omega) (by omega)⟩
theorem pdV_len {fs : List Fn} {f pick : Int} {args : List (List Int)} : (pdV (pdL fs f pick args) pick).length ≤ 1048576 := by
  by_cases hc : (pdL fs f pick args).c = 0
  · rw [pdV_yes hc, dls_len]
    by_cases hp : pdC fs f pick args = 0
    · have e : pdL fs f pick args = esL fs f args := if_pos hp
      rw [e] at hc ⊢
      have h0 : esC fs f args = 0 := Classical.byContradiction fun hn => by rw [esL_no hn] at hc; exact hn hc
      by_cases hi : pick.toNat < (esL fs f args).l.length
      · have := (okS_t ((esL_rows h0 hc).2 _ hi)).2.1
        omega
      · rw [List.getD_eq_getElem?_getD, List.getElem?_eq_none (by omega)]; simp
    · have e : pdL fs f pick args = ⟨[], 0, pdC fs f pick args⟩ := if_neg hp
      rw [e]
      simp
  · rw [pdV_no hc]; simp
theorem Mo.keepS {w w' : World} {L g kg n k : Nat} {ls : List (List Int)} {R K : Nat → Nat} {S : Nat → Prop} (h : Mo w L g kg n k ls R K) (q : Kp S w w') (hS : ∀ b, S b → b < L) : Mo w' L g kg n k ls R K := by
  have hgb := h.base
  obtain ⟨vs, ⟨h0, h1⟩, h2⟩ := h.top
  refine ⟨⟨vs, ⟨h0, ?_⟩, h2⟩, fun i hi => ?_, h.ne, h.inj⟩
  · rcases h1 with h1 | ⟨g', c', cur, e, hB, hh, r⟩
    · exact .inl h1
    · refine .inr ⟨g', c', cur, e, hB, ?_, r⟩
      rw [q.block g' (Array.getElem?_eq_some_iff.1 hh).1 (fun hs => by have := hS _ hs; omega)]; exact hh
  · have hr := (h.row i hi).base
    exact OwR.keep (h.row i hi).owr q (fun p hp => by cases hp; intro hs; have h9 : R i < L := hS _ hs; omega)

set_option maxRecDepth 100000 in
set_option maxHeartbeats 12800000 in
theorem wFnExactPathDerivative (v0 v1 v2 v3 : Value) (w : World) (h0 : IsProg w v0) (h1 : IsI64 w v1) (h2 : IsI64 w v2) (h3 : IsMat w v3) :
    Calls Tryz.prog 9 #[v0, v1, v2, v3] w fun e w' => e = .returned (.bool true) ∧ Below w.heap.size w w' := by
  obtain ⟨a, cap, l, rfl, hP, hlen⟩ := h0
  obtain ⟨f, rfl, hf1, hf2⟩ := h1
  obtain ⟨pick, rfl, hk1, hk2⟩ := h2
  obtain ⟨aa, ca, args, rfl, hA, hrng, hal9, hrl9⟩ := h3
  clear hf1 hf2 hk1 hk2 hrng
  obtain ⟨w0, hw0⟩ : ∃ w0, w0 = w.alloc (.cells #[.slice a l.length cap] 24) := ⟨_, rfl⟩
  have hb0 : Below w.heap.size w w0 := by rw [hw0]; exact (Below.refl _ _).alloc (Nat.le_refl _) _
  have z0 : w0.heap.size = w.heap.size + 1 := by rw [hw0]; simp
  have c0 : w0.cell? ⟨w.heap.size, 0, none⟩ = some (.slice a l.length cap) := by rw [hw0]; simp [go_sem]
  have hP0 : Pat w0 0 w0.heap.size l a := (hP.below hb0).mono (Nat.le_refl _) hb0.size
  have hA0 := hA.below hb0 (Nat.le_refl _)
  have hlm : l.length ≤ maxLen := hlen
  have HZ := Lib.hid (szProgram l a cap 1048576 w0 hP0 hlm (by omega) (by omega))
  by_cases hs : ((pgSize l : Nat) : Int) ≤ 1048576
  · have hsz : pgSize l ≤ 1048576 := by omega
    rw [szv_t hs] at HZ
    have hy : 0 ≤ 1048576 - ((pgSize l : Nat) : Int) := by omega
    have hd : decide (1048576 - ((pgSize l : Nat) : Int) < 0) = false := decide_eq_false (by omega)
    have hll : l.length ≤ 1048576 := by unfold pgSize at hsz; omega
    have HZ2 := fun W (hA : Mat W aa args) => Lib.hid (szMat aa ca args (1048576 - ((pgSize l : Nat) : Int)) W hA hal9 hrl9 hy (by omega))
    by_cases hms : ((mSz args : Nat) : Int) ≤ 1048576 - ((pgSize l : Nat) : Int)
    rotate_left
    · have e9 : mzR args (1048576 - ((pgSize l : Nat) : Int)) = -1 := by unfold mzR; rw [if_neg hms]
      rw [e9] at HZ2
      clear hms e9 hal9 hrl9
      generalize 1048576 - ((pgSize l : Nat) : Int) = lv at *
      go_enter Tryz.func9, Tryz.ntmps9
      go_wp2_with fail
      rw [← hw0]
      clear hw0
      refine (HZ.out).mono ?_; rintro e w1 ⟨rfl, hb1⟩
      have HZ3 := HZ2 w1 (hA0.below hb1 (Nat.le_refl _))
      clear HZ2
      go_wp2_with fail
      refine HZ3.out.mono ?_; rintro e w2 ⟨rfl, rfl⟩
      go_wp2_with fail
      go_ret
      exact ⟨rfl, hb0.trans (hb1.mono (by omega))⟩
    have hy2 : 0 ≤ mzR args (1048576 - ((pgSize l : Nat) : Int)) := by unfold mzR; rw [if_pos hms]; omega
    have hd2 : decide (mzR args (1048576 - ((pgSize l : Nat) : Int)) < 0) = false := decide_eq_false (by omega)
    have hsm : mSz args ≤ 1048576 := by omega
    have HKA : Hid (lenK args args.length ≤ 1048576) := by show _ ≤ _; unfold mSz at hsm; omega
    clear hms hal9 hrl9
    generalize mzR args (1048576 - ((pgSize l : Nat) : Int)) = lv2 at *
    generalize 1048576 - ((pgSize l : Nat) : Int) = lv at HZ HZ2 hy hd
    go_enter Tryz.func9, Tryz.ntmps9
    go_wp2_with fail
    rw [← hw0]
    clear hw0 hs
    refine (HZ.out).mono ?_; rintro e w1 ⟨rfl, hb1⟩
    have c1 := (hb1.cell (p := ⟨w.heap.size, 0, none⟩) (by show w.heap.size < _; omega)).trans c0
    have z1 := hb1.size
    have hP1 := (hP0.below hb1).mono (Nat.le_refl _) hb1.size
    have hA1 := hA0.below hb1 (Nat.le_refl _)
    have HZ3 := HZ2 w1 hA1
    clear HZ HZ2
    go_wp2_with fail
    refine HZ3.out.mono ?_; rintro e w1' ⟨rfl, rfl⟩
    clear HZ3
    go_wp2_with fail
    refine (toProgram l a cap _ hP1 hsz).mono ?_; rintro e w2 ⟨g2, rfl, hQ2, hb2⟩
    have c2 := (hb2.cell (p := ⟨w.heap.size, 0, none⟩) (by show w.heap.size < _; omega)).trans c1
    have z2 := hb2.size
    have hP2 := (hP1.below hb2).mono (Nat.le_refl _) hb2.size
    have hA2 := hA1.below hb2 (Nat.le_refl _)
    clear c1 hP1 hy hd hy2 hd2
    go_wp2_with fail
    refine (toMat aa ca args _ hA2 hsm).mono ?_; rintro e wi ⟨gi, rfl, ⟨Ri, Ki, mi⟩, hbi2⟩
    have ci2 := (hbi2.cell (p := ⟨w.heap.size, 0, none⟩) (by show w.heap.size < _; omega)).trans c2
    have zi := hbi2.size
    have hPi := (hP2.below hbi2).mono (Nat.le_refl _) hbi2.size
    have hAi := hA2.below hbi2 (Nat.le_refl _)
    have hQi := ((hQ2.mono (Nat.zero_le _) (Nat.le_refl _)).below hbi2).mono (Nat.le_refl _) hbi2.size
    have mMi := mi.mat rfl
    clear c2 hP2 hQ2 mi
    go_wp2_with fail
    have hvl : (pdV (pdL l f pick args) pick).length ≤ 1048576 := pdV_len
    obtain ⟨LV, hLV⟩ : ∃ LV, pdV (pdL l f pick args) pick = LV := ⟨_, rfl⟩
    obtain ⟨C, hC⟩ : ∃ C, (pdL l f pick args).c = C := ⟨_, rfl⟩
    rw [hLV] at hvl
    have HIT := fun (ga g : Nat) (W : World) (hP : Pat W 0 W.heap.size l (some ⟨g, 0, none⟩)) (hA : Mat W (some ⟨ga, 0, none⟩) args) => Lib.hid (show Calls Tryz.prog 37 #[.agg #[.slice (some ⟨g, 0, none⟩) l.length l.length], .int .i64 f, .int .i64 pick, .slice (some ⟨ga, 0, none⟩) args.length args.length] W (fun e w' => ∃ a ca, e = .returned (.tuple #[.slice a LV.length ca, .int .i64 C]) ∧ OwnA W.heap.size w' a ca LV ∧ Below W.heap.size W w') from (Sr.iPathDer l (some ⟨g, 0, none⟩) l.length f pick (some ⟨ga, 0, none⟩) args.length args W hP hsz (Nat.le_refl _) hll hA hsm).mono (fun e w' ⟨a, ca, he, h1, h3⟩ => ⟨a, ca, by rw [← hC, ← hLV]; exact he, by rw [← hLV]; exact h1, h3⟩))
    have HST := Lib.hid (show Calls Tryz.prog 36 #[.agg #[.slice (some ⟨g2, 0, none⟩) l.length l.length], .int .i64 f, .int .i64 pick, .slice (some ⟨gi, 0, none⟩) args.length args.length] wi (fun e w' => ∃ a ca, e = .returned (.tuple #[.slice a LV.length ca, .int .i64 C]) ∧ At w' a LV ∧ Below wi.heap.size wi w') from (sPathDer l _ l.length f pick _ args.length args _ hQi hsz mMi hsm).mono (fun e w' ⟨a, ca, he, h1, h3⟩ => ⟨a, ca, by rw [← hC, ← hLV]; exact he, by rw [← hLV]; exact h1.at, h3⟩))
    clear hLV hC
    refine HST.out.mono ?_; rintro e w3 ⟨aw, cw, rfl, HMW, hb3⟩
    have c3 := (hb3.cell (p := ⟨w.heap.size, 0, none⟩) (by show w.heap.size < _; omega)).trans ci2
    have z3 := hb3.size
    have hP3 := (hPi.below hb3).mono (Nat.le_refl _) hb3.size
    have hA3 := hAi.below hb3 (Nat.le_refl _)
    have hbB : Below w.heap.size w w3 := ((((hb0.trans (hb1.mono (by omega))).trans (hb2.mono (by omega))).trans (hbi2.mono (by omega))).trans (hb3.mono (by omega)))
    clear ci2 hPi hQi mMi HST
    go_wp2_with fail
    refine (toProgramW l a cap _ hP3 hsz).mono ?_; rintro e w4 ⟨g4, rfl, hQ4, hb4⟩
    have c4 := (hb4.cell (p := ⟨w.heap.size, 0, none⟩) (by show w.heap.size < _; omega)).trans c3
    have z4 := hb4.size
    obtain ⟨w5, hw5⟩ : ∃ w5, w5 = w4.alloc (.cells #[.slice (some ⟨g4, 0, none⟩) l.length l.length] 31) := ⟨_, rfl⟩
    have hb5 : Below w4.heap.size w4 w5 := by rw [hw5]; exact (Below.refl _ _).alloc (Nat.le_refl _) _
    have z5 : w5.heap.size = w4.heap.size + 1 := by rw [hw5]; simp
    have c5 := (hb5.cell (p := ⟨w.heap.size, 0, none⟩) (by show w.heap.size < _; omega)).trans c4
    have x5 : w5.cell? ⟨w4.heap.size, 0, none⟩ = some (.slice (some ⟨g4, 0, none⟩) l.length l.length) := by rw [hw5]; simp [go_sem]
    have hQ5 := (hQ4.pat.below hb5).mono (Nat.zero_le _) hb5.size
    have HB5 : Below w3.heap.size w3 w5 := hb4.trans (hb5.mono hb4.size)
    have hS4 := hQ4.spt hsz
    have hgb := hS4.1
    have hA5 := hA3.below HB5 (Nat.le_refl _)
    clear hQ4
    have lw : w.heap.size < w4.heap.size := by omega
    go_wp2_with fail
    rw [← hw5]
    clear hw5 c4
    refine (toMat aa ca args _ hA5 hsm).mono ?_; rintro e wx ⟨gx, rfl, ⟨Rx, Kx, mX⟩, hbx⟩
    have zx := hbx.size
    have HBx : Below w3.heap.size w3 wx := HB5.trans (hbx.mono HB5.size)
    have xx := (hbx.cell (p := ⟨w4.heap.size, 0, none⟩) (by show w4.heap.size < _; omega)).trans x5
    have hQx := (hQ5.below hbx).mono (Nat.le_refl _) hbx.size
    have H4x : Below w4.heap.size w4 wx := hb5.trans (hbx.mono hb5.size)
    have HXU : Hid (∀ i, i < args.length → w5.heap.size ≤ Rx i ∧ Rx i < wx.heap.size) := fun i hi => (mX.row i hi).base
    clear c5 x5 hQ5 hA5
    go_wp2_with fail
    have HI6 := HIT gx _ _ hQx (mX.mat rfl)
    refine HI6.out.mono ?_; rintro e w6 ⟨a6, c6, rfl, hM6, hb6⟩
    have z6 := hb6.size
    have HB6 : Below w3.heap.size w3 w6 := HBx.trans (hb6.mono HBx.size)
    have H46 : Below w4.heap.size w4 w6 := H4x.trans (hb6.mono H4x.size)
    have mX6 := mX.next hb6
    have hW6 := HMW.below HB6 (Nat.le_refl _)
    have hQ6 := (hQx.below hb6).mono (Nat.le_refl _) hb6.size
    have x6 := (hb6.cell (p := ⟨w4.heap.size, 0, none⟩) (by show w4.heap.size < _; omega)).trans xx
    clear HI6 hQx xx mX
    go_wp2_with fail
    refine (eqInt64S a6 aw c6 cw LV _ hM6.at hW6 (by omega)).mono ?_; rintro e w7 ⟨rfl, hb7⟩
    have z7 := hb7.size
    have HB7 : Below w3.heap.size w3 w7 := HB6.trans (hb7.mono HB6.size)
    have H47 : Below w4.heap.size w4 w7 := H46.trans (hb7.mono H46.size)
    have hM7 := hM6.below hb7
    have mX7 := mX6.next hb7
    have c7 := (HB7.cell (p := ⟨w.heap.size, 0, none⟩) (by show w.heap.size < _; omega)).trans c3
    have x7 := (hb7.cell (p := ⟨w4.heap.size, 0, none⟩) (by show w4.heap.size < _; omega)).trans x6
    have hQ7 := (hQ6.below hb7).mono (Nat.le_refl _) hb7.size
    have hP7 := (hP3.below HB7).mono (Nat.le_refl _) HB7.size
    have hne2 : (C != C) = false := by simp
    have HT := fun (W : World) (hW : Below w7.heap.size w7 W) => Lib.hid (toProgram l a cap W ((hP7.below hW).mono (Nat.le_refl _) hW.size) hsz)
    clear hM6 hW6 hQ6 mX6 x6
    go_wp2_with fail
    have l1 : w.heap.size < w7.heap.size := by omega
    have l2 : w4.heap.size < w7.heap.size := by omega
    go_region_held3 (fun w' => w'.cell? ⟨w.heap.size, 0, none⟩ = some (.slice a l.length cap) ∧ w'.cell? ⟨w4.heap.size, 0, none⟩ = some (.slice (some ⟨g4, 0, none⟩) l.length l.length))
      (first
        | exact ⟨c7, x7⟩
        | exact ⟨(hb9.cell (p := ⟨w.heap.size, 0, none⟩) l1).trans c7, (hb9.cell (p := ⟨w4.heap.size, 0, none⟩) l2).trans x7⟩
        | exact ⟨(hb8.cell (p := ⟨w.heap.size, 0, none⟩) l1).trans c7, (hb8.cell (p := ⟨w4.heap.size, 0, none⟩) l2).trans x7⟩
        | go_keep)
      (first
        | (go_at_call 13; refine (HT _ (below_drew (Below.refl _ _))).out.mono ?_; rintro e w8 ⟨g8, rfl, hQ8, hb8'⟩; have hb8 : Below w7.heap.size w7 w8 := ⟨hb8'.os, hb8'.tape, hb8'.output, hb8'.size, hb8'.block⟩)
        | (go_at_call 17; refine (eqProgram l _ _ _ _ _ ((hQ7.below hb8).mono (Nat.le_refl _) hb8.size) (hQ8.mono (Nat.zero_le _) (Nat.le_refl _)) hlm).mono ?_; rintro e w9 ⟨rfl, hb9'⟩; have hb9 : Below w7.heap.size w7 w9 := hb8.trans (hb9'.mono hb8.size)))
    all_goals
      have HB9 : Below w3.heap.size w3 w9 := HB7.trans (hb9.mono HB7.size)
      have H49 : Below w4.heap.size w4 w9 := H47.trans (hb9.mono H47.size)
      have hM9 := hM7.below hb9
      have mX9 := mX7.next hb9
      have x9 := (hb9.cell (p := ⟨w4.heap.size, 0, none⟩) l2).trans x7
      clear HT hQ7 hQ8 hP7 c7 x7 hM7 mX7 hb8' hb9' c0 hP0 hP
      go_wp2_with fail
      refine (toMat aa ca args _ (hA3.below HB9 (Nat.le_refl _)) hsm).mono ?_; rintro e wp ⟨gp, rfl, ⟨Rp, Kp', mP⟩, hbp⟩
      have HBp : Below w3.heap.size w3 wp := HB9.trans (hbp.mono HB9.size)
      have H4p : Below w4.heap.size w4 wp := H49.trans (hbp.mono H49.size)
      have hMp := hM9.below hbp
      have mXp := mX9.next hbp
      clear hM9 mX9
      go_wp2_with fail
      refine (eqMat _ _ _ _ args _ (mXp.mat rfl) (mP.mat rfl) hsm).mono ?_; rintro e wz ⟨rfl, hbz⟩
      have HBz : Below w3.heap.size w3 wz := HBp.trans (hbz.mono HBp.size)
      have H4z : Below w4.heap.size w4 wz := H4p.trans (hbz.mono H4p.size)
      have hMz := hMp.below hbz
      have mXz := mXp.next hbz
      have zz := H4z.size
      have cz := (HBz.cell (p := ⟨w.heap.size, 0, none⟩) (by show w.heap.size < _; omega)).trans c3
      have xz := ((hbp.trans (hbz.mono hbp.size)).cell (p := ⟨w4.heap.size, 0, none⟩) (by show w4.heap.size < _; have := hb9.size; omega)).trans x9
      have hM0 : Mp w3.heap.size w4.heap.size g4 w4 wz := Mp.of_below H4z (Nat.le_refl _) hgb.2
      have hSz : Spt wz w3.heap.size w4.heap.size l g4 := by
        obtain ⟨h1, h2, h3⟩ := hS4
        refine ⟨h1, fun o => (hM0.frz g4 o (by omega)).trans (h2 o), fun i hi => ?_⟩
        obtain ⟨q0, b', cap', q1, q2, q3, q4⟩ := h3 i hi
        exact ⟨q0, b', cap', hM0.strs _ q1, hM0.ints _ q2, hM0.outs _ _ q3, hM0.trees q4⟩
      have HMk := Lib.hid (markProgram w3.heap.size w4.heap.size l g4 l.length 1 wz hSz zz hsz (by omega))
      clear mP hMp mXp x9 hS4 hSz hM0
      go_wp2_with fail
      refine (HMk.out).mono ?_; rintro e w10 ⟨x, rfl, hxm, hMpp⟩
      have HO := hMpp.out
      have z10 := HO.size
      have HB10 : Below w3.heap.size w3 w10 := HBz.trans (HO.below HBz.size)
      have hM10 := hMz.keep (S := fun b => w3.heap.size ≤ b ∧ b < w4.heap.size) ⟨HO.os, HO.tape, HO.output, HO.size, HO.block⟩ (fun g hg hs => by have := (hMz.lt g hg).1; omega)
      have mX10 := mXz.keepS (S := fun b => w3.heap.size ≤ b ∧ b < w4.heap.size) ⟨HO.os, HO.tape, HO.output, HO.size, HO.block⟩ (fun b hb => by omega)
      have c10 := (HB10.cell (p := ⟨w.heap.size, 0, none⟩) (by show w.heap.size < _; omega)).trans c3
      have hKA := HKA.out
      clear HMk hMpp hMz mXz cz xz
      go_wp2_with fail
      refine (markMat _ _ _ args Rx Kx x x _ _ rfl mX10 hsm (by omega)).mono ?_; rintro e w12 ⟨rfl, _, hk12⟩
      have HB12 : Below w3.heap.size w3 w12 := HB10.trans (b := w10) ⟨hk12.os, hk12.tape, hk12.output, hk12.size, fun q hq => hk12.block q (Nat.lt_of_lt_of_le hq HB10.size) (fun ⟨i, hi, e⟩ => by have := HXU.out i hi; omega)⟩
      have hM12 := hM10.keep (S := fun b => ∃ i, i < args.length ∧ Rx i = b) hk12 (fun g hg ⟨i, hi, e⟩ => by have := HXU.out i hi; have := (hM10.lt g hg).1; omega)
      have c12 := (HB12.cell (p := ⟨w.heap.size, 0, none⟩) (by show w.heap.size < _; omega)).trans c3
      have hx0 : ¬ (x : Int) + (lenK args args.length : Int) < 0 := by omega
      clear hM10 mX10 c10 hk12 HXU
      go_wp2_with fail
      refine (eqInt64S a6 aw c6 cw LV _ hM12.at (HMW.below HB12 (Nat.le_refl _)) (by omega)).mono ?_; rintro e w13 ⟨rfl, hb13⟩
      have HB13 : Below w3.heap.size w3 w13 := HB12.trans (hb13.mono HB12.size)
      have hM13 := hM12.below hb13
      have c13 := (HB13.cell (p := ⟨w.heap.size, 0, none⟩) (by show w.heap.size < _; omega)).trans c3
      clear hM12 c12
      go_wp2_with fail
      refine (markAt _ _ _ LV 1 1 _ (by omega) hM13 (by omega) (by omega)).mono ?_; rintro e w14 ⟨rfl, hM14, hg14⟩
      have HB14 := HB13.grown hg14 HB13.size (fun g hg => Nat.le_trans (by omega) (hM13.lt g hg).1)
      have c14 := (HB14.cell (p := ⟨w.heap.size, 0, none⟩) (by show w.heap.size < _; omega)).trans c3
      have hq0 : ¬ (1 : Int) + (LV.length : Int) < 0 := by omega
      clear hM13 c13 hg14
      go_wp2_with fail
      refine (heldAt _ _ LV.length 1 1 _ (by omega) hM14.at (by omega) (by omega)).mono ?_; rintro e w' ⟨rfl, rfl⟩
      have hP14 := (hP3.below HB14).mono (Nat.le_refl _) HB14.size
      go_wp2_with fail
      refine (toProgram l a cap _ hP14 hsz).mono ?_; rintro e w15 ⟨g15, rfl, hQ15, hb15⟩
      have HB15 : Below w3.heap.size w3 w15 := HB14.trans (hb15.mono HB14.size)
      have hM15 := hM14.below hb15
      clear hM14 c14 hP14
      go_wp2_with fail
      refine (toMat aa ca args _ (hA3.below HB15 (Nat.le_refl _)) hsm).mono ?_; rintro e w16 ⟨g16, rfl, ⟨R16, K16, m16⟩, hb16⟩
      have HB16 : Below w3.heap.size w3 w16 := HB15.trans (hb16.mono HB15.size)
      have hM17 := hM15.below hb16
      have hQ16 := ((hQ15.mono (Nat.zero_le _) (Nat.le_refl _)).below hb16).mono (Nat.le_refl _) hb16.size
      have HI17 := HIT g16 _ _ hQ16 (m16.mat rfl)
      clear hM15 hQ15 hQ16 m16 HIT
      go_wp2_with fail
      refine HI17.out.mono ?_; rintro e w18 ⟨a18, c18, rfl, hM18, hb18⟩
      have HB18 : Below w3.heap.size w3 w18 := HB16.trans (hb18.mono HB16.size)
      have hM18' := hM17.below hb18
      clear hM17 HI17
      go_wp2_with fail
      refine (eqInt64S a18 aw c18 cw LV _ hM18.at (HMW.below HB18 (Nat.le_refl _)) (by omega)).mono ?_; rintro e w19 ⟨rfl, hb19⟩
      have HB19 : Below w3.heap.size w3 w19 := HB18.trans (hb19.mono HB18.size)
      have hM19 := hM18'.below hb19
      clear hM18 hM18'
      go_wp2_with fail
      refine (heldAt _ _ LV.length 1 1 _ (by omega) hM19.at (by omega) (by omega)).mono ?_; rintro e w' ⟨rfl, rfl⟩
      go_wp2_with fail
      go_ret
      exact ⟨rfl, hbB.trans (HB19.mono hbB.size)⟩
  · rw [szv_f hs] at HZ
    go_enter Tryz.func9, Tryz.ntmps9
    go_wp2_with fail
    rw [← hw0]
    clear hw0 hs
    refine (HZ.out).mono ?_; rintro e w1 ⟨rfl, hb1⟩
    go_wp2_with fail
    go_ret
    exact ⟨rfl, hb0.trans (hb1.mono (by omega))⟩

end Go.Proofs.YtldbhhocoolloaaGreat
